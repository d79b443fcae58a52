/- schema.isIn, schema.Within: walks. -/
import Derived.Test.YtjamkfkbajhefaaGreatDoorZk7
import Derived.Lib.SplitLaws
import Derived.Test.YtjamkfkbajhefaaGreatDoorZk6
import Derived.Shelf.Small.Strs
import Derived.Shelf.LaysM
import Derived.Shelf.Strconv.Itoa3
import Derived.Test.YtjamkfkbajhefaaGreatDoorProg
import Derived.Test.YtjamkfkbajhefaaGreatDoorZk0
import Derived.Lib.OthersKept
import Derived.BigCall
import Derived.RegionTactic
import Derived.Deep.QuietTactic
import Derived.BigQuiet
namespace Go.Proofs.YtjamkfkbajhefaaGreatDoor
open Go.RowKit

/-- The same field, but for how its name is written. -/
def sameF (x y : Fd) : Bool := decide (x.k = y.k) && (decide (x.m = y.m) && sameL x.n.data.toList y.n.data.toList)
def isInL (x : Fd) (l : List Fd) : Bool := l.any (sameF x)
def withinL (a b : List Fd) : Bool := a.all fun x => isInL x b
theorem isIn_yes {x : Fd} {l : List Fd} {k : Nat} (h : k < l.length) (hk : sameF x l[k] = true) : isInL x l = true := List.any_eq_true.2 ⟨_, List.getElem_mem h, hk⟩
theorem isIn_no {x : Fd} {l : List Fd} (h : ∀ (k : Nat) (hk : k < l.length), sameF x l[k] = false) : isInL x l = false := by
  unfold isInL
  rw [List.any_eq_false]
  intro y hy
  obtain ⟨j, hj, rfl⟩ := List.getElem_of_mem hy
  rw [h j hj]
  exact Bool.false_ne_true
theorem within_no {a b : List Fd} {k : Nat} (h : k < a.length) (hk : isInL a[k] b = false) : withinL a b = false := by
  unfold withinL
  rw [List.all_eq_false]
  exact ⟨_, List.getElem_mem h, by rw [hk]; exact Bool.false_ne_true⟩
theorem within_yes {a b : List Fd} (h : ∀ (k : Nat) (hk : k < a.length), isInL a[k] b = true) : withinL a b = true := by
  unfold withinL
  rw [List.all_eq_true]
  intro y hy
  obtain ⟨j, hj, rfl⟩ := List.getElem_of_mem hy
  exact h j hj
set_option maxRecDepth 100000 in
set_option maxHeartbeats 2000000 in
theorem isIn_any (x : Fd) (v : Value) (l : List Fd) (w : World) (hr : IsRow w 3 v l.length (fCells l)) (hl : l.length ≤ 1000000) (hx : x.n.size ≤ 1000000) (hn : NmF l) (hT : UT w) :
    Calls Tryz.prog 30 #[fV x, v] w fun e w' => e = .returned (.bool (isInL x l)) ∧ Below w.heap.size w w' := by
  obtain ⟨a0, cap0, rfl⟩ := hr.form
  have HR : Hid (IsRow w 3 (.slice a0 l.length cap0) l.length (fCells l)) := hr
  have HS : Hid (∀ (k : Nat) (h : k < l.length) (w' : World), Below w.heap.size w w' → Calls Tryz.prog 29 #[.string x.n, .string l[k].n] w' fun e w'' => e = .returned (.bool (sameL x.n.data.toList l[k].n.data.toList)) ∧ Below w'.heap.size w' w'') := fun k h w' h' => same_any _ _ w' hx (hn _ (List.getElem_mem h)) (Utf8Tabs_below hT h')
  clear hr hn hT hx
  obtain ⟨n, kk, m⟩ := x
  have hA := al_b w (.cells #[.string n, .int .i64 kk, .bool m] 48)
  go_enter Tryz.func30, Tryz.ntmps30
  go_wp2_with fail
  go_loopw [4, 9] (fun r i wr => r = .bool false ∧ ∃ k : Nat, k ≤ l.length ∧ i = .int .i64 (k : Int) ∧ Hid (∀ (j : Nat) (h : j < l.length), j < k → sameF ⟨n, kk, m⟩ l[j] = false) ∧ wr.heap[w.heap.size]? = some (.cells #[.string n, .int .i64 kk, .bool m] 48) ∧ Below w.heap.size w wr) (fun _ i _ => l.length - (intOf i).toNat)
  case atStart => exact ⟨rfl, 0, Nat.zero_le _, rfl, fun j h hj => absurd hj (Nat.not_lt_zero _), new_at _ _, hA⟩
  case round =>
    obtain ⟨rfl, k, hk, rfl, HO, hZ, hB⟩ := hrel
    clear hA
    by_cases hlk : k < l.length
    · have dk : decide ((k : Int) < l.length) = true := by simp; omega
      obtain ⟨b, off, rfl, hlt, hcap, hc⟩ := f_at (HR.out.below hB) (by omega)
      obtain ⟨ck0, ck1, ck2⟩ := hc k hlk
      have hAl := al_b wr (.cells #[.string l[k].n, .int .i64 l[k].k, .bool l[k].m] 48)
      have hzl : w.heap.size < wr.heap.size := (Array.getElem?_eq_some_iff.1 hZ).1
      have hB1 := hB.trans (hAl.mono hB.size)
      have hZ1 := (hAl.block _ hzl).trans hZ
      obtain ⟨z0, z1, z2, -, -, -⟩ := z3 hZ1
      have HSk : Hid (Calls Tryz.prog 29 #[.string n, .string l[k].n] (wr.alloc (.cells #[.string l[k].n, .int .i64 l[k].k, .bool l[k].m] 48)) fun e w'' => e = .returned (.bool (sameL n.data.toList l[k].n.data.toList)) ∧ Below (wr.alloc (.cells #[.string l[k].n, .int .i64 l[k].k, .bool l[k].m] 48)).heap.size (wr.alloc (.cells #[.string l[k].n, .int .i64 l[k].k, .bool l[k].m] 48)) w'') := HS.out k hlk _ hB1
      have HN : Hid (∀ w', Below (wr.alloc (.cells #[.string l[k].n, .int .i64 l[k].k, .bool l[k].m] 48)).heap.size (wr.alloc (.cells #[.string l[k].n, .int .i64 l[k].k, .bool l[k].m] 48)) w' → w'.heap[w.heap.size]? = some (.cells #[.string n, .int .i64 kk, .bool m] 48) ∧ Below w.heap.size w w') := fun w' h =>
        ⟨(h.block _ (Nat.lt_of_lt_of_le hzl hAl.size)).trans hZ1, hB1.trans (h.mono hB1.size)⟩
      have HNz := HN.out _ (Below.refl _ _)
      have HO2 : Hid (sameF ⟨n, kk, m⟩ l[k] = false → ∀ (j : Nat) (h : j < l.length), j < k + 1 → sameF ⟨n, kk, m⟩ l[j] = false) := fun hs j h hj => by
        by_cases e : j = k
        · subst e; exact hs
        · exact HO.out j h (by omega)
      have HY : Hid (sameF ⟨n, kk, m⟩ l[k] = true → isInL ⟨n, kk, m⟩ l = true) := fun hs => isIn_yes hlk hs
      have HD : Hid (sameF ⟨n, kk, m⟩ l[k] = (decide (kk = l[k].k) && (decide (m = l[k].m) && sameL n.data.toList l[k].n.data.toList))) := rfl
      generalize sameL n.data.toList l[k].n.data.toList = r at *
      generalize sameF ⟨n, kk, m⟩ l[k] = q at *
      generalize l[k]'hlk = y at *
      obtain ⟨n', kk', m'⟩ := y
      have HDD : Hid (q = (decide (kk = kk') && (decide (m = m') && r))) := HD.out
      clear hc HO hAl hB1 HD hZ1
      by_cases hkk : kk = kk'
      · have hkd := decide_eq_true hkk
        subst hkk
        by_cases hm : m = m'
        · have hq : q = r := by rw [HDD.out, hkd, decide_eq_true hm]; rfl
          subst hm
          clear HDD HNz hkd
          cases m with
          | false =>
            cases r with
            | true =>
              go_wp2_with fail
              refine HSk.out.mono ?_
              rintro e w1 ⟨rfl, hb⟩
              have HBB : Hid (Below w.heap.size w w1) := (HN.out w1 hb).2
              clear hb hB
              go_wp2
              go_ret
              exact ⟨by rw [HY.out hq]; rfl, HBB.out⟩
            | false =>
              go_wp2_with fail
              refine HSk.out.mono ?_
              rintro e w1 ⟨rfl, hb⟩
              have HBB : Hid (w1.heap[w.heap.size]? = some (.cells #[.string n, .int .i64 kk, .bool _] 48) ∧ Below w.heap.size w w1) := HN.out w1 hb
              clear hb hB
              go_wp2
              go_roundw
              case rel => exact ⟨rfl, k + 1, by omega, by simp, HO2.out hq, HBB.out.1, HBB.out.2⟩
              case measure => simp [intOf]; omega
          | true =>
            cases r with
            | true =>
              go_wp2_with fail
              refine HSk.out.mono ?_
              rintro e w1 ⟨rfl, hb⟩
              have HBB : Hid (Below w.heap.size w w1) := (HN.out w1 hb).2
              clear hb hB
              go_wp2
              go_ret
              exact ⟨by rw [HY.out hq]; rfl, HBB.out⟩
            | false =>
              go_wp2_with fail
              refine HSk.out.mono ?_
              rintro e w1 ⟨rfl, hb⟩
              have HBB : Hid (w1.heap[w.heap.size]? = some (.cells #[.string n, .int .i64 kk, .bool _] 48) ∧ Below w.heap.size w w1) := HN.out w1 hb
              clear hb hB
              go_wp2
              go_roundw
              case rel => exact ⟨rfl, k + 1, by omega, by simp, HO2.out hq, HBB.out.1, HBB.out.2⟩
              case measure => simp [intOf]; omega
        · have hq : q = false := by rw [HDD.out, decide_eq_false hm]; simp
          clear HDD hB hkd
          cases m with
          | false =>
            cases m' with
            | false => exact absurd rfl hm
            | true =>
              clear hm
              go_wp2
              go_roundw
              case rel => exact ⟨rfl, k + 1, by omega, by simp, HO2.out hq, HNz.1, HNz.2⟩
              case measure => simp [intOf]; omega
          | true =>
            cases m' with
            | true => exact absurd rfl hm
            | false =>
              clear hm
              go_wp2
              go_roundw
              case rel => exact ⟨rfl, k + 1, by omega, by simp, HO2.out hq, HNz.1, HNz.2⟩
              case measure => simp [intOf]; omega
      · have dkk : (kk == kk') = false := by rw [beq_eq_false_iff_ne]; exact hkk
        have hq : q = false := by rw [HDD.out, decide_eq_false hkk]; simp
        clear HDD hB
        go_wp2
        go_roundw
        case rel => exact ⟨rfl, k + 1, by omega, by simp, HO2.out hq, HNz.1, HNz.2⟩
        case measure => simp [intOf]; omega
    · have hk' : k = l.length := by omega
      subst hk'
      have dk : decide ((l.length : Int) < l.length) = false := by simp
      have HY : Hid (isInL ⟨n, kk, m⟩ l = false) := isIn_no (fun j hj => HO.out j hj hj)
      clear HO
      have HBB : Hid (Below w.heap.size w wr) := hB
      clear hB hZ
      go_wp2
      go_ret
      exact ⟨by rw [HY.out]; rfl, HBB.out⟩
set_option maxRecDepth 100000 in
set_option maxHeartbeats 2000000 in
theorem withinF_any (v u : Value) (a l : List Fd) (w : World) (hq : IsRow w 3 v a.length (fCells a)) (hr : IsRow w 3 u l.length (fCells l)) (hal : a.length ≤ 1000000) (hl : l.length ≤ 1000000) (hna : NmF a) (hn : NmF l) (hT : UT w) :
    Calls Tryz.prog 11 #[v, u] w fun e w' => e = .returned (.bool (withinL a l)) ∧ Below w.heap.size w w' := by
  obtain ⟨a0, cap0, rfl⟩ := hq.form
  have HR : Hid (IsRow w 3 (.slice a0 a.length cap0) a.length (fCells a)) := hq
  have HI : Hid (∀ (k : Nat) (h : k < a.length) (w' : World), Below w.heap.size w w' → Calls Tryz.prog 30 #[fV a[k], u] w' fun e w'' => e = .returned (.bool (isInL a[k] l)) ∧ Below w'.heap.size w' w'') := fun k h w' h' => isIn_any _ u l w' (hr.below h') hl (hna _ (List.getElem_mem h)) hn (Utf8Tabs_below hT h')
  clear hq hr hn hna hT
  go_enter Tryz.func11, Tryz.ntmps11
  go_wp2_with fail
  go_loopw [4, 9] (fun r i wr => r = .bool false ∧ ∃ k : Nat, k ≤ a.length ∧ i = .int .i64 (k : Int) ∧ Hid (∀ (j : Nat) (h : j < a.length), j < k → isInL a[j] l = true) ∧ Below w.heap.size w wr) (fun _ i _ => a.length - (intOf i).toNat)
  case atStart => exact ⟨rfl, 0, Nat.zero_le _, rfl, fun j h hj => absurd hj (Nat.not_lt_zero _), Below.refl _ _⟩
  case round =>
    obtain ⟨rfl, k, hk, rfl, HO, hB⟩ := hrel
    by_cases hlk : k < a.length
    · have dk : decide ((k : Int) < a.length) = true := by simp; omega
      obtain ⟨b, off, rfl, hlt, hcap, hc⟩ := f_at (HR.out.below hB) (by omega)
      obtain ⟨ck0, ck1, ck2⟩ := hc k hlk
      have hAl := al_b wr (.cells #[.string a[k].n, .int .i64 a[k].k, .bool a[k].m] 48)
      have hB1 := hB.trans (hAl.mono hB.size)
      have HIk : Hid (Calls Tryz.prog 30 #[fV a[k], u] (wr.alloc (.cells #[.string a[k].n, .int .i64 a[k].k, .bool a[k].m] 48)) fun e w'' => e = .returned (.bool (isInL a[k] l)) ∧ Below (wr.alloc (.cells #[.string a[k].n, .int .i64 a[k].k, .bool a[k].m] 48)).heap.size (wr.alloc (.cells #[.string a[k].n, .int .i64 a[k].k, .bool a[k].m] 48)) w'') := HI.out k hlk _ hB1
      have HBw : Hid (∀ w', Below (wr.alloc (.cells #[.string a[k].n, .int .i64 a[k].k, .bool a[k].m] 48)).heap.size (wr.alloc (.cells #[.string a[k].n, .int .i64 a[k].k, .bool a[k].m] 48)) w' → Below w.heap.size w w') := fun w' h => hB1.trans (h.mono hB1.size)
      have HO2 : Hid (isInL a[k] l = true → ∀ (j : Nat) (h : j < a.length), j < k + 1 → isInL a[j] l = true) := fun hs j h hj => by
        by_cases e : j = k
        · subst e; exact hs
        · exact HO.out j h (by omega)
      have HNo : Hid (isInL a[k] l = false → withinL a l = false) := fun hs => within_no hlk hs
      generalize isInL a[k] l = q at *
      generalize a[k]'hlk = y at *
      obtain ⟨n', kk', m'⟩ := y
      clear hc HO hAl hB1 hB
      cases q with
      | false =>
        go_wp2_with fail
        refine HIk.out.mono ?_
        rintro e w1 ⟨rfl, hb⟩
        have HBB : Hid (Below w.heap.size w w1) := HBw.out w1 hb
        clear hb
        go_wp2
        go_ret
        exact ⟨by rw [HNo.out (by trivial)]; rfl, HBB.out⟩
      | true =>
        go_wp2_with fail
        refine HIk.out.mono ?_
        rintro e w1 ⟨rfl, hb⟩
        have HBB : Hid (Below w.heap.size w w1) := HBw.out w1 hb
        clear hb
        go_wp2
        go_roundw
        case rel => exact ⟨rfl, k + 1, by omega, by simp, HO2.out (by trivial), HBB.out⟩
        case measure => simp [intOf]; omega
    · have hk' : k = a.length := by omega
      subst hk'
      have dk : decide ((a.length : Int) < a.length) = false := by simp
      have HY : Hid (withinL a l = true) := within_yes (fun j hj => HO.out j hj hj)
      clear HO
      have HBB : Hid (Below w.heap.size w wr) := hB
      clear hB
      go_wp2
      go_ret
      exact ⟨by rw [HY.out]; rfl, HBB.out⟩
end Go.Proofs.YtjamkfkbajhefaaGreatDoor
/- schema.Fits: its walk. -/
namespace Go.Proofs.YtjamkfkbajhefaaGreatDoor
open Go.RowKit

end Go.Proofs.YtjamkfkbajhefaaGreatDoor
/- schema.kindOf, schema.parseField: walks. -/
namespace Go.Proofs.YtjamkfkbajhefaaGreatDoor
open Go.RowKit

end Go.Proofs.YtjamkfkbajhefaaGreatDoor
/- schema.parseField: its walk. -/
namespace Go.Proofs.YtjamkfkbajhefaaGreatDoor
open Go.RowKit

end Go.Proofs.YtjamkfkbajhefaaGreatDoor
/- schema.Parse: its walk. -/
namespace Go.Proofs.YtjamkfkbajhefaaGreatDoor
open Go.RowKit

theorem info_fd : (Tryz.prog.info? 48).map (fun i => (i.zero, i.size, i.bytes)) = some (some (.agg #[.string ⟨#[]⟩, .int .i64 0, .bool false]), 3, 32) := by kernel_rfl
theorem wpl_appE {P : Program} (wr : World) {ops : Array Oper} {rest : List Oper} {o : Oper} {a : Act} {Q : Exit → Act → World → Prop} (hgd : o.guard = none) (s x : Operand) (t e : TypeId)
    (ho : o.op = .call { callee := .builtin .append, args := #[s, x], argTypes := #[t, t] })
    (i : TypeInfo) (z : Value) (size bytes : Nat) (ht : P.underlying t = some (.slice e)) (hi : P.info? e = some i) (hz : i.zero = some z)
    (hsize : i.size = size) (hby : i.bytes = bytes) (hzs : z.cells.size = size) (hsz : 0 < size)
    (base : Nat) (v : Value) (n : Nat) (xs : List Value) (hs : a.eval s = v) (hown : wr.ownsRow base e size v n xs)
    (es : List Value) (hes : es.length = size) (C : Array Value) (hC : C = es.toArray) (hx : a.eval x = .slice (some ⟨wr.heap.size, 0, none⟩) 1 1) (h1 : ∀ u ∈ es, u.oneCell' = true)
    (hbytes : (n + 1) * bytes ≤ 140737488355328) (h63 : n + 1 ≤ maxLen) (hbase : base ≤ wr.heap.size)
    (h : ∀ v' w', w'.ownsRow base e size v' (n + 1) (xs ++ es) → Below base wr w' → wpList P ops Q rest (a.put o.dst v') w') :
    wpList P ops Q (o :: rest) a (wr.alloc (.cells C e)) := by
  subst hC
  refine wpList_append_own _ hgd s x t ho base e i z size bytes ht hi hz hsize hby hzs hsz v n xs hs (hown.alloc _) ⟨wr.heap.size, 0, none⟩ 1 1 es hx (by omega) ?_ h1 h63 hbytes ?_ ?_
  · intro j u hj
    have : (⟨wr.heap.size, 0, none⟩ : Addr).add j = ⟨wr.heap.size, j, none⟩ := by unfold Addr.add; split <;> simp_all
    rw [this]
    simp
    exact hj
  · simp; omega
  · intro v' w' h2 h3 _
    exact h v' w' h2 (((Below.refl _ _).alloc hbase _).grown h3 (by simp; omega) (fun k hk => (hown.lt k hk).1))
theorem own_belowE {w w1 : World} {base : Nat} {e : TypeId} {sz : Nat} {v : Value} {n : Nat} {xs : List Value} (h : w.ownsRow base e sz v n xs) (hb : Below w.heap.size w w1) : w1.ownsRow base e sz v n xs :=
  h.kept (row := none) ⟨hb.os, hb.tape, hb.output, hb.size, fun k hk _ => hb.block k hk⟩ (by cases hv : v.ownBlock <;> simp)
def sVals (l : List ByteArray) : List Value := l.map Value.string
theorem s_at {w : World} {a : Option Addr} {cap n : Nat} {l : List ByteArray} (h : IsRow w 1 (.slice a n cap) l.length (sVals l)) (h0 : 0 < l.length) :
    ∃ b off, a = some ⟨b, off, none⟩ ∧ n = l.length ∧ b < w.heap.size ∧ l.length ≤ cap ∧ ∀ (k : Nat) (hk : k < l.length), w.cell? ⟨b, off + k, none⟩ = some (.string l[k]) := by
  obtain ⟨b, off, cap', hv, hlt, q1, q2, hc⟩ := h.open (by omega)
  simp only [Value.slice.injEq] at hv
  exact ⟨b, off, hv.1, hv.2.1, hlt, by omega, fun k hk => hc k _ (by simp [sVals, hk])⟩
end Go.Proofs.YtjamkfkbajhefaaGreatDoor
/- another, where it reads one: a walk. -/
namespace Go.Proofs.YtjamkfkbajhefaaGreatDoor.F
open Go.RowKit

theorem results_cc {fn : Func} {p q : Tmp} {t u : TypeId} (h : fn.results = #[.cell p t, .cell q u]) (tmps : Array Value) (P : Program) (w : World) :
    (results fn tmps).run P w = ((asAddr (tmps.getD p undef)).run P w).andThen fun a w₁ => ((loadVar t a).run P w₁).andThen fun v w₂ => ((asAddr (tmps.getD q undef)).run P w₂).andThen fun b w₃ => ((loadVar u b).run P w₃).andThen fun x w₄ => .ok (.tuple #[v, x]) w₄ := by
  simp only [results, h]
  simp [Sem.run_bind, Result.andThen]
end Go.Proofs.YtjamkfkbajhefaaGreatDoor.F
/- value.showBytes: its walk. -/
namespace Go.Proofs.YtjamkfkbajhefaaGreatDoor.V
open Go.RowKit

/-- A byte in two digits. -/
def hex2 (b : UInt8) : List UInt8 := [dg (b.toNat / 16), dg (b.toNat % 16)]
def hexs (l : List UInt8) : List UInt8 := l.flatMap hex2
theorem hexs_len (l : List UInt8) : (hexs l).length = 2 * l.length := by
  induction l with
  | nil => rfl
  | cons b l ih =>
    have e : hexs (b :: l) = hex2 b ++ hexs l := rfl
    have e2 : (hex2 b).length = 2 := rfl
    rw [e, List.length_append, ih, e2, List.length_cons]
    omega
abbrev HXb : ByteArray := ⟨#[48, 49, 50, 51, 52, 53, 54, 55, 56, 57, 97, 98, 99, 100, 101, 102]⟩
theorem hx_at : ∀ n : Fin 16, HXb[n.val]'(by have := n.isLt; show n.val < 16; omega) = dg n.val := by decide
theorem and15 : ∀ n : Fin 256, bits BinOp.and IntKind.u8 (n.val : Int) 15 = ((n.val % 16 : Nat) : Int) := by decide +kernel

set_option maxRecDepth 100000 in
set_option maxHeartbeats 4000000 in
theorem showBytes_any (s : ByteArray) (w : World) (hs : s.size ≤ 1000000) :
    Calls Tryz.prog 73 #[.string s] w fun e w' => e = .returned (.string (str (120 :: 39 :: hexs s.data.toList ++ [39]))) ∧ Below w.heap.size w w' := by
  go_enter Tryz.func73, Tryz.ntmps73
  go_wp2_with fail
  refine (writeString_k w.heap.size w.heap.size [] ⟨#[120, 39]⟩ _ (Lib.IsBuilderF.of (Lib.fresh_isBuilder _ _ w)) (by decide) (by first | simp | omega | skip)).mono ?_
  rintro e w1 ⟨rfl, hI1, hb1, ok1⟩
  have hs1 := hb1.size
  have hs1' : w.heap.size < w1.heap.size := by first | omega | (simp at hs1; omega)
  have hB1 : Below w.heap.size w w1 := ((Below.refl _ _).alloc (Nat.le_refl _) _).trans hb1
  clear hb1 ok1 hs1
  go_wp2_with fail
  go_loopw [8] (fun i wr => ∃ j : Nat, j ≤ s.size ∧ i = .int .i64 j ∧ IsB w.heap.size w.heap.size (Lib.byteCells (120 :: 39 :: hexs (s.data.toList.take j))) wr ∧ Below w.heap.size w wr ∧ w.heap.size < wr.heap.size) (fun i _ => s.size - (intOf i).toNat)
  case atStart => exact ⟨0, Nat.zero_le _, rfl, hI1, hB1, hs1'⟩
  case round =>
    obtain ⟨j, hj, rfl, hI, hbw, hws⟩ := hrel
    by_cases hlt : j < s.size
    · have hi : (j : Int) < s.size := by omega
      have hlen : (Lib.byteCells (120 :: 39 :: hexs (s.data.toList.take j))).length ≤ 2 * j + 2 := by
        rw [Lib.byteCells_length, List.length_cons, List.length_cons, hexs_len, List.length_take]
        omega
      have HT : Hid (s.data.toList.take (j + 1) = s.data.toList.take j ++ [s[j]]) := List.take_succ_eq_append_getElem (by rw [Array.length_toList]; exact hlt)
      generalize hc : s[j] = c at *
      have hn := c.toNat_lt
      have a15 : bits BinOp.and IntKind.u8 (c.toNat : Int) 15 = ((c.toNat % 16 : Nat) : Int) := and15 ⟨c.toNat, hn⟩
      have hx1 := hx_at ⟨c.toNat / 16, by omega⟩
      have hx2 := hx_at ⟨c.toNat % 16, by omega⟩
      go_wp2_with fail
      refine (writeByte_k w.heap.size w.heap.size _ _ _ hI (by omega) (by omega)).mono ?_
      rintro e w2 ⟨rfl, hI2, hb2, ok2⟩
      have hbw2 := hbw.trans hb2
      have hs2 := hb2.size
      clear hb2 ok2 hI hbw
      go_wp2_with fail
      refine (writeByte_k w.heap.size w.heap.size _ _ _ hI2 (by rw [List.length_append]; simp; omega) (by omega)).mono ?_
      rintro e w3 ⟨rfl, hI3, hb3, ok3⟩
      have HI : Hid (IsB w.heap.size w.heap.size (Lib.byteCells (120 :: 39 :: hexs (s.data.toList.take (j + 1)))) w3) := by
        show IsB _ _ _ _
        rw [cells_byte, cells_byte] at hI3
        rw [HT.out]
        simpa [hexs, hex2] using hI3
      have HB : Hid (Below w.heap.size w w3) := hbw2.trans hb3
      have hs3 := hb3.size
      have hs3' : w.heap.size < w3.heap.size := by omega
      clear hI3 hb3 ok3 hI2 hbw2
      go_wp2
      go_roundw
      case rel => exact ⟨j + 1, by omega, by go_num, HI.out, HB.out, hs3'⟩
      case measure => simp [intOf]; omega
    · have hj' : j = s.size := by omega
      subst hj'
      have hfull : s.data.toList.take s.size = s.data.toList := List.take_of_length_le (by rw [Array.length_toList]; exact Nat.le_refl _)
      rw [hfull] at hI
      have hlen : (Lib.byteCells (120 :: 39 :: hexs s.data.toList)).length = 2 * s.size + 2 := by
        rw [Lib.byteCells_length, List.length_cons, List.length_cons, hexs_len, Array.length_toList]
        rfl
      clear hfull
      go_wp2_with fail
      refine (writeByte_k w.heap.size w.heap.size _ _ _ hI (by omega) (by omega)).mono ?_
      rintro e w2 ⟨rfl, hI2, hb2, ok2⟩
      have hb5 := hbw.trans hb2
      rw [show (39 : Int) = (((39 : UInt8).toNat : Nat) : Int) from rfl, cells_byte] at hI2
      clear hb2 ok2 hI hbw
      go_wp2_with fail
      have hs2 : w.heap.size ≤ w2.heap.size := hb5.size
      refine (Tryz.Builder_String_any_k w.heap.size w.heap.size (120 :: 39 :: hexs s.data.toList ++ [39]) _ hI2 hs2).mono ?_
      rintro e w4 ⟨rfl, hI5, hb6, ok5⟩
      have HB : Hid (Below w.heap.size w w4) := hb5.trans hb6
      clear hI5 hb6 ok5 hI2 hb5
      go_wp2
      go_ret
      exact ⟨rfl, HB.out⟩
end Go.Proofs.YtjamkfkbajhefaaGreatDoor.V
/- strconv.FormatInt at base 16 of numbers of two digits; value.showRune, showText and Show of a text, at any. -/
namespace Go.Proofs.YtjamkfkbajhefaaGreatDoor.V
open Go.RowKit

theorem and15' : ∀ n : Fin 256, bits BinOp.and IntKind.u64 (n.val : Int) 15 = ((n.val % 16 : Nat) : Int) := by decide +kernel
abbrev Z65y (x y : Int) : Obj := .cells #[.int .u8 0, .int .u8 0, .int .u8 0, .int .u8 0, .int .u8 0, .int .u8 0, .int .u8 0, .int .u8 0, .int .u8 0, .int .u8 0, .int .u8 0, .int .u8 0, .int .u8 0, .int .u8 0, .int .u8 0, .int .u8 0, .int .u8 0, .int .u8 0, .int .u8 0, .int .u8 0, .int .u8 0, .int .u8 0, .int .u8 0, .int .u8 0, .int .u8 0, .int .u8 0, .int .u8 0, .int .u8 0, .int .u8 0, .int .u8 0, .int .u8 0, .int .u8 0, .int .u8 0, .int .u8 0, .int .u8 0, .int .u8 0, .int .u8 0, .int .u8 0, .int .u8 0, .int .u8 0, .int .u8 0, .int .u8 0, .int .u8 0, .int .u8 0, .int .u8 0, .int .u8 0, .int .u8 0, .int .u8 0, .int .u8 0, .int .u8 0, .int .u8 0, .int .u8 0, .int .u8 0, .int .u8 0, .int .u8 0, .int .u8 0, .int .u8 0, .int .u8 0, .int .u8 0, .int .u8 0, .int .u8 0, .int .u8 0, .int .u8 0, .int .u8 x, .int .u8 y] 230
theorem conv_two (w : World) (x y : Int) : (convert 87 9 (.slice (some ⟨w.heap.size, 63, none⟩) 2 2)).run Tryz.prog (w.alloc (Z65y x y)) = .ok (.string (strOfNums [x, y])) (w.alloc (Z65y x y)) :=
  run_convert_bytes_arg (P := Tryz.prog) _ 87 5 Tryz.underlying87 Tryz.underlying5 w.heap.size 63 2 2 [x, y] rfl (fun i hi => by
    match i, hi with
    | 0, _ => simp
    | 1, _ => simp) 9 Tryz.underlying9
set_option maxRecDepth 100000 in
set_option maxHeartbeats 2000000 in
theorem formatBits_two (n : Nat) (w : World) (h1 : 16 ≤ n) (h2 : n < 256) (h : T16 w) :
    Calls Tryz.prog 149 #[.slice none 0 0, .int .u64 (n : Int), .int .i64 16, .bool false, .bool false] w fun e w' => e = .returned (.tuple #[.slice none 0 0, .string (strOfNums [((dg (n / 16)).toNat : Int), ((dg (n % 16)).toNat : Int)])]) ∧ Below w.heap.size w w' := by
  have hT := T16_below h ((Below.refl _ _).alloc (Nat.le_refl _) Z65)
  go_enter Tryz.func149, Tryz.ntmps149
  go_wp2_with (first | (go_at_call 177; refine (pow2_16 _).mono ?_; rintro e w' ⟨rfl, rfl⟩) | (go_at_call 178; refine (tz_16 _ ?_).mono ?_; exact hT; rintro e w' ⟨rfl, rfl⟩))
  go_loopw [1, 13] (fun u i wr => (u = .int .u64 (n : Int) ∧ i = .int .i64 65 ∧ wr = w.alloc Z65) ∨ (u = .int .u64 ((n / 16 : Nat) : Int) ∧ i = .int .i64 64 ∧ wr = w.alloc (Z65x ((dg (n % 16)).toNat : Int)))) (fun _ i _ => (intOf i).toNat)
  case atStart => exact .inl ⟨rfl, rfl, rfl⟩
  case round =>
    rcases hrel with ⟨rfl, rfl, rfl⟩ | ⟨rfl, rfl, rfl⟩
    · have hd : decide ((16 : Int) ≤ n) = true := by simp; omega
      have hix : n % 16 < DG.size := by have : DG.size = 36 := rfl; omega
      have a15 := and15' ⟨n, h2⟩
      have hdg := dg_at (n % 16) hix
      go_wp2
      exact ⟨.inr ⟨by simp, rfl, trivial⟩, by decide⟩
    · have hd : decide ((16 : Int) ≤ ((n / 16 : Nat) : Int)) = false := by simp; omega
      have hix : n / 16 < DG.size := by have : DG.size = 36 := rfl; omega
      have hdg := dg_at (n / 16) hix
      go_wp2
      rw [conv_two]
      go_wp2
      go_ret2
      exact ⟨rfl, (Below.refl _ _).alloc (Nat.le_refl _) _⟩

theorem formatInt_i2 (n : Nat) (w : World) (h1 : 16 ≤ n) (h2 : n < 256) (h : T16 w) :
    Calls Tryz.prog 128 #[.int .i64 (n : Int), .int .i64 16] w fun e w' => e = .returned (.string (strOfNums [((dg (n / 16)).toNat : Int), ((dg (n % 16)).toNat : Int)])) ∧ Below w.heap.size w w' := by
  have hd : decide ((n : Int) < 0) = false := by simp
  go_enter Tryz.func128, Tryz.ntmps128
  go_wp2_with fail
  refine (formatBits_two n _ h1 h2 h).mono ?_
  rintro e w1 ⟨rfl, hb1⟩
  go_wp2
  go_ret
  exact ⟨rfl, hb1⟩
theorem formatInt_2 (n : Nat) (w : World) (h1 : 16 ≤ n) (h2 : n < 256) (h : T16 w) :
    Calls Tryz.prog 129 #[.int .i64 (n : Int), .int .i64 16] w fun e w' => e = .returned (.string (strOfNums [((dg (n / 16)).toNat : Int), ((dg (n % 16)).toNat : Int)])) ∧ Below w.heap.size w w' := by
  go_enter Tryz.func129, Tryz.ntmps129
  go_wp2_with fail
  refine (formatInt_i2 n _ h1 h2 h).mono ?_
  rintro e w1 ⟨rfl, hb1⟩
  go_wp2
  go_ret
  exact ⟨rfl, hb1⟩
/-- How a rune is shown. -/
def shR (c : Nat) : List UInt8 :=
  if c = 34 then [92, 34] else if c = 92 then [92, 92] else if c = 10 then [92, 110] else if c = 9 then [92, 116] else if c = 13 then [92, 114]
  else if c < 16 then [92, 117, 123, dg c, 125] else if c < 32 ∨ c = 127 then [92, 117, 123, dg (c / 16), dg (c % 16), 125] else enc c
theorem shR_old {c : Nat} (h : c < 16 ∨ (32 ≤ c ∧ c ≠ 127)) : shR c = showR c := by
  unfold shR showR
  by_cases h6 : c < 16
  · simp [h6]
  · rw [if_neg (show ¬ (c < 32 ∨ c = 127) by omega)]
theorem num2 (x y : UInt8) : strOfNums [(x.toNat : Int), (y.toNat : Int)] = str [x, y] := by
  unfold strOfNums str
  simp
theorem brace2 (x y : UInt8) : ((⟨#[92, 117, 123]⟩ : ByteArray) ++ str [x, y]) ++ (⟨#[125]⟩ : ByteArray) = str [92, 117, 123, x, y, 125] := ba_eq (by
  rw [ba_append, ba_append, str_data, str_data]
  rfl)
set_option maxRecDepth 100000 in
set_option maxHeartbeats 2000000 in
theorem showRune_two (c : Nat) (w : World) (ho : (16 ≤ c ∧ c < 32) ∨ c = 127) (hT : T16 w) :
    Calls Tryz.prog 104 #[.int .i32 (c : Int)] w fun e w' => e = .returned (.string (str (shR c))) ∧ Below w.heap.size w w' := by
  have e : shR c = [92, 117, 123, dg (c / 16), dg (c % 16), 125] := by
    unfold shR
    rw [if_neg (by omega), if_neg (by omega), if_neg (by omega), if_neg (by omega), if_neg (by omega), if_neg (by omega), if_pos (by omega)]
  rw [e]
  clear e
  have k1 : ((c : Int) == 34) = false := by rw [beq_eq_false_iff_ne]; omega
  have k2 : ((c : Int) == 92) = false := by rw [beq_eq_false_iff_ne]; omega
  have k3 : ((c : Int) == 10) = false := by rw [beq_eq_false_iff_ne]; omega
  have k4 : ((c : Int) == 9) = false := by rw [beq_eq_false_iff_ne]; omega
  have k5 : ((c : Int) == 13) = false := by rw [beq_eq_false_iff_ne]; omega
  have HF := formatInt_2 c w (by omega) (by omega) hT
  rw [num2] at HF
  have HB := brace2 (dg (c / 16)) (dg (c % 16))
  have hz : (str [dg (c / 16), dg (c % 16)]).size = 2 := rfl
  generalize str [dg (c / 16), dg (c % 16)] = X at *
  rw [← HB]
  rcases ho with ⟨h1, h2⟩ | rfl
  · have k6 : decide ((c : Int) < 32) = true := by simp; omega
    clear HB
    go_enter Tryz.func104, Tryz.ntmps104
    go_wp2_with fail
    refine Calls.mono HF ?_
    rintro e w1 ⟨rfl, hb1⟩
    go_wp2
    go_ret
    exact ⟨rfl, hb1⟩
  · clear HB
    go_enter Tryz.func104, Tryz.ntmps104
    go_wp2_with fail
    refine Calls.mono HF ?_
    rintro e w1 ⟨rfl, hb1⟩
    go_wp2
    go_ret
    exact ⟨rfl, hb1⟩
theorem showRune_all (c : Nat) (w : World) (hs : scal c) (hT : T16 w) :
    Calls Tryz.prog 104 #[.int .i32 (c : Int)] w fun e w' => e = .returned (.string (str (shR c))) ∧ Below w.heap.size w w' := by
  by_cases ho : c < 16 ∨ (32 ≤ c ∧ c ≠ 127)
  · rw [shR_old ho]
    exact showRune_any c w hs ho hT
  · exact showRune_two c w (by omega) hT
end Go.Proofs.YtjamkfkbajhefaaGreatDoor.V
/- value.showText of any text: its walk. -/
namespace Go.Proofs.YtjamkfkbajhefaaGreatDoor.V
open Go.RowKit

def shws (l : List Nat) : List UInt8 := l.flatMap shR
theorem shR_len (c : Nat) : (shR c).length ≤ 6 := by
  unfold shR
  split
  · decide
  split
  · decide
  split
  · decide
  split
  · decide
  split
  · decide
  split
  · exact Nat.le_of_lt (by decide : 5 < 6)
  split
  · exact Nat.le_refl 6
  · have := enc_len4 c; omega
/-- What holds of showText's loop at every round. -/
def StRl (s : ByteArray) (w : World) (k0 : Nat) (wr : World) : Prop :=
  ∃ (pos : Nat) (acc : List UInt8), IsB w.heap.size w.heap.size (Lib.byteCells (34 :: acc)) wr ∧ wr.heap[k0]? = some (.stringIter s pos) ∧ Below w.heap.size w wr ∧ w.heap.size < wr.heap.size ∧ acc ++ shws (rns (s.data.toList.drop pos)) = shws (rns s.data.toList) ∧ acc.length ≤ 6 * pos

set_option maxRecDepth 100000 in
set_option maxHeartbeats 4000000 in
theorem showText_all (s : ByteArray) (w : World) (hs : s.size ≤ 1000000) (hT : T16 w) :
    Calls Tryz.prog 74 #[.string s] w fun e w' => e = .returned (.string (str (34 :: shws (rns s.data.toList) ++ [34]))) ∧ Below w.heap.size w w' := by
  go_enter Tryz.func74, Tryz.ntmps74
  go_wp2_with fail
  refine (writeByte_k w.heap.size w.heap.size [] 34 _ (Lib.IsBuilderF.of (Lib.fresh_isBuilder _ _ w)) (by simp) (by first | simp | omega | skip)).mono ?_
  rintro e w1 ⟨rfl, hI1, hb1, ok1⟩
  have hs1 := hb1.size
  have hs1' : w.heap.size < w1.heap.size := by first | omega | (simp at hs1; omega)
  have hB1 : Below w.heap.size w w1 := ((Below.refl _ _).alloc (Nat.le_refl _) _).trans hb1
  clear hb1 ok1 hs1
  go_wp2_with fail
  go_loopw [] (fun wr => StRl s w w1.heap.size wr) (fun wr => s.size - wr.iterPos w1.heap.size)
  case atStart =>
    exact ⟨0, [], IsB_alloc hI1 _, World.iter_heap w1 s 0, hB1.alloc (by omega) _, Nat.lt_of_lt_of_le hs1' ((Below.refl w1.heap.size w1).alloc (Nat.le_refl _) (.stringIter s 0)).size, rfl, Nat.le_refl _⟩
  case round =>
    obtain ⟨pos, acc, hI, hit, hbw, hws, hck, hal⟩ := hrel
    have HC : Hid (acc ++ shws (rns (s.data.toList.drop pos)) = shws (rns s.data.toList)) := hck
    clear hck
    have hsz : w1.heap.size < wr.heap.size := (Array.getElem?_eq_some_iff.1 hit).1
    by_cases hp : pos < s.size
    · have hnx : ∀ ty, (Instr.next (.pointer (some ⟨w1.heap.size, 0, none⟩)) true ty).run Tryz.prog wr = _ := fun ty => Lib.run_next_any_at wr w1.heap.size s pos ty hit hp
      have hwd := Lib.decode_width_pos s pos hp
      have hit2 := Lib.iterAt_heap wr w1.heap.size s pos (pos + (Utf8.decode s pos).2) hit
      have hbw2 := Lib.below_iterAt hbw (k := w1.heap.size) (by omega) s (pos + (Utf8.decode s pos).2)
      have hI2 := IsB_iter hI hit (pos + (Utf8.decode s pos).2)
      have hszI : (wr.iterAt w1.heap.size s (pos + (Utf8.decode s pos).2)).heap.size = wr.heap.size := Lib.iterAt_size ..
      have hrl := Lib.rune_le s pos
      have hrn : Hid (rns (s.data.toList.drop pos) = (Utf8.decode s pos).1 :: rns (s.data.toList.drop (pos + (Utf8.decode s pos).2))) := rns_at s pos hp
      have hsc : Hid (scal (Utf8.decode s pos).1) := rns_scal (s.data.toList.drop pos) _ (by rw [hrn.out]; simp)
      have hmeas : Hid (s.size - (pos + (Utf8.decode s pos).2) < s.size - wr.iterPos w1.heap.size) := by
        show _ < _
        rw [iterPos_of hit]; omega
      have hwl : pos + (Utf8.decode s pos).2 ≤ s.size := by
        have hne : s.data.toList.drop pos ≠ [] := by
          intro e
          have := congrArg List.length e
          rw [List.length_drop, Array.length_toList] at this
          have e2 : s.data.size = s.size := rfl
          simp at this
          omega
        have h1 := Lib.decodeL_le _ hne
        rw [Lib.decodeL_drop, List.length_drop, Array.length_toList] at h1
        have e2 : s.data.size = s.size := rfl
        omega
      generalize (Utf8.decode s pos).1 = c at *
      generalize (Utf8.decode s pos).2 = d at *
      generalize hW : wr.iterAt w1.heap.size s (pos + d) = W at *
      have hcl := shR_len c
      have HC2 : Hid ((acc ++ shR c) ++ shws (rns (s.data.toList.drop (pos + d))) = shws (rns s.data.toList)) := by
        show _ = _; rw [← HC.out, hrn.out]; simp [shws]
      clear HC hrn hW hI hbw
      go_wp2_with fail
      refine (showRune_all c _ hsc.out (T16_below hT hbw2)).mono ?_
      rintro e w3 ⟨rfl, hb3⟩
      have hI3 := IsB_below hI2 hb3
      have hit3 := (hb3.block _ (Array.getElem?_eq_some_iff.1 hit2).1).trans hit2
      have hbw3 := hbw2.trans (hb3.mono (by omega))
      have hs3 := hb3.size
      have hzs : (str (shR c)).size ≤ 6 := by rw [str_size]; exact hcl
      clear hb3 hI2 hit2 hbw2
      go_wp2_with fail
      refine (writeString_k w.heap.size w.heap.size _ (str (shR c)) _ hI3 (by rw [Lib.byteCells_length, List.length_cons]; omega) (by omega)).mono ?_
      rintro e w4 ⟨rfl, hI4, hb4, ok4⟩
      have hit4 : Hid (w4.heap[w1.heap.size]? = some (.stringIter s (pos + d))) := iter_kept ok4 hit3 (IsB_ne hI3 hit3)
      have hmW : Hid (w4.iterPos w1.heap.size = pos + d) := iterPos_of hit4.out
      have HI : Hid (IsB w.heap.size w.heap.size (Lib.byteCells (34 :: (acc ++ shR c))) w4) := by
        rw [Lib.strCells_eq, str_data, ← Lib.byteCells_append, List.cons_append] at hI4
        exact hI4
      have HB : Hid (Below w.heap.size w w4) := hbw3.trans hb4
      have hs4 := hb4.size
      clear hI4 hb4 ok4 hI3 hit3 hbw3
      go_wp2
      go_roundw
      case rel => exact ⟨pos + d, acc ++ shR c, HI.out, hit4.out, HB.out, by omega, HC2.out, by rw [List.length_append]; omega⟩
      case measure => rw [hmW.out]; exact hmeas.out
    · have hnx : ∀ ty, (Instr.next (.pointer (some ⟨w1.heap.size, 0, none⟩)) true ty).run Tryz.prog wr = _ := fun ty => Lib.run_next_end_at wr w1.heap.size s pos ty hit hp
      have HC2 : Hid (acc = shws (rns s.data.toList)) := by show _ = _; rw [← HC.out, rns_end s pos hp]; simp [shws]
      have hpl : acc.length ≤ 10000000 := by
        have h3 := rns_len_le s.data.toList.length s.data.toList
        have e : s.data.toList.length = s.size := Array.length_toList
        have h4 : (rns s.data.toList).length ≤ s.data.toList.length := h3
        have h5 : ∀ l : List Nat, (shws l).length ≤ 6 * l.length := by
          intro l
          induction l with
          | nil => simp [shws]
          | cons c l ih => have := shR_len c; simp only [shws, List.flatMap_cons, List.length_append, List.length_cons] at ih ⊢; omega
        have h6 := h5 (rns s.data.toList)
        rw [HC2.out]
        omega
      clear HC
      go_wp2_with fail
      refine (writeByte_k w.heap.size w.heap.size _ 34 _ hI (by rw [Lib.byteCells_length, List.length_cons]; omega) (by omega)).mono ?_
      rintro e w3 ⟨rfl, hI3, hb3, ok3⟩
      have hs3 := hb3.size
      have hI4 : IsB w.heap.size w.heap.size (Lib.byteCells (34 :: acc ++ [34])) w3 := by
        have := cells_byte (34 :: acc) 34
        rw [← this]
        exact hI3
      have hB3 := hbw.trans hb3
      clear hI3 hb3 ok3
      go_wp2_with fail
      refine (Tryz.Builder_String_any_k w.heap.size w.heap.size (34 :: acc ++ [34]) _ hI4 (by omega)).mono ?_
      rintro e w4 ⟨rfl, hI5, hb5, ok5⟩
      have HB : Hid (Below w.heap.size w w4) := hB3.trans hb5
      clear hI5 hb5 ok5 hI4
      go_wp2
      go_ret
      refine ⟨?_, HB.out⟩
      rw [← HC2.out]
      rfl

end Go.Proofs.YtjamkfkbajhefaaGreatDoor.V
/- The shelf's contract of strconv.Itoa, at this program, laid by the shelf's tool in plain words. -/
namespace Go.Proofs
open Go.Shelf
def Tryz.laysM171_ren : Go.Shelf.Ren := ⟨fun | 171 => 71 | 243 => 101 | 246 => 128 | 283 => 146 | 284 => 147 | 285 => 148 | 286 => 149 | 129 => 159 | 317 => 175 | 318 => 176 | 319 => 177 | 320 => 178 | 337 => 199 | 338 => 200 | n => n, fun | 3 => 3 | 9 => 9 | 2 => 2 | 4 => 4 | 171 => 202 | 0 => 0 | 53 => 171 | 37 => 87 | 5 => 5 | 173 => 205 | 212 => 229 | 51 => 215 | 20 => 20 | 213 => 230 | 46 => 134 | 232 => 254 | 233 => 255 | n => n, fun | 17 => 3 | 18 => 4 | 19 => 5 | n => n⟩
theorem Tryz.laysM171 : Go.Proofs.LaysM.n171 Tryz.prog Tryz.laysM171_ren := {
  mixed := by kernel_rfl
  f129 := Tryz.func159.trans (congrArg some (by kernel_rfl))
  f171 := Tryz.func71.trans (congrArg some (by kernel_rfl))
  f243 := Tryz.func101.trans (congrArg some (by kernel_rfl))
  f246 := Tryz.func128.trans (congrArg some (by kernel_rfl))
  f283 := Tryz.func146.trans (congrArg some (by kernel_rfl))
  f284 := Tryz.func147.trans (congrArg some (by kernel_rfl))
  f285 := Tryz.func148.trans (congrArg some (by kernel_rfl))
  f286 := Tryz.func149.trans (congrArg some (by kernel_rfl))
  f317 := Tryz.func175.trans (congrArg some (by kernel_rfl))
  f318 := Tryz.func176.trans (congrArg some (by kernel_rfl))
  f319 := Tryz.func177.trans (congrArg some (by kernel_rfl))
  f320 := Tryz.func178.trans (congrArg some (by kernel_rfl))
  f337 := Tryz.func199.trans (congrArg some (by kernel_rfl))
  f338 := Tryz.func200.trans (congrArg some (by kernel_rfl))
  t0 := Tryz.underlying0
  a0 := Tryz.isAgg0
  z0 := Tryz.sizeOf0
  v0 := Tryz.zeroValue0
  t2 := Tryz.underlying2
  a2 := Tryz.isAgg2
  z2 := Tryz.sizeOf2
  v2 := Tryz.zeroValue2
  t3 := Tryz.underlying3
  a3 := Tryz.isAgg3
  z3 := Tryz.sizeOf3
  v3 := Tryz.zeroValue3
  t4 := Tryz.underlying4
  a4 := Tryz.isAgg4
  z4 := Tryz.sizeOf4
  v4 := Tryz.zeroValue4
  t5 := Tryz.underlying5
  a5 := Tryz.isAgg5
  z5 := Tryz.sizeOf5
  v5 := Tryz.zeroValue5
  t9 := Tryz.underlying9
  a9 := Tryz.isAgg9
  z9 := Tryz.sizeOf9
  v9 := Tryz.zeroValue9
  t20 := Tryz.underlying20
  a20 := Tryz.isAgg20
  z20 := Tryz.sizeOf20
  v20 := Tryz.zeroValue20
  t37 := Tryz.underlying87
  a37 := Tryz.isAgg87
  z37 := Tryz.sizeOf87
  v37 := Tryz.zeroValue87
  t46 := Tryz.underlying134
  a46 := Tryz.isAgg134
  z46 := Tryz.sizeOf134
  v46 := Tryz.zeroValue134
  t51 := Tryz.underlying215
  a51 := Tryz.isAgg215
  z51 := Tryz.sizeOf215
  v51 := Tryz.zeroValue215
  t53 := Tryz.underlying171
  a53 := Tryz.isAgg171
  z53 := Tryz.sizeOf171
  v53 := Tryz.zeroValue171
  t171 := Tryz.underlying202
  a171 := Tryz.isAgg202
  z171 := Tryz.sizeOf202
  v171 := Tryz.zeroValue202
  t173 := Tryz.underlying205
  a173 := Tryz.isAgg205
  z173 := Tryz.sizeOf205
  v173 := Tryz.zeroValue205
  t212 := Tryz.underlying229
  a212 := Tryz.isAgg229
  z212 := Tryz.sizeOf229
  v212 := Tryz.zeroValue229
  t213 := Tryz.underlying230
  a213 := Tryz.isAgg230
  z213 := Tryz.sizeOf230
  t232 := Tryz.underlying254
  a232 := Tryz.isAgg254
  z232 := Tryz.sizeOf254
  v232 := Tryz.zeroValue254
  t233 := Tryz.underlying255
  a233 := Tryz.isAgg255
  z233 := Tryz.sizeOf255
  v233 := Tryz.zeroValue255
  g17 := by kernel_rfl
  g18 := by kernel_rfl
  g19 := by kernel_rfl
  i0 := by kernel_rfl
  i2 := by kernel_rfl
  i3 := by kernel_rfl
  i4 := by kernel_rfl
  i5 := by kernel_rfl
  i9 := by kernel_rfl
  i20 := by kernel_rfl
  i37 := by kernel_rfl
  i46 := by kernel_rfl
  i51 := by kernel_rfl
  i53 := by kernel_rfl
  i171 := by kernel_rfl
  i173 := by kernel_rfl
  i212 := by kernel_rfl
  i232 := by kernel_rfl
  i233 := by kernel_rfl
  m17 := by kernel_rfl
  m18 := by kernel_rfl
  m19 := by kernel_rfl }
open Go.RowKit in
theorem Tryz.strconv_Itoa (n : Int) (h0 : -9223372036854775808 ≤ n) (h1 : n ≤ 9223372036854775807) (w : World) (htab : Lib.TabIs Tryz.prog w "internal/strconv.uint64pow10" .u64 Lib.pow10Tab) :
    Calls Tryz.prog 71 #[.int .i64 n] w fun e w' => e = .returned (.string ⟨(Lib.itoa n).toArray⟩) ∧ ∃ k os, w' = Sort.grow (w.drewN k) os := Any.strconv_Itoa Tryz.laysM171 n h0 h1 w htab
end Go.Proofs
/- The reference's tail and First: walks. -/
namespace Go.Proofs.YtjamkfkbajhefaaGreatDoor.V
open Go.RowKit Go.Lib

/-- A byte by its number; 0 beyond the end. -/
def gN (s : ByteArray) (i : Nat) : Nat := (s.get! i).toNat
theorem gN_lt (s : ByteArray) (i : Nat) : gN s i < 256 := (s.get! i).toNat_lt
theorem gN_of (s : ByteArray) (i : Nat) (h : i < s.size) : (s[i]'h).toNat = gN s i := by
  cases s with
  | mk d =>
    show (d[i]'h).toNat = (d[i]!).toNat
    rw [getElem!_pos d i h]
def tl (s : ByteArray) (i : Nat) : Bool := decide (i < s.size ∧ 128 ≤ gN s i ∧ gN s i < 192)

/-- The rune at the front and its width; (0, 0): there is none. -/
def fst (s : ByteArray) : Nat × Nat := if s.size = 0 ∨ ((Utf8.decode s 0).1 = 65533 ∧ (Utf8.decode s 0).2 = 1) then (0, 0) else Utf8.decode s 0
theorem below_dN {B : Nat} {a w : World} (h : Below B a w) : ∀ q, Below B a (w.drewN q)
  | 0 => h
  | q + 1 => (below_dN h q).drew
end Go.Proofs.YtjamkfkbajhefaaGreatDoor.V
