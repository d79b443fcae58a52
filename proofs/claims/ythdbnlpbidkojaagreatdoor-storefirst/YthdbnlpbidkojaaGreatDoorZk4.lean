/- schema.attrMayBe, schema.Attrs: walks. -/
import Derived.Test.YthdbnlpbidkojaaGreatDoorZk3
import Derived.Laws.ResultCell
import Derived.Lib.SplitLaws
import Derived.Lib.AppendZeros
import Derived.Maps.AppendAt
import Derived.Test.YthdbnlpbidkojaaGreatDoorZk1
namespace Go.Proofs.YthdbnlpbidkojaaGreatDoor
open Go.RowKit

def mayA (x : At) : Bool := oneP x.n && chkV x.k x.v x.s
def aCells (l : List At) : List Value := l.flatMap enA
theorem aCells_len (l : List At) : (aCells l).length = l.length * 4 := by
  induction l with
  | nil => rfl
  | cons d D ih => rw [aCells, List.flatMap_cons, List.length_append, List.length_cons]; rw [aCells] at ih; rw [ih]; show 4 + _ = _; omega
theorem aCells_get : ∀ (l : List At) (k : Nat) (h : k < l.length) (i : Nat), i < 4 → (aCells l)[k * 4 + i]? = (enA l[k])[i]?
  | [], k, h, _, _ => absurd h (by simp)
  | d :: D, 0, _, i, hi => by
    rw [aCells, List.flatMap_cons, Nat.zero_mul, Nat.zero_add, List.getElem?_append_left (by show i < 4; exact hi)]
    rfl
  | d :: D, k + 1, h, i, hi => by
    have z : (enA d).length = 4 := rfl
    rw [aCells, List.flatMap_cons, List.getElem?_append_right (by omega), show (k + 1) * 4 + i - (enA d).length = k * 4 + i by omega]
    have := aCells_get D k (by simpa using h) i hi
    rw [aCells] at this
    rw [this]
    rfl
theorem a_at {w : World} {a : Option Addr} {cap : Nat} {l : List At} (h : IsRow w 4 (.slice a l.length cap) l.length (aCells l)) (h0 : 0 < l.length) :
    ∃ b off, a = some ⟨b, off, none⟩ ∧ b < w.heap.size ∧ l.length ≤ cap ∧ ∀ (k : Nat) (hk : k < l.length), w.cell? ⟨b, off + k * 4, none⟩ = some (.string l[k].n) ∧ w.cell? ⟨b, off + k * 4 + 1, none⟩ = some (.int .i64 l[k].k) ∧ w.cell? ⟨b, off + k * 4 + 2, none⟩ = some (.int .i64 l[k].v) ∧ w.cell? ⟨b, off + k * 4 + 3, none⟩ = some (.string l[k].s) := by
  obtain ⟨b, off, cap', hv, hlt, q1, q2, hc⟩ := h.open (by omega)
  simp only [Value.slice.injEq] at hv
  refine ⟨b, off, hv.1, hlt, by omega, fun k hk => ⟨?_, ?_, ?_, ?_⟩⟩
  · have := hc (k * 4) (.string l[k].n) (by have := aCells_get l k hk 0 (by omega); rw [Nat.add_zero] at this; rw [this]; rfl)
    simpa using this
  · have := hc (k * 4 + 1) (.int .i64 l[k].k) (by rw [aCells_get l k hk 1 (by omega)]; rfl)
    rwa [← Nat.add_assoc] at this
  · have := hc (k * 4 + 2) (.int .i64 l[k].v) (by rw [aCells_get l k hk 2 (by omega)]; rfl)
    rwa [← Nat.add_assoc] at this
  · have := hc (k * 4 + 3) (.string l[k].s) (by rw [aCells_get l k hk 3 (by omega)]; rfl)
    rwa [← Nat.add_assoc] at this
/-- May the attribute at a place be there? -/
def okA (l : List At) (k : Nat) (h : k < l.length) : Prop := mayA l[k] = true ∧ ∀ (j : Nat) (e : j + 1 = k), cmpL (l[j]'(by omega)).n.data.toList l[k].n.data.toList < 0
instance (l : List At) (k : Nat) (h : k < l.length) : Decidable (okA l k h) := by
  unfold okA
  cases k with
  | zero => exact decidable_of_iff (mayA l[0] = true) ⟨fun h => ⟨h, fun j e => absurd e (by omega)⟩, fun h => h.1⟩
  | succ k => exact decidable_of_iff (mayA l[k + 1] = true ∧ cmpL (l[k]'(by omega)).n.data.toList l[k + 1].n.data.toList < 0) ⟨fun h => ⟨h.1, fun j e => by cases e; exact h.2⟩, fun h => ⟨h.1, h.2 k rfl⟩⟩
def chkA (l : List At) : Bool := decide (l.length ≤ 24) && decide (∀ (k : Nat) (h : k < l.length), okA l k h)
/-- Names are not too long to be looked at. -/
def NmA (l : List At) : Prop := ∀ x ∈ l, x.n.size ≤ 1000000 ∧ x.s.size ≤ 140737488355328
abbrev CA (nb b o : Nat) (x y : At) (w0 w : World) : Prop := w.cell? ⟨nb, 0, none⟩ = some (.string x.n) ∧ w.cell? ⟨nb, 1, none⟩ = some (.int .i64 x.k) ∧ w.cell? ⟨nb, 2, none⟩ = some (.int .i64 x.v) ∧ w.cell? ⟨nb, 3, none⟩ = some (.string x.s) ∧ nb < w.heap.size ∧
  w.cell? ⟨b, o, none⟩ = some (.string y.n) ∧ b < w.heap.size ∧ Below w0.heap.size w0 w
theorem CA_drew {nb b o : Nat} {x y : At} {w0 W : World} (h : CA nb b o x y w0 W) : CA nb b o x y w0 W.drew := ⟨h.1, h.2.1, h.2.2.1, h.2.2.2.1, h.2.2.2.2.1, h.2.2.2.2.2.1, h.2.2.2.2.2.2.1, h.2.2.2.2.2.2.2.drew⟩
theorem CA_call {nb b o : Nat} {x y : At} {w0 W w' : World} (hb : Below W.heap.size W w') (h : CA nb b o x y w0 W) : CA nb b o x y w0 w' := by
  obtain ⟨a0, a1, a2, a3, l1, c0, l2, B⟩ := h
  exact ⟨(hb.cell (p := ⟨nb, 0, none⟩) l1).trans a0, (hb.cell (p := ⟨nb, 1, none⟩) l1).trans a1, (hb.cell (p := ⟨nb, 2, none⟩) l1).trans a2, (hb.cell (p := ⟨nb, 3, none⟩) l1).trans a3, Nat.lt_of_lt_of_le l1 hb.size, (hb.cell (p := ⟨b, o, none⟩) l2).trans c0, Nat.lt_of_lt_of_le l2 hb.size, B.trans (hb.mono B.size)⟩
theorem CA_b {nb b o : Nat} {x y : At} {w0 W : World} (h : CA nb b o x y w0 W) : Below w0.heap.size w0 W := h.2.2.2.2.2.2.2
theorem CA_new {b o : Nat} {x y : At} {w0 W : World} {t : TypeId} (hB : Below w0.heap.size w0 W) (hlt : b < W.heap.size) (c0 : W.cell? ⟨b, o, none⟩ = some (.string y.n)) :
    CA W.heap.size b o x y w0 (W.alloc (.cells #[.string x.n, .int .i64 x.k, .int .i64 x.v, .string x.s] t)) := by
  have hb := al_b W (.cells #[.string x.n, .int .i64 x.k, .int .i64 x.v, .string x.s] t)
  exact ⟨by simp, by simp, by simp, by simp, by simp, (hb.cell (p := ⟨b, o, none⟩) hlt).trans c0, Nat.lt_of_lt_of_le hlt hb.size, hB.trans (hb.mono hB.size)⟩
theorem chkA_no {l : List At} {k : Nat} (h : k < l.length) (hn : ¬ okA l k h) : chkA l = false := by
  unfold chkA
  rw [Bool.and_eq_false_iff]
  right
  rw [decide_eq_false_iff_not]
  exact fun hh => hn (hh k h)
end Go.Proofs.YthdbnlpbidkojaaGreatDoor
/- schema.Find: its walk. -/
namespace Go.Proofs.YthdbnlpbidkojaaGreatDoor
open Go.RowKit

def zF : Fd := ⟨⟨#[]⟩, 0, false⟩
/-- The first field of a name. -/
def getF (l : List Fd) (s : ByteArray) : Option Fd := l.find? fun x => sameL x.n.data.toList s.data.toList
theorem getF_at {l : List Fd} {s : ByteArray} {k : Nat} (h : k < l.length) (hb : ∀ (j : Nat) (hj : j < l.length), j < k → sameL l[j].n.data.toList s.data.toList = false) (hk : sameL l[k].n.data.toList s.data.toList = true) : getF l s = some l[k] := by
  unfold getF
  rw [List.find?_eq_some_iff_getElem]
  exact ⟨hk, k, h, rfl, fun j hj => by rw [hb j (by omega) hj]; rfl⟩
theorem getF_no {l : List Fd} {s : ByteArray} (hb : ∀ (j : Nat) (hj : j < l.length), sameL l[j].n.data.toList s.data.toList = false) : getF l s = none := by
  unfold getF
  rw [List.find?_eq_none]
  intro x hx
  obtain ⟨j, hj, rfl⟩ := List.getElem_of_mem hx
  rw [hb j hj]
  exact Bool.false_ne_true
theorem new_at (w : World) (o : Obj) : (w.alloc o).heap[w.heap.size]? = some o := by show (w.heap.push o)[w.heap.size]? = some o; simp
theorem z3 {w : World} {b : Nat} {x y z : Value} {t : TypeId} (h : w.heap[b]? = some (.cells #[x, y, z] t)) :
    w.cell? ⟨b, 0, none⟩ = some x ∧ w.cell? ⟨b, 1, none⟩ = some y ∧ w.cell? ⟨b, 2, none⟩ = some z ∧ w.frozen? ⟨b, 0, none⟩ = false ∧ w.frozen? ⟨b, 1, none⟩ = false ∧ w.frozen? ⟨b, 2, none⟩ = false :=
  ⟨by rw [Lib.cell_of_heap h]; rfl, by rw [Lib.cell_of_heap h]; rfl, by rw [Lib.cell_of_heap h]; rfl, by simp [World.frozen?, h], by simp [World.frozen?, h], by simp [World.frozen?, h]⟩
theorem set3_b {w0 w : World} {b : Nat} (h : Below b w0 w) (x y z : Value) : Below b w0 (((w.setCell ⟨b, 0, none⟩ x).setCell ⟨b, 1, none⟩ y).setCell ⟨b, 2, none⟩ z) :=
  ((h.setCell (p := ⟨b, 0, none⟩) (Nat.le_refl _) _).setCell (p := ⟨b, 1, none⟩) (Nat.le_refl _) _).setCell (p := ⟨b, 2, none⟩) (Nat.le_refl _) _
end Go.Proofs.YthdbnlpbidkojaaGreatDoor
/- schema.Get: its walk. -/
namespace Go.Proofs.YthdbnlpbidkojaaGreatDoor
open Go.RowKit

/-- A value of an attribute; nothing, where there is none. -/
def vOf : Option At → Value
  | some x => vv x.k x.v x.s
  | none => vv 0 0 ⟨#[]⟩
/-- The first attribute of a name. -/
def getA (l : List At) (s : ByteArray) : Option At := l.find? fun x => sameL x.n.data.toList s.data.toList
theorem getA_at {l : List At} {s : ByteArray} {k : Nat} (h : k < l.length) (hb : ∀ (j : Nat) (hj : j < l.length), j < k → sameL l[j].n.data.toList s.data.toList = false) (hk : sameL l[k].n.data.toList s.data.toList = true) : getA l s = some l[k] := by
  unfold getA
  rw [List.find?_eq_some_iff_getElem]
  exact ⟨hk, k, h, rfl, fun j hj => by rw [hb j (by omega) hj]; rfl⟩
theorem getA_no {l : List At} {s : ByteArray} (hb : ∀ (j : Nat) (hj : j < l.length), sameL l[j].n.data.toList s.data.toList = false) : getA l s = none := by
  unfold getA
  rw [List.find?_eq_none]
  intro x hx
  obtain ⟨j, hj, rfl⟩ := List.getElem_of_mem hx
  rw [hb j hj]
  exact Bool.false_ne_true
theorem z4 {w : World} {b : Nat} {x y z u : Value} {t : TypeId} (h : w.heap[b]? = some (.cells #[x, y, z, u] t)) :
    w.cell? ⟨b, 0, none⟩ = some x ∧ w.cell? ⟨b, 1, none⟩ = some y ∧ w.cell? ⟨b, 2, none⟩ = some z ∧ w.cell? ⟨b, 3, none⟩ = some u :=
  ⟨by rw [Lib.cell_of_heap h]; rfl, by rw [Lib.cell_of_heap h]; rfl, by rw [Lib.cell_of_heap h]; rfl, by rw [Lib.cell_of_heap h]; rfl⟩
end Go.Proofs.YthdbnlpbidkojaaGreatDoor
/- schema.isIn, schema.Within: walks. -/
namespace Go.Proofs.YthdbnlpbidkojaaGreatDoor
open Go.RowKit

/-- The same field, but for how its name is written. -/
def sameF (x y : Fd) : Bool := decide (x.k = y.k) && (decide (x.m = y.m) && sameL x.n.data.toList y.n.data.toList)
def isInL (x : Fd) (l : List Fd) : Bool := l.any (sameF x)
def withinL (a b : List Fd) : Bool := a.all fun x => isInL x b
theorem isIn_yes {x : Fd} {l : List Fd} {k : Nat} (h : k < l.length) (hk : sameF x l[k] = true) : isInL x l = true := List.any_eq_true.2 ⟨_, List.getElem_mem h, hk⟩
theorem isIn_no {x : Fd} {l : List Fd} (h : ∀ (k : Nat) (hk : k < l.length), sameF x l[k] = false) : isInL x l = false := by
  unfold isInL
  rw [List.any_eq_false]
  intro y hy
  obtain ⟨j, hj, rfl⟩ := List.getElem_of_mem hy
  rw [h j hj]
  exact Bool.false_ne_true
theorem within_no {a b : List Fd} {k : Nat} (h : k < a.length) (hk : isInL a[k] b = false) : withinL a b = false := by
  unfold withinL
  rw [List.all_eq_false]
  exact ⟨_, List.getElem_mem h, by rw [hk]; exact Bool.false_ne_true⟩
theorem within_yes {a b : List Fd} (h : ∀ (k : Nat) (hk : k < a.length), isInL a[k] b = true) : withinL a b = true := by
  unfold withinL
  rw [List.all_eq_true]
  intro y hy
  obtain ⟨j, hj, rfl⟩ := List.getElem_of_mem hy
  exact h j hj
set_option maxRecDepth 100000 in
set_option maxHeartbeats 2000000 in
theorem isIn_any (x : Fd) (v : Value) (l : List Fd) (w : World) (hr : IsRow w 3 v l.length (fCells l)) (hl : l.length ≤ 1000000) (hx : x.n.size ≤ 1000000) (hn : NmF l) (hT : UT w) :
    Calls Tryz.prog 78 #[fV x, v] w fun e w' => e = .returned (.bool (isInL x l)) ∧ Below w.heap.size w w' := by
  obtain ⟨a0, cap0, rfl⟩ := hr.form
  have HR : Hid (IsRow w 3 (.slice a0 l.length cap0) l.length (fCells l)) := hr
  have HS : Hid (∀ (k : Nat) (h : k < l.length) (w' : World), Below w.heap.size w w' → Calls Tryz.prog 103 #[.string x.n, .string l[k].n] w' fun e w'' => e = .returned (.bool (sameL x.n.data.toList l[k].n.data.toList)) ∧ Below w'.heap.size w' w'') := fun k h w' h' => same_any _ _ w' hx (hn _ (List.getElem_mem h)) (Utf8Tabs_below hT h')
  clear hr hn hT hx
  obtain ⟨n, kk, m⟩ := x
  have hA := al_b w (.cells #[.string n, .int .i64 kk, .bool m] 95)
  go_enter Tryz.func78, Tryz.ntmps78
  go_wp2_with fail
  go_loopw [4, 9] (fun r i wr => r = .bool false ∧ ∃ k : Nat, k ≤ l.length ∧ i = .int .i64 (k : Int) ∧ Hid (∀ (j : Nat) (h : j < l.length), j < k → sameF ⟨n, kk, m⟩ l[j] = false) ∧ wr.heap[w.heap.size]? = some (.cells #[.string n, .int .i64 kk, .bool m] 95) ∧ Below w.heap.size w wr) (fun _ i _ => l.length - (intOf i).toNat)
  case atStart => exact ⟨rfl, 0, Nat.zero_le _, rfl, fun j h hj => absurd hj (Nat.not_lt_zero _), new_at _ _, hA⟩
  case round =>
    obtain ⟨rfl, k, hk, rfl, HO, hZ, hB⟩ := hrel
    clear hA
    by_cases hlk : k < l.length
    · have dk : decide ((k : Int) < l.length) = true := by simp; omega
      obtain ⟨b, off, rfl, hlt, hcap, hc⟩ := f_at (HR.out.below hB) (by omega)
      obtain ⟨ck0, ck1, ck2⟩ := hc k hlk
      have hAl := al_b wr (.cells #[.string l[k].n, .int .i64 l[k].k, .bool l[k].m] 95)
      have hzl : w.heap.size < wr.heap.size := (Array.getElem?_eq_some_iff.1 hZ).1
      have hB1 := hB.trans (hAl.mono hB.size)
      have hZ1 := (hAl.block _ hzl).trans hZ
      obtain ⟨z0, z1, z2, -, -, -⟩ := z3 hZ1
      have HSk : Hid (Calls Tryz.prog 103 #[.string n, .string l[k].n] (wr.alloc (.cells #[.string l[k].n, .int .i64 l[k].k, .bool l[k].m] 95)) fun e w'' => e = .returned (.bool (sameL n.data.toList l[k].n.data.toList)) ∧ Below (wr.alloc (.cells #[.string l[k].n, .int .i64 l[k].k, .bool l[k].m] 95)).heap.size (wr.alloc (.cells #[.string l[k].n, .int .i64 l[k].k, .bool l[k].m] 95)) w'') := HS.out k hlk _ hB1
      have HN : Hid (∀ w', Below (wr.alloc (.cells #[.string l[k].n, .int .i64 l[k].k, .bool l[k].m] 95)).heap.size (wr.alloc (.cells #[.string l[k].n, .int .i64 l[k].k, .bool l[k].m] 95)) w' → w'.heap[w.heap.size]? = some (.cells #[.string n, .int .i64 kk, .bool m] 95) ∧ Below w.heap.size w w') := fun w' h =>
        ⟨(h.block _ (Nat.lt_of_lt_of_le hzl hAl.size)).trans hZ1, hB1.trans (h.mono hB1.size)⟩
      have HNz := HN.out _ (Below.refl _ _)
      have HO2 : Hid (sameF ⟨n, kk, m⟩ l[k] = false → ∀ (j : Nat) (h : j < l.length), j < k + 1 → sameF ⟨n, kk, m⟩ l[j] = false) := fun hs j h hj => by
        by_cases e : j = k
        · subst e; exact hs
        · exact HO.out j h (by omega)
      have HY : Hid (sameF ⟨n, kk, m⟩ l[k] = true → isInL ⟨n, kk, m⟩ l = true) := fun hs => isIn_yes hlk hs
      have HD : Hid (sameF ⟨n, kk, m⟩ l[k] = (decide (kk = l[k].k) && (decide (m = l[k].m) && sameL n.data.toList l[k].n.data.toList))) := rfl
      generalize sameL n.data.toList l[k].n.data.toList = r at *
      generalize sameF ⟨n, kk, m⟩ l[k] = q at *
      generalize l[k]'hlk = y at *
      obtain ⟨n', kk', m'⟩ := y
      have HDD : Hid (q = (decide (kk = kk') && (decide (m = m') && r))) := HD.out
      clear hc HO hAl hB1 HD hZ1
      by_cases hkk : kk = kk'
      · have hkd := decide_eq_true hkk
        subst hkk
        by_cases hm : m = m'
        · have hq : q = r := by rw [HDD.out, hkd, decide_eq_true hm]; rfl
          subst hm
          clear HDD HNz hkd
          cases m with
          | false =>
            cases r with
            | true =>
              go_wp2_with fail
              refine HSk.out.mono ?_
              rintro e w1 ⟨rfl, hb⟩
              have HBB : Hid (Below w.heap.size w w1) := (HN.out w1 hb).2
              clear hb hB
              go_wp2
              go_ret
              exact ⟨by rw [HY.out hq]; rfl, HBB.out⟩
            | false =>
              go_wp2_with fail
              refine HSk.out.mono ?_
              rintro e w1 ⟨rfl, hb⟩
              have HBB : Hid (w1.heap[w.heap.size]? = some (.cells #[.string n, .int .i64 kk, .bool _] 95) ∧ Below w.heap.size w w1) := HN.out w1 hb
              clear hb hB
              go_wp2
              go_roundw
              case rel => exact ⟨rfl, k + 1, by omega, by simp, HO2.out hq, HBB.out.1, HBB.out.2⟩
              case measure => simp [intOf]; omega
          | true =>
            cases r with
            | true =>
              go_wp2_with fail
              refine HSk.out.mono ?_
              rintro e w1 ⟨rfl, hb⟩
              have HBB : Hid (Below w.heap.size w w1) := (HN.out w1 hb).2
              clear hb hB
              go_wp2
              go_ret
              exact ⟨by rw [HY.out hq]; rfl, HBB.out⟩
            | false =>
              go_wp2_with fail
              refine HSk.out.mono ?_
              rintro e w1 ⟨rfl, hb⟩
              have HBB : Hid (w1.heap[w.heap.size]? = some (.cells #[.string n, .int .i64 kk, .bool _] 95) ∧ Below w.heap.size w w1) := HN.out w1 hb
              clear hb hB
              go_wp2
              go_roundw
              case rel => exact ⟨rfl, k + 1, by omega, by simp, HO2.out hq, HBB.out.1, HBB.out.2⟩
              case measure => simp [intOf]; omega
        · have hq : q = false := by rw [HDD.out, decide_eq_false hm]; simp
          clear HDD hB hkd
          cases m with
          | false =>
            cases m' with
            | false => exact absurd rfl hm
            | true =>
              clear hm
              go_wp2
              go_roundw
              case rel => exact ⟨rfl, k + 1, by omega, by simp, HO2.out hq, HNz.1, HNz.2⟩
              case measure => simp [intOf]; omega
          | true =>
            cases m' with
            | true => exact absurd rfl hm
            | false =>
              clear hm
              go_wp2
              go_roundw
              case rel => exact ⟨rfl, k + 1, by omega, by simp, HO2.out hq, HNz.1, HNz.2⟩
              case measure => simp [intOf]; omega
      · have dkk : (kk == kk') = false := by rw [beq_eq_false_iff_ne]; exact hkk
        have hq : q = false := by rw [HDD.out, decide_eq_false hkk]; simp
        clear HDD hB
        go_wp2
        go_roundw
        case rel => exact ⟨rfl, k + 1, by omega, by simp, HO2.out hq, HNz.1, HNz.2⟩
        case measure => simp [intOf]; omega
    · have hk' : k = l.length := by omega
      subst hk'
      have dk : decide ((l.length : Int) < l.length) = false := by simp
      have HY : Hid (isInL ⟨n, kk, m⟩ l = false) := isIn_no (fun j hj => HO.out j hj hj)
      clear HO
      have HBB : Hid (Below w.heap.size w wr) := hB
      clear hB hZ
      go_wp2
      go_ret
      exact ⟨by rw [HY.out]; rfl, HBB.out⟩
set_option maxRecDepth 100000 in
set_option maxHeartbeats 2000000 in
theorem withinF_any (v u : Value) (a l : List Fd) (w : World) (hq : IsRow w 3 v a.length (fCells a)) (hr : IsRow w 3 u l.length (fCells l)) (hal : a.length ≤ 1000000) (hl : l.length ≤ 1000000) (hna : NmF a) (hn : NmF l) (hT : UT w) :
    Calls Tryz.prog 49 #[v, u] w fun e w' => e = .returned (.bool (withinL a l)) ∧ Below w.heap.size w w' := by
  obtain ⟨a0, cap0, rfl⟩ := hq.form
  have HR : Hid (IsRow w 3 (.slice a0 a.length cap0) a.length (fCells a)) := hq
  have HI : Hid (∀ (k : Nat) (h : k < a.length) (w' : World), Below w.heap.size w w' → Calls Tryz.prog 78 #[fV a[k], u] w' fun e w'' => e = .returned (.bool (isInL a[k] l)) ∧ Below w'.heap.size w' w'') := fun k h w' h' => isIn_any _ u l w' (hr.below h') hl (hna _ (List.getElem_mem h)) hn (Utf8Tabs_below hT h')
  clear hq hr hn hna hT
  go_enter Tryz.func49, Tryz.ntmps49
  go_wp2_with fail
  go_loopw [4, 9] (fun r i wr => r = .bool false ∧ ∃ k : Nat, k ≤ a.length ∧ i = .int .i64 (k : Int) ∧ Hid (∀ (j : Nat) (h : j < a.length), j < k → isInL a[j] l = true) ∧ Below w.heap.size w wr) (fun _ i _ => a.length - (intOf i).toNat)
  case atStart => exact ⟨rfl, 0, Nat.zero_le _, rfl, fun j h hj => absurd hj (Nat.not_lt_zero _), Below.refl _ _⟩
  case round =>
    obtain ⟨rfl, k, hk, rfl, HO, hB⟩ := hrel
    by_cases hlk : k < a.length
    · have dk : decide ((k : Int) < a.length) = true := by simp; omega
      obtain ⟨b, off, rfl, hlt, hcap, hc⟩ := f_at (HR.out.below hB) (by omega)
      obtain ⟨ck0, ck1, ck2⟩ := hc k hlk
      have hAl := al_b wr (.cells #[.string a[k].n, .int .i64 a[k].k, .bool a[k].m] 95)
      have hB1 := hB.trans (hAl.mono hB.size)
      have HIk : Hid (Calls Tryz.prog 78 #[fV a[k], u] (wr.alloc (.cells #[.string a[k].n, .int .i64 a[k].k, .bool a[k].m] 95)) fun e w'' => e = .returned (.bool (isInL a[k] l)) ∧ Below (wr.alloc (.cells #[.string a[k].n, .int .i64 a[k].k, .bool a[k].m] 95)).heap.size (wr.alloc (.cells #[.string a[k].n, .int .i64 a[k].k, .bool a[k].m] 95)) w'') := HI.out k hlk _ hB1
      have HBw : Hid (∀ w', Below (wr.alloc (.cells #[.string a[k].n, .int .i64 a[k].k, .bool a[k].m] 95)).heap.size (wr.alloc (.cells #[.string a[k].n, .int .i64 a[k].k, .bool a[k].m] 95)) w' → Below w.heap.size w w') := fun w' h => hB1.trans (h.mono hB1.size)
      have HO2 : Hid (isInL a[k] l = true → ∀ (j : Nat) (h : j < a.length), j < k + 1 → isInL a[j] l = true) := fun hs j h hj => by
        by_cases e : j = k
        · subst e; exact hs
        · exact HO.out j h (by omega)
      have HNo : Hid (isInL a[k] l = false → withinL a l = false) := fun hs => within_no hlk hs
      generalize isInL a[k] l = q at *
      generalize a[k]'hlk = y at *
      obtain ⟨n', kk', m'⟩ := y
      clear hc HO hAl hB1 hB
      cases q with
      | false =>
        go_wp2_with fail
        refine HIk.out.mono ?_
        rintro e w1 ⟨rfl, hb⟩
        have HBB : Hid (Below w.heap.size w w1) := HBw.out w1 hb
        clear hb
        go_wp2
        go_ret
        exact ⟨by rw [HNo.out (by trivial)]; rfl, HBB.out⟩
      | true =>
        go_wp2_with fail
        refine HIk.out.mono ?_
        rintro e w1 ⟨rfl, hb⟩
        have HBB : Hid (Below w.heap.size w w1) := HBw.out w1 hb
        clear hb
        go_wp2
        go_roundw
        case rel => exact ⟨rfl, k + 1, by omega, by simp, HO2.out (by trivial), HBB.out⟩
        case measure => simp [intOf]; omega
    · have hk' : k = a.length := by omega
      subst hk'
      have dk : decide ((a.length : Int) < a.length) = false := by simp
      have HY : Hid (withinL a l = true) := within_yes (fun j hj => HO.out j hj hj)
      clear HO
      have HBB : Hid (Below w.heap.size w wr) := hB
      clear hB
      go_wp2
      go_ret
      exact ⟨by rw [HY.out]; rfl, HBB.out⟩
end Go.Proofs.YthdbnlpbidkojaaGreatDoor
/- schema.Fits: its walk. -/
namespace Go.Proofs.YthdbnlpbidkojaaGreatDoor
open Go.RowKit

/-- What of the attributes does not fit, if anything does not. -/
def fit1 (l : List Fd) : List At → Int
  | [] => 0
  | x :: r => match getF l x.n with
    | none => 4
    | some f => if f.k = x.k then fit1 l r else 8
/-- Is a field that must be there not there? -/
def fit2 (a : List At) : List Fd → Int
  | [] => 0
  | f :: r => if f.m = true ∧ (getA a f.n).isSome = false then 7 else fit2 a r
def fitsL (l : List Fd) (a : List At) : Int := if chkF l = true ∧ chkA a = true then (if fit1 l a = 0 then fit2 a l else fit1 l a) else 1
theorem fit1_at {l : List Fd} {a : List At} {k : Nat} (h : k < a.length) : fit1 l (a.drop k) = match getF l a[k].n with
    | none => 4
    | some f => if f.k = a[k].k then fit1 l (a.drop (k + 1)) else 8 := by
  rw [List.drop_eq_getElem_cons h]; rfl
theorem fit2_at {l : List Fd} {a : List At} {k : Nat} (h : k < l.length) : fit2 a (l.drop k) = if l[k].m = true ∧ (getA a l[k].n).isSome = false then 7 else fit2 a (l.drop (k + 1)) := by
  rw [List.drop_eq_getElem_cons h]; rfl
theorem z4' {w w' : World} {b : Nat} {x y z u : Value} {t : TypeId} {B : Nat} (h : w.heap[b]? = some (.cells #[x, y, z, u] t)) (hb : Below B w w') (hl : b < B) : w'.heap[b]? = some (.cells #[x, y, z, u] t) := (hb.block _ hl).trans h
end Go.Proofs.YthdbnlpbidkojaaGreatDoor
/- schema.kindOf, schema.parseField: walks. -/
namespace Go.Proofs.YthdbnlpbidkojaaGreatDoor
open Go.RowKit

def wordK : Nat → List UInt8
  | 1 => [105, 110, 116]
  | 2 => [116, 101, 120, 116]
  | 3 => [98, 111, 111, 108]
  | _ => [98, 121, 116, 101, 115]
/-- The kind of a word. -/
def kindW (s : List UInt8) : Int := if s = wordK 1 then 1 else if s = wordK 2 then 2 else if s = wordK 3 then 3 else if s = wordK 4 then 4 else 0
theorem kindW_at {s : List UInt8} {k : Nat} (h1 : 1 ≤ k) (h2 : k < 5) (hb : ∀ j, 1 ≤ j → j < k → s ≠ wordK j) (hk : s = wordK k) : kindW s = (k : Int) := by
  have : k = 1 ∨ k = 2 ∨ k = 3 ∨ k = 4 := by omega
  unfold kindW
  rcases this with rfl | rfl | rfl | rfl
  · rw [if_pos hk]; rfl
  · rw [if_neg (hb 1 (by omega) (by omega)), if_pos hk]; rfl
  · rw [if_neg (hb 1 (by omega) (by omega)), if_neg (hb 2 (by omega) (by omega)), if_pos hk]; rfl
  · rw [if_neg (hb 1 (by omega) (by omega)), if_neg (hb 2 (by omega) (by omega)), if_neg (hb 3 (by omega) (by omega)), if_pos hk]; rfl
theorem kindW_no {s : List UInt8} (hb : ∀ j, 1 ≤ j → j < 5 → s ≠ wordK j) : kindW s = 0 := by
  unfold kindW
  rw [if_neg (hb 1 (by omega) (by omega)), if_neg (hb 2 (by omega) (by omega)), if_neg (hb 3 (by omega) (by omega)), if_neg (hb 4 (by omega) (by omega))]
end Go.Proofs.YthdbnlpbidkojaaGreatDoor
/- schema.parseField: its walk. -/
namespace Go.Proofs.YthdbnlpbidkojaaGreatDoor
open Go.RowKit

/-- The field that a text says. -/
def parseF (s : List UInt8) : Fd := ⟨str (Lib.cut s [32]).1, kindW (Lib.trimSuffix (Lib.cut s [32]).2.1 [33]), Lib.hasSuffix (Lib.cut s [32]).2.1 [33]⟩
theorem results_cell1 {fn : Func} {p : Tmp} {ty : TypeId} (h : fn.results = #[.cell p ty]) (tmps : Array Value) (P : Program) (w : World) :
    (results fn tmps).run P w = ((asAddr (tmps.getD p undef)).run P w).andThen fun a w₁ => (loadVar ty a).run P w₁ := by
  simp only [results, h]
  simp [Sem.run_bind, Result.andThen]
theorem cut_le (s sep : List UInt8) : (Lib.cut s sep).2.1.length ≤ s.length := by
  unfold Lib.cut
  split <;> simp
end Go.Proofs.YthdbnlpbidkojaaGreatDoor
/- schema.Parse: its walk. -/
namespace Go.Proofs.YthdbnlpbidkojaaGreatDoor
open Go.RowKit

theorem split_size (sep : ByteArray) : ∀ (k : Nat) (s x : ByteArray), x ∈ Lib.splitB sep 0 k s → x.size ≤ s.size
  | 0, s, x, h => by
    obtain rfl : x = s := by simpa [Lib.splitB] using h
    exact Nat.le_refl _
  | k + 1, s, x, h => by
    unfold Lib.splitB at h
    split at h
    · obtain rfl : x = s := by simpa using h
      exact Nat.le_refl _
    · rcases List.mem_cons.1 h with rfl | h
      · rw [ByteArray.size_extract]; omega
      · have := split_size sep k _ x h
        rw [ByteArray.size_extract] at this
        omega
theorem cut_le1 (s sep : List UInt8) : (Lib.cut s sep).1.length ≤ s.length := by
  unfold Lib.cut
  split <;> simp <;> omega
/-- The pieces of a line, and the fields that they say. -/
def pL (s : ByteArray) : List ByteArray := Lib.splitB ⟨#[44, 32]⟩ 0 (min 25 (s.size + 1) - 1) s
def parseL (s : ByteArray) : List Fd := (pL s).map fun x => parseF x.data.toList
theorem pL_len (s : ByteArray) : (pL s).length ≤ min 25 (s.size + 1) := by
  have := Lib.splitB_length_le ⟨#[44, 32]⟩ 0 (min 25 (s.size + 1) - 1) s
  unfold pL
  omega
theorem parse_nm (s : ByteArray) (hs : s.size ≤ 1000000) : NmF (parseL s) := by
  intro x hx
  obtain ⟨y, hy, rfl⟩ := List.mem_map.1 hx
  have h1 := split_size _ _ _ _ hy
  have h2 := cut_le1 y.data.toList [32]
  have h3 : y.data.toList.length = y.size := by simp
  show (str (Lib.cut y.data.toList [32]).1).size ≤ _
  rw [str_size]
  omega
theorem parse_take (s : ByteArray) (k : Nat) (hk : k < (pL s).length) : fCells (((pL s).take (k + 1)).map fun x => parseF x.data.toList) = fCells (((pL s).take k).map fun x => parseF x.data.toList) ++ enF (parseF (pL s)[k].data.toList) := by
  rw [List.take_succ_eq_append_getElem hk, List.map_append, fCells, List.flatMap_append]
  simp [fCells]
/-- What a line says: the fields, and the error. -/
def parseR (s : ByteArray) : List Fd × Int := if s.data.toList = [45] then ([], 0) else if chkF (parseL s) = true then (parseL s, 0) else ([], 3)
def PrPost (s : ByteArray) (w : World) (e : Ending) (w' : World) : Prop :=
  ∃ v, e = .returned (.tuple #[v, .int .i64 (parseR s).2]) ∧ IsRow w' 3 v (parseR s).1.length (fCells (parseR s).1) ∧ Below w.heap.size w w'
theorem info_fd : (Tryz.prog.info? 95).map (fun i => (i.zero, i.size, i.bytes)) = some (some (.agg #[.string ⟨#[]⟩, .int .i64 0, .bool false]), 3, 32) := by kernel_rfl
theorem wpl_appE {P : Program} (wr : World) {ops : Array Oper} {rest : List Oper} {o : Oper} {a : Act} {Q : Exit → Act → World → Prop} (hgd : o.guard = none) (s x : Operand) (t e : TypeId)
    (ho : o.op = .call { callee := .builtin .append, args := #[s, x], argTypes := #[t, t] })
    (i : TypeInfo) (z : Value) (size bytes : Nat) (ht : P.underlying t = some (.slice e)) (hi : P.info? e = some i) (hz : i.zero = some z)
    (hsize : i.size = size) (hby : i.bytes = bytes) (hzs : z.cells.size = size) (hsz : 0 < size)
    (base : Nat) (v : Value) (n : Nat) (xs : List Value) (hs : a.eval s = v) (hown : wr.ownsRow base e size v n xs)
    (es : List Value) (hes : es.length = size) (C : Array Value) (hC : C = es.toArray) (hx : a.eval x = .slice (some ⟨wr.heap.size, 0, none⟩) 1 1) (h1 : ∀ u ∈ es, u.oneCell' = true)
    (hbytes : (n + 1) * bytes ≤ 140737488355328) (h63 : n + 1 ≤ maxLen) (hbase : base ≤ wr.heap.size)
    (h : ∀ v' w', w'.ownsRow base e size v' (n + 1) (xs ++ es) → Below base wr w' → wpList P ops Q rest (a.put o.dst v') w') :
    wpList P ops Q (o :: rest) a (wr.alloc (.cells C e)) := by
  subst hC
  refine wpList_append_own _ hgd s x t ho base e i z size bytes ht hi hz hsize hby hzs hsz v n xs hs (hown.alloc _) ⟨wr.heap.size, 0, none⟩ 1 1 es hx (by omega) ?_ h1 h63 hbytes ?_ ?_
  · intro j u hj
    have : (⟨wr.heap.size, 0, none⟩ : Addr).add j = ⟨wr.heap.size, j, none⟩ := by unfold Addr.add; split <;> simp_all
    rw [this]
    simp
    exact hj
  · simp; omega
  · intro v' w' h2 h3 _
    exact h v' w' h2 (((Below.refl _ _).alloc hbase _).grown h3 (by simp; omega) (fun k hk => (hown.lt k hk).1))
theorem own_belowE {w w1 : World} {base : Nat} {e : TypeId} {sz : Nat} {v : Value} {n : Nat} {xs : List Value} (h : w.ownsRow base e sz v n xs) (hb : Below w.heap.size w w1) : w1.ownsRow base e sz v n xs :=
  h.kept (row := none) ⟨hb.os, hb.tape, hb.output, hb.size, fun k hk _ => hb.block k hk⟩ (by cases hv : v.ownBlock <;> simp)
def sVals (l : List ByteArray) : List Value := l.map Value.string
theorem s_at {w : World} {a : Option Addr} {cap n : Nat} {l : List ByteArray} (h : IsRow w 1 (.slice a n cap) l.length (sVals l)) (h0 : 0 < l.length) :
    ∃ b off, a = some ⟨b, off, none⟩ ∧ n = l.length ∧ b < w.heap.size ∧ l.length ≤ cap ∧ ∀ (k : Nat) (hk : k < l.length), w.cell? ⟨b, off + k, none⟩ = some (.string l[k]) := by
  obtain ⟨b, off, cap', hv, hlt, q1, q2, hc⟩ := h.open (by omega)
  simp only [Value.slice.injEq] at hv
  exact ⟨b, off, hv.1, hv.2.1, hlt, by omega, fun k hk => hc k _ (by simp [sVals, hk])⟩
theorem split_row (s : ByteArray) (w : World) : IsRow (w.alloc (.cells (Lib.cellsOf (pL s) (min 25 (s.size + 1))) 9)) 1 (.slice (some ⟨w.heap.size, 0, none⟩) (pL s).length (min 25 (s.size + 1))) (pL s).length (sVals (pL s)) := by
  refine ⟨by simp [sVals], .inr ⟨w.heap.size, 0, min 25 (s.size + 1), rfl, by simp, pL_len s, by unfold maxLen; omega, ?_⟩⟩
  intro j u hu
  have hj : j < (pL s).length := by
    have := (List.getElem?_eq_some_iff.1 hu).1
    simpa [sVals] using this
  rw [Lib.cell_of_heap (new_at w _)]
  simp only [Lib.cellsOf, Nat.zero_add, List.getElem?_toArray]
  rw [List.getElem?_append_left (by simpa using hj)]
  exact hu
end Go.Proofs.YthdbnlpbidkojaaGreatDoor
/- schema.Merge where it tells an error: its walk. -/
namespace Go.Proofs.YthdbnlpbidkojaaGreatDoor
open Go.RowKit

/-- Has one of the fields a name that is there? -/
def clashL (a b : List Fd) : Bool := b.any fun x => (getF a x.n).isSome
/-- What Merge tells ahead of sorting. -/
def mergeE (a b : List Fd) : Int := if chkF a = true ∧ chkF b = true then (if clashL a b = true then 9 else 0) else 1
theorem clash_at {a b : List Fd} {k : Nat} (h : k < b.length) (hk : (getF a b[k].n).isSome = true) : clashL a b = true := List.any_eq_true.2 ⟨_, List.getElem_mem h, hk⟩
theorem clash_no {a b : List Fd} (h : ∀ (k : Nat) (hk : k < b.length), (getF a b[k].n).isSome = false) : clashL a b = false := by
  unfold clashL
  rw [List.any_eq_false]
  intro y hy
  obtain ⟨j, hj, rfl⟩ := List.getElem_of_mem hy
  rw [h j hj]
  exact Bool.false_ne_true
end Go.Proofs.YthdbnlpbidkojaaGreatDoor
/- slices.Clone, slices.Grow of nothing, slices.Concat of two, at fields: walks. -/
namespace Go.Proofs.YthdbnlpbidkojaaGreatDoor
open Go.RowKit Go.ChangeMaps

theorem run_app0S {P : Program} (w : World) (t ty e : TypeId) (i : TypeInfo) (ht : P.underlying t = some (.slice e)) (hi : P.info? e = some i) (a : Option Addr) (n c : Nat) (hc : n ≤ c) (xa : Option Addr) (xc : Nat) :
    (Builtin.append_ #[t, t] ty #[.slice a n c, .slice xa 0 xc]).run P w = .ok (.slice a n c) w := by
  have hs : (sizeOf e).run P w = .ok i.size w := by simp [sizeOf, typeInfo, hi, Sem.run_bind]
  cases xa <;> cases a <;> simp [Builtin.append_, run_underlying ht, hs, Builtin.lenOf, Builtin.firstCells, loadCells, loadCellsFrom, storeCells, Result.andThen, hc]
theorem grown_reflS (w : World) (r : Option Nat) : w.grownBy w r := ⟨rfl, rfl, rfl, Nat.le_refl _, fun _ _ _ => rfl⟩
theorem oneF_cell (l : List Fd) : ∀ u ∈ fCells l, u.oneCell' = true := by
  intro u hu
  obtain ⟨x, -, hx⟩ := List.mem_flatMap.1 hu
  simp only [enF, List.mem_cons, List.not_mem_nil, or_false] at hx
  rcases hx with rfl | rfl | rfl <;> rfl
theorem fCells_app (a b : List Fd) : fCells (a ++ b) = fCells a ++ fCells b := by simp [fCells]
/-- A row of fields is appended to one that is owned. -/
theorem wpl_fds (w : World) {ops : Array Oper} {rest : List Oper} {o : Oper} {a : Act} {Q : Exit → Act → World → Prop} (hgd : o.guard = none) (s x : Operand)
    (ho : o.op = .call { callee := .builtin .append, args := #[s, x], argTypes := #[30, 30] })
    (base : Nat) (v xv : Value) (l news : List Fd) (hs : a.eval s = v) (hx : a.eval x = xv) (h : w.ownsRow base 95 3 v l.length (fCells l)) (hr : IsRow w 3 xv news.length (fCells news)) (hl : l.length + news.length ≤ 1000000) (hbase : base ≤ w.heap.size)
    (hk : ∀ v' w', w'.ownsRow base 95 3 v' (l ++ news).length (fCells (l ++ news)) → Below base w w' → wpList Tryz.prog ops Q rest (a.put o.dst v') w') : wpList Tryz.prog ops Q (o :: rest) a w := by
  obtain ⟨i0, hi0, hz0, hz1, hz2⟩ := info_parts info_fd
  rcases hr.2 with ⟨h0, xa, xc, rfl⟩ | ⟨b, off, cap, rfl, hb, hc, hm, hcell⟩
  · refine wpList_plain hgd fun K hK => ?_
    have hn : news = [] := List.eq_nil_of_length_eq_zero h0
    subst hn
    have hv : ∃ va vc, v = .slice va l.length vc ∧ l.length ≤ vc := by
      rcases h.2 with ⟨rfl, h1⟩ | ⟨g, cap, cur, rfl, _, _, hlc, _⟩
      · rw [h1]; exact ⟨none, 0, rfl, Nat.le_refl _⟩
      · exact ⟨_, cap, rfl, hlc⟩
    obtain ⟨va, vc, rfl, hvc⟩ := hv
    have hrun := run_app0S (P := Tryz.prog) w 30 o.type 95 i0 Tryz.underlying30 hi0 va l.length vc hvc xa xc
    unfold Oper.wp execOp
    simp only [ho, resolve, invoke, builtin, Sem.run_bind, Sem.run_pure, Result.andThen_ok, List.map_toArray, List.map_cons, List.map_nil, hs, hx, hrun]
    exact hK _ _ (hk _ w (by rw [List.append_nil]; exact h) (Below.refl _ _))
  · refine wpList_append_own_at w hgd s x 30 ho base 95 i0 _ 3 32 Tryz.underlying30 hi0 hz0 hz1 hz2 rfl (by decide) v l.length (fCells l) hs h ⟨b, off, none⟩ news.length cap (fCells news) hx (fCells_len _) (fun j u hu => ?_) (oneF_cell _) (by unfold maxLen; omega) (by omega) hbase fun v' w' h1 h2 _ h4 => hk v' w' ?_ ?_
    · have hadd : (⟨b, off, none⟩ : Addr).add j = ⟨b, off + j, none⟩ := by unfold Addr.add; split <;> simp_all
      rw [hadd]; exact hcell j u hu
    · rw [List.length_append, fCells_app]; exact h1
    · exact (Below.refl _ _).grown h2 hbase (fun k hk => (h.lt k hk).1)
def ClF (l : List Fd) (w : World) (e : Ending) (w' : World) : Prop := ∃ v, e = .returned v ∧ w'.ownsRow w.heap.size 95 3 v l.length (fCells l) ∧ Below w.heap.size w w'
set_option maxRecDepth 100000 in
set_option maxHeartbeats 1000000 in
theorem cloneF_any (v : Value) (l : List Fd) (w : World) (hr : IsRow w 3 v l.length (fCells l)) (hl : l.length ≤ 1000) :
    Calls Tryz.prog 57 #[v] w fun e w' => ClF l w e w' := by
  obtain ⟨a0, cap0, rfl⟩ := hr.form
  cases a0 with
  | none =>
    have hn : l.length = 0 := by
      rcases hr.2 with ⟨h, -⟩ | ⟨b, off, cap, hv, -⟩
      · exact h
      · cases hv
    obtain rfl : l = [] := List.eq_nil_of_length_eq_zero hn
    have heq : ∀ w, (binOp BinOp.eql 30 (.slice none 0 cap0) (.slice none 0 0)).run Tryz.prog w = .ok (.bool true) w := fun w => by kernel_rfl
    clear hr hn
    go_enter Tryz.func57, Tryz.ntmps57
    go_wp2
    go_ret
    exact ⟨_, rfl, ⟨rfl, .inl ⟨rfl, rfl⟩⟩, Below.refl _ _⟩
  | some a =>
    have HW : Hid ((w.alloc (.cells #[] 95)).ownsRow w.heap.size 95 3 (.slice (some ⟨w.heap.size, 0, none⟩) 0 0) ([] : List Fd).length (fCells [])) := ⟨rfl, .inr ⟨w.heap.size, 0, #[], rfl, Nat.le_refl _, new_at w _, Nat.le_refl _, Nat.zero_le _, rfl, rfl⟩⟩
    have HB : Hid (Below w.heap.size w (w.alloc (.cells #[] 95))) := al_b w _
    have HR : Hid (IsRow (w.alloc (.cells #[] 95)) 3 (.slice (some a) l.length cap0) l.length (fCells l)) := hr.below (al_b w _)
    have heq : ∀ w, (binOp BinOp.eql 30 (.slice (some a) l.length cap0) (.slice none 0 0)).run Tryz.prog w = .ok (.bool false) w := fun w => by kernel_rfl
    clear hr
    go_enter Tryz.func57, Tryz.ntmps57
    go_wp2_with (at_builtin; go_loud (refine wpl_fds (w.alloc (.cells #[] 95)) rfl (.tmp 5) (.tmp 6) rfl w.heap.size (.slice (some ⟨w.heap.size, 0, none⟩) 0 0) (.slice (some a) l.length cap0) [] l rfl rfl HW.out HR.out (by simp; omega) (by simp) ?_; intro v4 w4 hown4 hb4))
    rw [List.nil_append] at hown4
    have HO : Hid (w4.ownsRow w.heap.size 95 3 v4 l.length (fCells l)) := hown4
    have HB4 : Hid (Below w.heap.size w w4) := HB.out.trans hb4
    clear hown4 hb4 HW HR
    go_wp2
    go_ret
    exact ⟨_, rfl, HO.out, HB4.out⟩
theorem zc_size (z : Array Value) (n : Nat) : (Builtin.zeroCells z n).size = n * z.size := by
  induction n with
  | zero => simp [Builtin.zeroCells]
  | succ n ih => simp_all [Builtin.zeroCells]
end Go.Proofs.YthdbnlpbidkojaaGreatDoor
/- slices.Concat of two rows of fields: its walk. -/
namespace Go.Proofs.YthdbnlpbidkojaaGreatDoor
open Go.RowKit Go.ChangeMaps

def pre2 (a b : List Fd) (k : Nat) : List Fd := if k = 0 then [] else if k = 1 then a else a ++ b
end Go.Proofs.YthdbnlpbidkojaaGreatDoor
/- How bytes stand: plain. -/
namespace Go.Proofs.YthdbnlpbidkojaaGreatDoor
open Go.RowKit

theorem cmp_self : ∀ l : List UInt8, Lib.compareBytes l l = 0
  | [] => rfl
  | b :: l => by simp [Lib.compareBytes, cmp_self l]
theorem cmp_zero : ∀ (a b : List UInt8), Lib.compareBytes a b = 0 → a = b
  | [], [] => fun _ => rfl
  | [], b :: l => by simp [Lib.compareBytes]
  | a :: k, [] => by simp [Lib.compareBytes]
  | a :: k, b :: l => by
    simp only [Lib.compareBytes]
    split
    · intro h; cases h
    split
    · intro h; cases h
    · rename_i h1 h2
      intro h
      have e : a = b := UInt8.le_antisymm (UInt8.not_lt.1 h2) (UInt8.not_lt.1 h1)
      rw [e, cmp_zero k l h]
theorem cmp_anti : ∀ (a b : List UInt8), Lib.compareBytes a b = - Lib.compareBytes b a
  | [], [] => rfl
  | [], b :: l => by simp [Lib.compareBytes]
  | a :: k, [] => by simp [Lib.compareBytes]
  | a :: k, b :: l => by
    simp only [Lib.compareBytes]
    by_cases h1 : a < b
    · have h2 : ¬ b < a := UInt8.lt_asymm h1
      simp [h1, h2]
    · by_cases h2 : b < a
      · simp [h1, h2]
      · simp [h1, h2, cmp_anti k l]
theorem cmp_vals : ∀ (a b : List UInt8), Lib.compareBytes a b = -1 ∨ Lib.compareBytes a b = 0 ∨ Lib.compareBytes a b = 1
  | [], [] => by simp [Lib.compareBytes]
  | [], b :: l => by simp [Lib.compareBytes]
  | a :: k, [] => by simp [Lib.compareBytes]
  | a :: k, b :: l => by
    simp only [Lib.compareBytes]
    split
    · simp
    split
    · simp
    · exact cmp_vals k l
theorem cmp_trans : ∀ (a b c : List UInt8), Lib.compareBytes a b = -1 → Lib.compareBytes b c = -1 → Lib.compareBytes a c = -1
  | [], [], c => by simp [Lib.compareBytes]
  | [], b :: l, [] => by simp [Lib.compareBytes]
  | [], b :: l, c :: m => by simp [Lib.compareBytes]
  | a :: k, [], c => by simp [Lib.compareBytes]
  | a :: k, b :: l, [] => by simp [Lib.compareBytes]
  | a :: k, b :: l, c :: m => by
    have ih := cmp_trans k l m
    simp only [Lib.compareBytes]
    by_cases h1 : a < b
    · by_cases h3 : b < c
      · have h5 : a < c := UInt8.lt_trans h1 h3
        simp [h5]
      · by_cases h4 : c < b
        · simp [h3, h4]
        · have e : b = c := UInt8.le_antisymm (UInt8.not_lt.1 h4) (UInt8.not_lt.1 h3)
          subst e
          simp [h1]
    · by_cases h2 : b < a
      · simp [h1, h2]
      · have e : a = b := UInt8.le_antisymm (UInt8.not_lt.1 h2) (UInt8.not_lt.1 h1)
        subst e
        by_cases h3 : a < c
        · simp [h3]
        · by_cases h4 : c < a
          · simp [h3, h4]
          · simp only [h1, h3, h4, if_false]
            exact ih

end Go.Proofs.YthdbnlpbidkojaaGreatDoor
