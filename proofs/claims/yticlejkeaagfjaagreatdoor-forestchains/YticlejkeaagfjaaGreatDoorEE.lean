/- schema.isIn, schema.Within: walks. -/
import Derived.Test.YticlejkeaagfjaaGreatDoorZi
namespace Go.Proofs.YticlejkeaagfjaaGreatDoor
open Go.RowKit

/-- The same field, but for how its name is written. -/
def sameF (x y : Fd) : Bool := decide (x.k = y.k) && (decide (x.m = y.m) && sameL x.n.data.toList y.n.data.toList)
def isInL (x : Fd) (l : List Fd) : Bool := l.any (sameF x)
def withinL (a b : List Fd) : Bool := a.all fun x => isInL x b
theorem isIn_yes {x : Fd} {l : List Fd} {k : Nat} (h : k < l.length) (hk : sameF x l[k] = true) : isInL x l = true := List.any_eq_true.2 ⟨_, List.getElem_mem h, hk⟩
theorem isIn_no {x : Fd} {l : List Fd} (h : ∀ (k : Nat) (hk : k < l.length), sameF x l[k] = false) : isInL x l = false := by
  unfold isInL
  rw [List.any_eq_false]
  intro y hy
  obtain ⟨j, hj, rfl⟩ := List.getElem_of_mem hy
  rw [h j hj]
  exact Bool.false_ne_true
theorem within_no {a b : List Fd} {k : Nat} (h : k < a.length) (hk : isInL a[k] b = false) : withinL a b = false := by
  unfold withinL
  rw [List.all_eq_false]
  exact ⟨_, List.getElem_mem h, by rw [hk]; exact Bool.false_ne_true⟩
theorem within_yes {a b : List Fd} (h : ∀ (k : Nat) (hk : k < a.length), isInL a[k] b = true) : withinL a b = true := by
  unfold withinL
  rw [List.all_eq_true]
  intro y hy
  obtain ⟨j, hj, rfl⟩ := List.getElem_of_mem hy
  exact h j hj
set_option maxRecDepth 100000 in
set_option maxHeartbeats 2000000 in
theorem isIn_any (x : Fd) (v : Value) (l : List Fd) (w : World) (hr : IsRow w 3 v l.length (fCells l)) (hl : l.length ≤ 1000000) (hx : x.n.size ≤ 1000000) (hn : NmF l) (hT : UT w) :
    Calls Tryz.prog 87 #[fV x, v] w fun e w' => e = .returned (.bool (isInL x l)) ∧ Below w.heap.size w w' := by
  obtain ⟨a0, cap0, rfl⟩ := hr.form
  have HR : Hid (IsRow w 3 (.slice a0 l.length cap0) l.length (fCells l)) := hr
  have HS : Hid (∀ (k : Nat) (h : k < l.length) (w' : World), Below w.heap.size w w' → Calls Tryz.prog 53 #[.string x.n, .string l[k].n] w' fun e w'' => e = .returned (.bool (sameL x.n.data.toList l[k].n.data.toList)) ∧ Below w'.heap.size w' w'') := fun k h w' h' => same_any _ _ w' hx (hn _ (List.getElem_mem h)) (Utf8Tabs_below hT h')
  clear hr hn hT hx
  obtain ⟨n, kk, m⟩ := x
  have hA := al_b w (.cells #[.string n, .int .i64 kk, .bool m] 93)
  go_enter Tryz.func87, Tryz.ntmps87
  go_wp2_with fail
  go_loopw [4, 9] (fun r i wr => r = .bool false ∧ ∃ k : Nat, k ≤ l.length ∧ i = .int .i64 (k : Int) ∧ Hid (∀ (j : Nat) (h : j < l.length), j < k → sameF ⟨n, kk, m⟩ l[j] = false) ∧ wr.heap[w.heap.size]? = some (.cells #[.string n, .int .i64 kk, .bool m] 93) ∧ Below w.heap.size w wr) (fun _ i _ => l.length - (intOf i).toNat)
  case atStart => exact ⟨rfl, 0, Nat.zero_le _, rfl, fun j h hj => absurd hj (Nat.not_lt_zero _), new_at _ _, hA⟩
  case round =>
    obtain ⟨rfl, k, hk, rfl, HO, hZ, hB⟩ := hrel
    clear hA
    by_cases hlk : k < l.length
    · have dk : decide ((k : Int) < l.length) = true := by simp; omega
      obtain ⟨b, off, rfl, hlt, hcap, hc⟩ := f_at (HR.out.below hB) (by omega)
      obtain ⟨ck0, ck1, ck2⟩ := hc k hlk
      have hAl := al_b wr (.cells #[.string l[k].n, .int .i64 l[k].k, .bool l[k].m] 93)
      have hzl : w.heap.size < wr.heap.size := (Array.getElem?_eq_some_iff.1 hZ).1
      have hB1 := hB.trans (hAl.mono hB.size)
      have hZ1 := (hAl.block _ hzl).trans hZ
      obtain ⟨z0, z1, z2, -, -, -⟩ := z3 hZ1
      have HSk : Hid (Calls Tryz.prog 53 #[.string n, .string l[k].n] (wr.alloc (.cells #[.string l[k].n, .int .i64 l[k].k, .bool l[k].m] 93)) fun e w'' => e = .returned (.bool (sameL n.data.toList l[k].n.data.toList)) ∧ Below (wr.alloc (.cells #[.string l[k].n, .int .i64 l[k].k, .bool l[k].m] 93)).heap.size (wr.alloc (.cells #[.string l[k].n, .int .i64 l[k].k, .bool l[k].m] 93)) w'') := HS.out k hlk _ hB1
      have HN : Hid (∀ w', Below (wr.alloc (.cells #[.string l[k].n, .int .i64 l[k].k, .bool l[k].m] 93)).heap.size (wr.alloc (.cells #[.string l[k].n, .int .i64 l[k].k, .bool l[k].m] 93)) w' → w'.heap[w.heap.size]? = some (.cells #[.string n, .int .i64 kk, .bool m] 93) ∧ Below w.heap.size w w') := fun w' h =>
        ⟨(h.block _ (Nat.lt_of_lt_of_le hzl hAl.size)).trans hZ1, hB1.trans (h.mono hB1.size)⟩
      have HNz := HN.out _ (Below.refl _ _)
      have HO2 : Hid (sameF ⟨n, kk, m⟩ l[k] = false → ∀ (j : Nat) (h : j < l.length), j < k + 1 → sameF ⟨n, kk, m⟩ l[j] = false) := fun hs j h hj => by
        by_cases e : j = k
        · subst e; exact hs
        · exact HO.out j h (by omega)
      have HY : Hid (sameF ⟨n, kk, m⟩ l[k] = true → isInL ⟨n, kk, m⟩ l = true) := fun hs => isIn_yes hlk hs
      have HD : Hid (sameF ⟨n, kk, m⟩ l[k] = (decide (kk = l[k].k) && (decide (m = l[k].m) && sameL n.data.toList l[k].n.data.toList))) := rfl
      generalize sameL n.data.toList l[k].n.data.toList = r at *
      generalize sameF ⟨n, kk, m⟩ l[k] = q at *
      generalize l[k]'hlk = y at *
      obtain ⟨n', kk', m'⟩ := y
      have HDD : Hid (q = (decide (kk = kk') && (decide (m = m') && r))) := HD.out
      clear hc HO hAl hB1 HD hZ1
      by_cases hkk : kk = kk'
      · have hkd := decide_eq_true hkk
        subst hkk
        by_cases hm : m = m'
        · have hq : q = r := by rw [HDD.out, hkd, decide_eq_true hm]; rfl
          subst hm
          clear HDD HNz hkd
          cases m with
          | false =>
            cases r with
            | true =>
              go_wp2_with fail
              refine HSk.out.mono ?_
              rintro e w1 ⟨rfl, hb⟩
              have HBB : Hid (Below w.heap.size w w1) := (HN.out w1 hb).2
              clear hb hB
              go_wp2
              go_ret
              exact ⟨by rw [HY.out hq]; rfl, HBB.out⟩
            | false =>
              go_wp2_with fail
              refine HSk.out.mono ?_
              rintro e w1 ⟨rfl, hb⟩
              have HBB : Hid (w1.heap[w.heap.size]? = some (.cells #[.string n, .int .i64 kk, .bool _] 93) ∧ Below w.heap.size w w1) := HN.out w1 hb
              clear hb hB
              go_wp2
              go_roundw
              case rel => exact ⟨rfl, k + 1, by omega, by simp, HO2.out hq, HBB.out.1, HBB.out.2⟩
              case measure => simp [intOf]; omega
          | true =>
            cases r with
            | true =>
              go_wp2_with fail
              refine HSk.out.mono ?_
              rintro e w1 ⟨rfl, hb⟩
              have HBB : Hid (Below w.heap.size w w1) := (HN.out w1 hb).2
              clear hb hB
              go_wp2
              go_ret
              exact ⟨by rw [HY.out hq]; rfl, HBB.out⟩
            | false =>
              go_wp2_with fail
              refine HSk.out.mono ?_
              rintro e w1 ⟨rfl, hb⟩
              have HBB : Hid (w1.heap[w.heap.size]? = some (.cells #[.string n, .int .i64 kk, .bool _] 93) ∧ Below w.heap.size w w1) := HN.out w1 hb
              clear hb hB
              go_wp2
              go_roundw
              case rel => exact ⟨rfl, k + 1, by omega, by simp, HO2.out hq, HBB.out.1, HBB.out.2⟩
              case measure => simp [intOf]; omega
        · have hq : q = false := by rw [HDD.out, decide_eq_false hm]; simp
          clear HDD hB hkd
          cases m with
          | false =>
            cases m' with
            | false => exact absurd rfl hm
            | true =>
              clear hm
              go_wp2
              go_roundw
              case rel => exact ⟨rfl, k + 1, by omega, by simp, HO2.out hq, HNz.1, HNz.2⟩
              case measure => simp [intOf]; omega
          | true =>
            cases m' with
            | true => exact absurd rfl hm
            | false =>
              clear hm
              go_wp2
              go_roundw
              case rel => exact ⟨rfl, k + 1, by omega, by simp, HO2.out hq, HNz.1, HNz.2⟩
              case measure => simp [intOf]; omega
      · have dkk : (kk == kk') = false := by rw [beq_eq_false_iff_ne]; exact hkk
        have hq : q = false := by rw [HDD.out, decide_eq_false hkk]; simp
        clear HDD hB
        go_wp2
        go_roundw
        case rel => exact ⟨rfl, k + 1, by omega, by simp, HO2.out hq, HNz.1, HNz.2⟩
        case measure => simp [intOf]; omega
    · have hk' : k = l.length := by omega
      subst hk'
      have dk : decide ((l.length : Int) < l.length) = false := by simp
      have HY : Hid (isInL ⟨n, kk, m⟩ l = false) := isIn_no (fun j hj => HO.out j hj hj)
      clear HO
      have HBB : Hid (Below w.heap.size w wr) := hB
      clear hB hZ
      go_wp2
      go_ret
      exact ⟨by rw [HY.out]; rfl, HBB.out⟩
set_option maxRecDepth 100000 in
set_option maxHeartbeats 2000000 in
theorem withinF_any (v u : Value) (a l : List Fd) (w : World) (hq : IsRow w 3 v a.length (fCells a)) (hr : IsRow w 3 u l.length (fCells l)) (hal : a.length ≤ 1000000) (hl : l.length ≤ 1000000) (hna : NmF a) (hn : NmF l) (hT : UT w) :
    Calls Tryz.prog 46 #[v, u] w fun e w' => e = .returned (.bool (withinL a l)) ∧ Below w.heap.size w w' := by
  obtain ⟨a0, cap0, rfl⟩ := hq.form
  have HR : Hid (IsRow w 3 (.slice a0 a.length cap0) a.length (fCells a)) := hq
  have HI : Hid (∀ (k : Nat) (h : k < a.length) (w' : World), Below w.heap.size w w' → Calls Tryz.prog 87 #[fV a[k], u] w' fun e w'' => e = .returned (.bool (isInL a[k] l)) ∧ Below w'.heap.size w' w'') := fun k h w' h' => isIn_any _ u l w' (hr.below h') hl (hna _ (List.getElem_mem h)) hn (Utf8Tabs_below hT h')
  clear hq hr hn hna hT
  go_enter Tryz.func46, Tryz.ntmps46
  go_wp2_with fail
  go_loopw [4, 9] (fun r i wr => r = .bool false ∧ ∃ k : Nat, k ≤ a.length ∧ i = .int .i64 (k : Int) ∧ Hid (∀ (j : Nat) (h : j < a.length), j < k → isInL a[j] l = true) ∧ Below w.heap.size w wr) (fun _ i _ => a.length - (intOf i).toNat)
  case atStart => exact ⟨rfl, 0, Nat.zero_le _, rfl, fun j h hj => absurd hj (Nat.not_lt_zero _), Below.refl _ _⟩
  case round =>
    obtain ⟨rfl, k, hk, rfl, HO, hB⟩ := hrel
    by_cases hlk : k < a.length
    · have dk : decide ((k : Int) < a.length) = true := by simp; omega
      obtain ⟨b, off, rfl, hlt, hcap, hc⟩ := f_at (HR.out.below hB) (by omega)
      obtain ⟨ck0, ck1, ck2⟩ := hc k hlk
      have hAl := al_b wr (.cells #[.string a[k].n, .int .i64 a[k].k, .bool a[k].m] 93)
      have hB1 := hB.trans (hAl.mono hB.size)
      have HIk : Hid (Calls Tryz.prog 87 #[fV a[k], u] (wr.alloc (.cells #[.string a[k].n, .int .i64 a[k].k, .bool a[k].m] 93)) fun e w'' => e = .returned (.bool (isInL a[k] l)) ∧ Below (wr.alloc (.cells #[.string a[k].n, .int .i64 a[k].k, .bool a[k].m] 93)).heap.size (wr.alloc (.cells #[.string a[k].n, .int .i64 a[k].k, .bool a[k].m] 93)) w'') := HI.out k hlk _ hB1
      have HBw : Hid (∀ w', Below (wr.alloc (.cells #[.string a[k].n, .int .i64 a[k].k, .bool a[k].m] 93)).heap.size (wr.alloc (.cells #[.string a[k].n, .int .i64 a[k].k, .bool a[k].m] 93)) w' → Below w.heap.size w w') := fun w' h => hB1.trans (h.mono hB1.size)
      have HO2 : Hid (isInL a[k] l = true → ∀ (j : Nat) (h : j < a.length), j < k + 1 → isInL a[j] l = true) := fun hs j h hj => by
        by_cases e : j = k
        · subst e; exact hs
        · exact HO.out j h (by omega)
      have HNo : Hid (isInL a[k] l = false → withinL a l = false) := fun hs => within_no hlk hs
      generalize isInL a[k] l = q at *
      generalize a[k]'hlk = y at *
      obtain ⟨n', kk', m'⟩ := y
      clear hc HO hAl hB1 hB
      cases q with
      | false =>
        go_wp2_with fail
        refine HIk.out.mono ?_
        rintro e w1 ⟨rfl, hb⟩
        have HBB : Hid (Below w.heap.size w w1) := HBw.out w1 hb
        clear hb
        go_wp2
        go_ret
        exact ⟨by rw [HNo.out (by trivial)]; rfl, HBB.out⟩
      | true =>
        go_wp2_with fail
        refine HIk.out.mono ?_
        rintro e w1 ⟨rfl, hb⟩
        have HBB : Hid (Below w.heap.size w w1) := HBw.out w1 hb
        clear hb
        go_wp2
        go_roundw
        case rel => exact ⟨rfl, k + 1, by omega, by simp, HO2.out (by trivial), HBB.out⟩
        case measure => simp [intOf]; omega
    · have hk' : k = a.length := by omega
      subst hk'
      have dk : decide ((a.length : Int) < a.length) = false := by simp
      have HY : Hid (withinL a l = true) := within_yes (fun j hj => HO.out j hj hj)
      clear HO
      have HBB : Hid (Below w.heap.size w wr) := hB
      clear hB
      go_wp2
      go_ret
      exact ⟨by rw [HY.out]; rfl, HBB.out⟩
end Go.Proofs.YticlejkeaagfjaaGreatDoor
