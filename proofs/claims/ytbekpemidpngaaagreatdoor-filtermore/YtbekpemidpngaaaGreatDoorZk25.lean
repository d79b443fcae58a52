/- FilterBoth: a row of predicates behind another, the mathematics, the law's walk. -/
import Derived.Test.YtbekpemidpngaaaGreatDoorZk23
import Derived.Test.YtbekpemidpngaaaGreatDoorZk24
import Derived.Lib.AppendZeros
import Derived.Maps.AppendAt
import Derived.Test.YtbekpemidpngaaaGreatDoorZk1
namespace Go.Proofs.YtbekpemidpngaaaGreatDoor
open Go.RowKit Go.ChangeMaps

theorem few8_nm {D : List Pd} (h : few8 D = true) : D.length ≤ 21 ∧ ∀ y ∈ D, NmP y := by
  unfold few8 at h
  rw [Bool.and_eq_true, decide_eq_true_eq, List.all_eq_true] at h
  refine ⟨h.1, fun y hy => ?_⟩
  have h1 := h.2 y hy
  unfold okP at h1
  rw [Bool.and_eq_true, Bool.and_eq_true, decide_eq_true_eq, decide_eq_true_eq, List.all_eq_true] at h1
  exact ⟨by omega, by omega, fun x hx => by have := of_decide_eq_true (h1.2.2 x hx); omega⟩
theorem fewA_nm {A : List At} (h : fewA A = true) : A.length ≤ 41 ∧ NmA A := by
  have h1 := of_decide_eq_true h
  refine ⟨?_, ?_⟩
  · by_cases hl : A.length ≤ 41
    · exact hl
    · have := (h1 41 (by omega)).1
      omega
  · intro x hx
    obtain ⟨i, hi, rfl⟩ := List.mem_iff_getElem.1 hx
    have := h1 i hi
    obtain ⟨q1, q2, q3⟩ := this
    exact ⟨by omega, by omega⟩
end Go.Proofs.YtbekpemidpngaaaGreatDoor
/- How bytes stand: plain. -/
namespace Go.Proofs.YtbekpemidpngaaaGreatDoor
open Go.RowKit

theorem cmp_zero : ∀ (a b : List UInt8), Lib.compareBytes a b = 0 → a = b
  | [], [] => fun _ => rfl
  | [], b :: l => by simp [Lib.compareBytes]
  | a :: k, [] => by simp [Lib.compareBytes]
  | a :: k, b :: l => by
    simp only [Lib.compareBytes]
    split
    · intro h; cases h
    split
    · intro h; cases h
    · rename_i h1 h2
      intro h
      have e : a = b := UInt8.le_antisymm (UInt8.not_lt.1 h2) (UInt8.not_lt.1 h1)
      rw [e, cmp_zero k l h]
theorem cmp_anti : ∀ (a b : List UInt8), Lib.compareBytes a b = - Lib.compareBytes b a
  | [], [] => rfl
  | [], b :: l => by simp [Lib.compareBytes]
  | a :: k, [] => by simp [Lib.compareBytes]
  | a :: k, b :: l => by
    simp only [Lib.compareBytes]
    by_cases h1 : a < b
    · have h2 : ¬ b < a := UInt8.lt_asymm h1
      simp [h1, h2]
    · by_cases h2 : b < a
      · simp [h1, h2]
      · simp [h1, h2, cmp_anti k l]
theorem cmp_vals : ∀ (a b : List UInt8), Lib.compareBytes a b = -1 ∨ Lib.compareBytes a b = 0 ∨ Lib.compareBytes a b = 1
  | [], [] => by simp [Lib.compareBytes]
  | [], b :: l => by simp [Lib.compareBytes]
  | a :: k, [] => by simp [Lib.compareBytes]
  | a :: k, b :: l => by
    simp only [Lib.compareBytes]
    split
    · simp
    split
    · simp
    · exact cmp_vals k l
theorem cmp_trans : ∀ (a b c : List UInt8), Lib.compareBytes a b = -1 → Lib.compareBytes b c = -1 → Lib.compareBytes a c = -1
  | [], [], c => by simp [Lib.compareBytes]
  | [], b :: l, [] => by simp [Lib.compareBytes]
  | [], b :: l, c :: m => by simp [Lib.compareBytes]
  | a :: k, [], c => by simp [Lib.compareBytes]
  | a :: k, b :: l, [] => by simp [Lib.compareBytes]
  | a :: k, b :: l, c :: m => by
    have ih := cmp_trans k l m
    simp only [Lib.compareBytes]
    by_cases h1 : a < b
    · by_cases h3 : b < c
      · have h5 : a < c := UInt8.lt_trans h1 h3
        simp [h5]
      · by_cases h4 : c < b
        · simp [h3, h4]
        · have e : b = c := UInt8.le_antisymm (UInt8.not_lt.1 h4) (UInt8.not_lt.1 h3)
          subst e
          simp [h1]
    · by_cases h2 : b < a
      · simp [h1, h2]
      · have e : a = b := UInt8.le_antisymm (UInt8.not_lt.1 h2) (UInt8.not_lt.1 h1)
        subst e
        by_cases h3 : a < c
        · simp [h3]
        · by_cases h4 : c < a
          · simp [h3, h4]
          · simp only [h1, h3, h4, if_false]
            exact ih

end Go.Proofs.YtbekpemidpngaaaGreatDoor
/- FilterMore: plain mathematics. -/
namespace Go.Proofs.YtbekpemidpngaaaGreatDoor
open Go.RowKit

def ltA (x y : At) : Prop := cmpL x.n.data.toList y.n.data.toList < 0
theorem cmpA_neg {a b : List UInt8} : cmpL a b < 0 ↔ cmpL a b = -1 := by
  have := cmp_vals (foldL a) (foldL b)
  unfold cmpL
  omega
theorem ltA_tr {x y z : At} (h1 : ltA x y) (h2 : ltA y z) : ltA x z := by
  unfold ltA at *
  rw [cmpA_neg] at *
  exact cmp_trans _ _ _ h1 h2
theorem chkA_iff {l : List At} : chkA l = true ↔ l.length ≤ 24 ∧ (∀ x ∈ l, mayA x = true) ∧ l.Pairwise ltA := by
  unfold chkA
  rw [Bool.and_eq_true, decide_eq_true_eq, decide_eq_true_eq]
  constructor
  · rintro ⟨h1, h2⟩
    refine ⟨h1, fun x hx => ?_, ?_⟩
    · obtain ⟨i, hi, rfl⟩ := List.mem_iff_getElem.1 hx
      exact (h2 i hi).1
    · rw [List.pairwise_iff_getElem]
      have key : ∀ (d i : Nat) (h : i + d + 1 < l.length), ltA (l[i]'(by omega)) l[i + d + 1] := by
        intro d
        induction d with
        | zero => intro i h; exact (h2 (i + 1) h).2 i rfl
        | succ d ih =>
          intro i h
          exact ltA_tr (ih i (by omega)) ((h2 (i + d + 1 + 1) h).2 (i + d + 1) rfl)
      intro i j hi hj hij
      have := key (j - i - 1) i (by omega)
      have e : i + (j - i - 1) + 1 = j := by omega
      simp only [e] at this
      exact this
  · rintro ⟨h1, h2, h3⟩
    refine ⟨h1, fun k h => ⟨h2 _ (List.getElem_mem h), fun j e => ?_⟩⟩
    subst e
    rw [List.pairwise_iff_getElem] at h3
    exact h3 j (j + 1) (by omega) h (by omega)
theorem sameA_sym {a b : List UInt8} (h : sameL a b = true) : sameL b a = true := by
  unfold sameL at *
  rw [decide_eq_true_eq] at *
  exact h.symm
theorem sameA_tr {a b c : List UInt8} (h1 : sameL a b = true) (h2 : sameL b c = true) : sameL a c = true := by
  unfold sameL at *
  rw [decide_eq_true_eq] at *
  exact h1.trans h2
theorem ltA_of {x y : At} (h1 : ¬ ltA y x) (h2 : sameL y.n.data.toList x.n.data.toList = false) : ltA x y := by
  unfold ltA at *
  have h3 := cmp_anti (foldL x.n.data.toList) (foldL y.n.data.toList)
  have h4 : ¬ cmpL y.n.data.toList x.n.data.toList = 0 := fun e => by
    have := cmp_zero _ _ e
    unfold sameL at h2
    rw [decide_eq_false_iff_not] at h2
    exact h2 this
  unfold cmpL at *
  omega
theorem pairA {a x : At} (ha : mayA a = true) (hx : mayA x = true) : chkA [a, x] = true ↔ ltA a x := by
  rw [chkA_iff]
  constructor
  · rintro ⟨-, -, h⟩
    simpa using h
  · intro h
    refine ⟨by simp, fun y hy => ?_, by simpa using h⟩
    simp only [List.mem_cons, List.not_mem_nil, or_false] at hy
    rcases hy with rfl | rfl
    · exact ha
    · exact hx
theorem more_ok {A : List At} {x : At} {i : Nat} (hA : chkA A = true) (hx : chkA [x] = true) (hl : A.length < 24) (hn : getA A x.n = none) (h1 : ∀ k (h : k < A.length), k < i → chkA [A[k], x] = true) (h2 : ∀ h : i < A.length, chkA [A[i], x] = false) : chkA (A.take i ++ x :: A.drop i) = true := by
  obtain ⟨-, a2, a3⟩ := chkA_iff.1 hA
  obtain ⟨-, b2, -⟩ := chkA_iff.1 hx
  have bx : mayA x = true := b2 x (by simp)
  have e0 : A.take i ++ A.drop i = A := List.take_append_drop i A
  have a3' := a3
  rw [← e0, List.pairwise_append] at a3'
  obtain ⟨c1, c2, c3⟩ := a3'
  have d1 : ∀ y ∈ A.take i, ltA y x := fun y hy => by
    obtain ⟨k, hk, rfl⟩ := List.mem_iff_getElem.1 hy
    rw [List.length_take] at hk
    rw [List.getElem_take]
    exact (pairA (a2 _ (List.getElem_mem (by omega))) bx).1 (h1 k (by omega) (by omega))
  have d2 : ∀ y ∈ A.drop i, ltA x y := fun y hy => by
    by_cases hi : i < A.length
    · have hq : ltA x A[i] := by
        refine ltA_of (fun h => ?_) ?_
        · have := (pairA (a2 _ (List.getElem_mem hi)) bx).2 h
          rw [h2 hi] at this
          cases this
        · unfold getA at hn
          rw [List.find?_eq_none] at hn
          have := hn A[i] (List.getElem_mem hi)
          simpa using this
      rw [List.drop_eq_getElem_cons hi] at hy c2
      rcases List.mem_cons.1 hy with rfl | hy
      · exact hq
      · exact ltA_tr hq ((List.pairwise_cons.1 c2).1 y hy)
    · rw [List.drop_eq_nil_of_le (by omega)] at hy
      cases hy
  refine chkA_iff.2 ⟨?_, fun y hy => ?_, ?_⟩
  · rw [List.length_append, List.length_cons, List.length_take, List.length_drop]
    omega
  · rcases List.mem_append.1 hy with h | h
    · exact a2 _ (List.mem_of_mem_take h)
    · rcases List.mem_cons.1 h with rfl | h
      · exact bx
      · exact a2 _ (List.mem_of_mem_drop h)
  · rw [List.pairwise_append, List.pairwise_cons]
    refine ⟨c1, ⟨d2, c2⟩, fun y hy z hz => ?_⟩
    rcases List.mem_cons.1 hz with rfl | hz
    · exact d1 y hy
    · exact c3 y hy z hz
theorem more_get {A : List At} {x : At} {s : ByteArray} (i : Nat) (h : sameL x.n.data.toList s.data.toList = false) : getA (A.take i ++ x :: A.drop i) s = getA A s := by
  have e0 : A.take i ++ A.drop i = A := List.take_append_drop i A
  conv => rhs; rw [← e0]
  unfold getA
  rw [List.find?_append, List.find?_append, List.find?_cons, h]
theorem get_not {A : List At} {x a : At} {s : ByteArray} (hn : getA A x.n = none) (h : getA A s = some a) : sameL x.n.data.toList s.data.toList = false := by
  cases hs : sameL x.n.data.toList s.data.toList
  · rfl
  · exfalso
    unfold getA at h hn
    have h1 := List.mem_of_find?_eq_some h
    have h2 := List.find?_some h
    rw [List.find?_eq_none] at hn
    exact hn a h1 (sameA_tr h2 (sameA_sym hs))
theorem holds_eq {y : Pd} {A B : List At} (h : getA B y.n = getA A y.n) : holdsB y B = holdsB y A := by
  unfold holdsB
  rw [h]
theorem holds_some {y : Pd} {A : List At} (h : holdsB y A = true) : ∃ a, getA A y.n = some a := by
  cases hg : getA A y.n with
  | some a => exact ⟨a, rfl⟩
  | none =>
    unfold holdsB at h
    rw [hg] at h
    cases h
theorem more_lets {D : List Pd} {A : List At} {x : At} {i : Nat} (hB : chkA (A.take i ++ x :: A.drop i) = true) (hn : getA A x.n = none) (h : letsB D A = true) : letsB D (A.take i ++ x :: A.drop i) = true := by
  unfold letsB at *
  rw [Bool.and_eq_true, Bool.and_eq_true, List.all_eq_true] at *
  refine ⟨h.1, hB, fun y hy => ?_⟩
  have h1 := h.2.2 y hy
  obtain ⟨a, ha⟩ := holds_some h1
  rw [holds_eq (more_get i (get_not hn ha))]
  exact h1
theorem more_same {D : List Pd} {A : List At} {x : At} {i : Nat} (hA : chkA A = true) (hB : chkA (A.take i ++ x :: A.drop i) = true) (h : ∀ y ∈ D, sameL x.n.data.toList y.n.data.toList = false) : letsB D (A.take i ++ x :: A.drop i) = letsB D A := by
  unfold letsB
  rw [hA, hB]
  congr 2
  rw [Bool.eq_iff_iff, List.all_eq_true, List.all_eq_true]
  constructor
  · intro q y hy
    rw [← holds_eq (more_get i (h y hy))]
    exact q y hy
  · intro q y hy
    rw [holds_eq (more_get i (h y hy))]
    exact q y hy
theorem get_one (x : At) (s : ByteArray) : (getA [x] s).isSome = sameL x.n.data.toList s.data.toList := by
  unfold getA
  rw [List.find?_cons]
  cases sameL x.n.data.toList s.data.toList <;> rfl
end Go.Proofs.YtbekpemidpngaaaGreatDoor
