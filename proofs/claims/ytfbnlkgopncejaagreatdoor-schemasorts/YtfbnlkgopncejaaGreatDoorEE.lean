/- schema.isIn, schema.Within: walks. -/
import Derived.Test.YtfbnlkgopncejaaGreatDoorEG
namespace Go.Proofs.YtfbnlkgopncejaaGreatDoor
open Go.RowKit

/-- The same field, but for how its name is written. -/
def sameF (x y : Fd) : Bool := decide (x.k = y.k) && (decide (x.m = y.m) && sameL x.n.data.toList y.n.data.toList)
def isInL (x : Fd) (l : List Fd) : Bool := l.any (sameF x)
def withinL (a b : List Fd) : Bool := a.all fun x => isInL x b
theorem isIn_yes {x : Fd} {l : List Fd} {k : Nat} (h : k < l.length) (hk : sameF x l[k] = true) : isInL x l = true := List.any_eq_true.2 ⟨_, List.getElem_mem h, hk⟩
theorem isIn_no {x : Fd} {l : List Fd} (h : ∀ (k : Nat) (hk : k < l.length), sameF x l[k] = false) : isInL x l = false := by
  unfold isInL
  rw [List.any_eq_false]
  intro y hy
  obtain ⟨j, hj, rfl⟩ := List.getElem_of_mem hy
  rw [h j hj]
  exact Bool.false_ne_true
theorem within_no {a b : List Fd} {k : Nat} (h : k < a.length) (hk : isInL a[k] b = false) : withinL a b = false := by
  unfold withinL
  rw [List.all_eq_false]
  exact ⟨_, List.getElem_mem h, by rw [hk]; exact Bool.false_ne_true⟩
theorem within_yes {a b : List Fd} (h : ∀ (k : Nat) (hk : k < a.length), isInL a[k] b = true) : withinL a b = true := by
  unfold withinL
  rw [List.all_eq_true]
  intro y hy
  obtain ⟨j, hj, rfl⟩ := List.getElem_of_mem hy
  exact h j hj
end Go.Proofs.YtfbnlkgopncejaaGreatDoor
