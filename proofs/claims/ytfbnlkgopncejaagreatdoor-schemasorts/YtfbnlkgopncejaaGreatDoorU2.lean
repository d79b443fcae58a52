/- Small laws of our own, over whatever program, more of them. -/
import Derived.Test.YtfbnlkgopncejaaGreatDoorU
namespace Go.Proofs.YtfbnlkgopncejaaGreatDoor
open Go.RowKit
theorem bcell {B : Nat} {W w1 : World} (hb : Below B W w1) : (∀ b o, b < B → w1.cell? ⟨b, o, none⟩ = W.cell? ⟨b, o, none⟩) ∧ (∀ b o, b < B → w1.frozen? ⟨b, o, none⟩ = W.frozen? ⟨b, o, none⟩) :=
  ⟨fun b o h => hb.cell (p := ⟨b, o, none⟩) h, fun b o h => hb.frozen (p := ⟨b, o, none⟩) h⟩

/-- A block that was laid before a call that keeps what was there: it holds what it held. -/
theorem part_cells {w w1 : World} {C : Array Value} {t : TypeId} (hb : Below (w.alloc (.cells C t)).drew.heap.size (w.alloc (.cells C t)).drew w1) :
    (∀ j, w1.cell? ⟨w.heap.size, j, none⟩ = C[j]?) ∧ (∀ j, w1.frozen? ⟨w.heap.size, j, none⟩ = false) ∧ Below w.heap.size w w1 ∧ w.heap.size < w1.heap.size := by
  have hs := hb.size
  simp at hs
  refine ⟨fun j => ?_, fun j => ?_, ?_, by omega⟩
  · rw [hb.cell (p := ⟨w.heap.size, j, none⟩) (by simp)]
    simp
  · rw [hb.frozen (p := ⟨w.heap.size, j, none⟩) (by simp)]
    simp
  · exact ((Below.refl _ _).alloc (Nat.le_refl _) _).drew.trans (hb.mono (by simp))

theorem part_cells0 {w w1 : World} {C : Array Value} {t : TypeId} (hb : Below (w.alloc (.cells C t)).heap.size (w.alloc (.cells C t)) w1) :
    (∀ j, w1.cell? ⟨w.heap.size, j, none⟩ = C[j]?) ∧ (∀ j, w1.frozen? ⟨w.heap.size, j, none⟩ = false) ∧ Below w.heap.size w w1 ∧ w.heap.size < w1.heap.size := by
  have hs := hb.size
  simp at hs
  refine ⟨fun j => ?_, fun j => ?_, ?_, by omega⟩
  · rw [hb.cell (p := ⟨w.heap.size, j, none⟩) (by simp)]
    simp
  · rw [hb.frozen (p := ⟨w.heap.size, j, none⟩) (by simp)]
    simp
  · exact ((Below.refl _ _).alloc (Nat.le_refl _) _).trans (hb.mono (by simp))

end Go.Proofs.YtfbnlkgopncejaaGreatDoor
