/- The net's look: its walk. -/
import Derived.Test.YtiokcepaamlphabHC
namespace Go.Proofs.Ytiokcepaamlphab
open Go.RowKit

theorem drewN_b {B : Nat} {a w : World} (h : Below B a w) (n : Nat) : Below B a (w.drewN n) := ⟨h.os, h.tape, h.output, h.size, h.block⟩
theorem hop_nat {f t : Int} (h : hopB f t = true) : ∃ a b : Nat, f = a ∧ t = b ∧ 1 ≤ a ∧ a ≤ 15 ∧ 1 ≤ b ∧ b ≤ 15 ∧ a ≠ b := by
  simp [hopB, nodeB] at h
  obtain ⟨⟨h1, h2⟩, ⟨h3, h4⟩, h5⟩ := h
  exact ⟨f.toNat, t.toNat, by omega, by omega, by omega, by omega, by omega, by omega, by omega⟩
/-- The place of a hop's row. -/
def rix (f t : Int) : Nat := f.toNat * 16 + t.toNat
theorem rix_nat (a b : Nat) : rix (a : Int) (b : Int) = a * 16 + b := rfl
/-- What is wrong with a hop's i-th packet. -/
def lookI (R : Nat → List Pk) (f t i : Int) : Int := if hopB f t = true then (if i < 0 ∨ ((R (rix f t)).length : Int) ≤ i then 4 else 0) else 1
end Go.Proofs.Ytiokcepaamlphab
