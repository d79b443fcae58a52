/- The reference's Nodes, Same, Has: walks. -/
import Derived.Test.YtciibeldmcakeaaDoorZa
namespace Go.Proofs.YtciibeldmcakeaaDoor
open Go.RowKit

set_option maxRecDepth 100000 in
theorem same_eq (v1 v2 : Value) (l : List Int) (w : World) (h1 : IsRow w 1 v1 l.length (iCells l)) (h2 : IsRow w 1 v2 l.length (iCells l)) (hl : l.length ≤ 1000000) :
    Calls Tryd.prog 16 #[v1, v2] w fun e w' => e = .returned (.bool true) ∧ Below w.heap.size w w' := by
  obtain ⟨a1, cap1, rfl⟩ := h1.form
  obtain ⟨a2, cap2, rfl⟩ := h2.form
  have H1 : Hid (IsRow w 1 (.slice a1 l.length cap1) l.length (iCells l)) := h1
  have H2 : Hid (IsRow w 1 (.slice a2 l.length cap2) l.length (iCells l)) := h2
  clear h1 h2
  go_enter Tryd.func16, Tryd.ntmps16
  go_wp2_with fail
  go_loopw [5] (fun i wr => ∃ k : Nat, k ≤ l.length ∧ i = .int .i64 (k : Int) ∧ Below w.heap.size w wr) (fun i _ => l.length - (intOf i).toNat)
  case atStart => exact ⟨0, Nat.zero_le _, rfl, Below.refl _ _⟩
  case round =>
    obtain ⟨k, hk, rfl, hB⟩ := hrel
    by_cases hlk : k < l.length
    · have dk : decide ((k : Int) < l.length) = true := by simp; omega
      obtain ⟨b1, off1, rfl, -, hlt1, hcap1, hc1⟩ := iCells_at (H1.out.below hB) (by omega)
      obtain ⟨b2, off2, rfl, -, hlt2, hcap2, hc2⟩ := iCells_at (H2.out.below hB) (by omega)
      have c1 := hc1 k hlk
      have c2 := hc2 k hlk
      generalize l[k]'hlk = x at *
      clear hc1 hc2
      go_wp2_with fail
      go_region
      go_wp2
      go_roundw
      case rel => exact ⟨k + 1, by omega, by simp, hB.drew⟩
      case measure => simp [intOf]; omega
    · have dk : decide ((k : Int) < l.length) = false := by simp; omega
      go_wp2
      go_ret
      exact ⟨rfl, hB⟩
end Go.Proofs.YtciibeldmcakeaaDoor
