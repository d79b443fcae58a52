/- What the listed variables give to the laws of showing and writing. -/
import Derived.Test.YtdendpckihckeaaGreatDoorXW
import Derived.Test.YtdendpckihckeaaGreatDoorXU
namespace Go.Proofs.YtdendpckihckeaaGreatDoor
open Go.ChangeShapes Go.WideShapes Go.ChangeAt Go.WideMaps Go.WideElems Go.RowKit
theorem vf_of {W : World} (h : laidMetH Tryz.prog laidV W) (hsh : W.ShapedOpen Tryz.prog) : VF W := by
  have hv := ve_of h hsh
  have hp := p10_of h
  rw [MakeChecks.laidMetH_plain _ _ _ (by kernel_rfl)] at h
  have h2 := laidMet.tail h
  have h3 : Lib.TabIs Tryz.prog W "math/bits.deBruijn64tab" .u8 tab64 := Lib.tabIs_of_head g64 t64 Tryz.underlying162 Tryz.underlying5 (by kernel_rfl) (by kernel_rfl) h2
  exact ⟨hv, hp, ⟨h3.cell g64 0 (by decide), h3.cell g64 1 (by decide), h3.cell g64 3 (by decide), h3.cell g64 7 (by decide)⟩⟩
end Go.Proofs.YtdendpckihckeaaGreatDoor
