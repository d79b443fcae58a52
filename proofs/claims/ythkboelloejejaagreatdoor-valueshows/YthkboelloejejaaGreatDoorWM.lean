/- What ValueShows' listed variables give. -/
import Derived.Test.YthkboelloejejaaGreatDoorWL
import Derived.Test.YthkboelloejejaaGreatDoorVQ
namespace Go.Proofs.YthkboelloejejaaGreatDoor
open Go.ChangeShapes Go.WideShapes Go.ChangeAt Go.WideMaps Go.WideElems Go.RowKit
theorem t10 : (Tryz.prog.globals[2]?).map (·.type) = some 135 := by kernel_rfl
theorem vt2_of {W : World} (h : laidMetH Tryz.prog laidV W) (hsh : W.ShapedOpen Tryz.prog) : VT2 W := by
  have hv := vt_of h hsh
  rw [MakeChecks.laidMetH_plain _ _ _ (by kernel_rfl)] at h
  have h2 := laidMet.tail h
  have h3 : Lib.TabIs Tryz.prog W "math/bits.deBruijn64tab" .u8 tab64 := Lib.tabIs_of_head g64 t64 Tryz.underlying142 Tryz.underlying5 (by kernel_rfl) (by kernel_rfl) h2
  have h4 := laidMet.tail h2
  have h5 : Lib.TabIs Tryz.prog W "internal/strconv.uint64pow10" .u64 Lib.pow10Tab := Lib.tabIs_of_head g10 t10 Tryz.underlying135 Tryz.underlying84 (by kernel_rfl) (by kernel_rfl) h4
  exact ⟨hv, h5, ⟨h3.cell g64 0 (by decide), h3.cell g64 1 (by decide), h3.cell g64 3 (by decide), h3.cell g64 7 (by decide)⟩⟩
end Go.Proofs.YthkboelloejejaaGreatDoor
