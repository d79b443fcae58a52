/- What the listed variables give to the scanners, and to what shows and writes. -/
import Derived.Test.YtdendpckihckeaaGreatDoorXL
import Derived.Test.YtdendpckihckeaaGreatDoorVQ
import Derived.Test.YtdendpckihckeaaGreatDoorWG
import Derived.Stop.LaidErr
namespace Go.Proofs.YtdendpckihckeaaGreatDoor
open Go.ChangeShapes Go.WideShapes Go.ChangeAt Go.WideMaps Go.WideElems Go.RowKit

theorem gES : Tryz.prog.globalNamed "strconv.ErrSyntax" = some 6 := by kernel_rfl
theorem tES : (Tryz.prog.globals[6]?).map (·.type) = some 91 := by kernel_rfl
theorem starES : ("*errors.errorString" : String) = "*" ++ "errors.errorString" := by decide +kernel
theorem rowES (u : TypeId) (h : Tryz.prog.typeName? 3 u = some "*errors.errorString") : u = 171 :=
  typeName_ptr_named (nm := "errors.errorString") (by rw [← starES]; kernel_rfl) (by kernel_rfl) (by decide) u (by rw [← starES]; exact h)
theorem es_of {W : World} (h : laidMetH Tryz.prog laidV W) : ES W := by
  rw [MakeChecks.laidMetH_plain _ _ _ (by kernel_rfl)] at h
  have h5 := laidMet.tail (laidMet.tail (laidMet.tail (laidMet.tail (laidMet.tail h))))
  obtain ⟨a, s, hv, -, -, -⟩ := laid_sentinel h5 gES tES Tryz.underlying91 rowES Tryz.underlying171 Tryz.underlying173 rfl rfl Tryz.underlying9 (by kernel_rfl) (by kernel_rfl)
  refine ⟨.iface 171 (.pointer (some a)), ?_, .inr ⟨_, _, rfl⟩⟩
  simpa using World.var?_cell gES hv 0
theorem ve_of {W : World} (h : laidMetH Tryz.prog laidV W) (hsh : W.ShapedOpen Tryz.prog) : VE W := by
  have hv := vt_of h hsh
  exact ⟨hv.u, hv.t, hv.m, es_of h⟩
theorem t10 : (Tryz.prog.globals[3]?).map (·.type) = some 151 := by kernel_rfl
theorem p10_of {W : World} (h : laidMetH Tryz.prog laidV W) : P10 W := by
  rw [MakeChecks.laidMetH_plain _ _ _ (by kernel_rfl)] at h
  exact Lib.tabIs_of_head g10 t10 Tryz.underlying151 Tryz.underlying128 (by kernel_rfl) (by kernel_rfl) (laidMet.tail (laidMet.tail h))
end Go.Proofs.YtdendpckihckeaaGreatDoor
