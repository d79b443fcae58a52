/- Deeds that came in. -/
import Derived.Test.YtiejehaaglpkoaaLoE0
import Derived.Test.YtiejehaaglpkoaaLnQ
import Derived.Test.YtiejehaaglpkoaaSG
namespace Go.Proofs.Ytiejehaaglpkoaa
open Go.ChangeShapes Go.WideShapes Go.ChangeAt Go.WideMaps Go.WideElems Go.RowKit Go.Deep Go.Lib

theorem list4 {α : Type} {l : List α} (h : l.length = 4) : ∃ c0 c1 c2 c3, l = [c0, c1, c2, c3] := by
  match l, h with
  | [c0, c1, c2, c3], _ => exact ⟨c0, c1, c2, c3, rfl⟩
theorem cellsD : Try.prog.cellsOf 69 = 4 := by kernel_rfl
set_option maxRecDepth 100000 in
theorem open_ddc {H : Type} {enc : TypeId × Value → H} {W : World} {b0 : Nat} {sp : Nat → Bool} {held : Bool} {fuel : Nat} {cs : List Value} {x : DataW H × List MemPlace} (h : DataW.trod enc Try.prog W b0 sp held fuel 69 cs = some x) :
    ∃ p : Dd, cs = enD p := by
  obtain ⟨xs, n, _, rfl, hl, hlen, hf⟩ := DataW.trod_struct Try.underlying69 h
  rw [cellsD] at hl
  obtain ⟨c0, c1, c2, c3, rfl⟩ := list4 hl
  obtain ⟨y0, y1, y2, y3, rfl⟩ := list4 (l := xs) hlen
  have i0 := hf 0 _ rfl
  have i1 := hf 1 _ rfl
  have i2 := hf 2 _ rfl
  have i3 := hf 3 _ rfl
  simp [cellsI, cellsS] at i0 i1 i2 i3
  obtain ⟨n0, e0, -, -⟩ := DataW.trod_int Try.underlying3 i0
  obtain ⟨n1, e1, -, -⟩ := DataW.trod_int Try.underlying3 i1
  obtain ⟨n2, e2, -, -⟩ := DataW.trod_int Try.underlying3 i2
  obtain ⟨s3, e3, -, -⟩ := DataW.trod_string Try.underlying9 i3
  simp at e0 e1 e2 e3
  subst e0 e1 e2 e3
  exact ⟨⟨n0, n1, n2, s3⟩, rfl⟩
theorem bytesD : 8 ≤ Try.prog.bytesOf 69 := by decide +kernel
theorem open_deeds {H : Type} {enc : TypeId × Value → H} {w : World} {fuel : Nat} {v : Value} {x : DataW H × List MemPlace} (h : DataW.trod enc Try.prog w 0 (fun _ => true) true fuel 59 [v] = some x) (hz : ∀ n ∈ x.1.weights Try.prog 59, n ≤ reachBytes) :
    ∃ l : List Dd, IsRow w 4 v l.length (dCells l) ∧ l.length ≤ 140737488355328 := by
  exact open_rows enD 4 _ Try.underlying59 cellsD rfl (fun _ => rfl) (by omega) bytesD (fun fuel cs y h => open_ddc h) h hz
end Go.Proofs.Ytiejehaaglpkoaa
