/- Steps that came in: the frame. -/
import Derived.Test.YtpepdcbhimjddaaDoorVwZ
import Derived.Test.YtpepdcbhimjddaaDoorVwR2
namespace Go.Proofs.YtpepdcbhimjddaaDoor
open Go.ChangeShapes Go.WideShapes Go.ChangeAt Go.WideMaps Go.WideElems Go.RowKit Go.Deep Go.Lib

theorem cellsSt : Tryd.prog.cellsOf 56 = 2 := by kernel_rfl
set_option maxRecDepth 100000 in
theorem open_stc {H : Type} {enc : TypeId × Value → H} {W : World} {b0 : Nat} {sp : Nat → Bool} {held : Bool} {fuel : Nat} {cs : List Value} {x : DataW H × List MemPlace} (h : DataW.trod enc Tryd.prog W b0 sp held fuel 56 cs = some x) :
    ∃ p : Sp, cs = enSp p := by
  obtain ⟨xs, n, _, rfl, hl, hlen, hf⟩ := DataW.trod_struct Tryd.underlying56 h
  rw [cellsSt] at hl
  obtain ⟨c0, c1, rfl⟩ := list2V hl
  obtain ⟨y0, y1, rfl⟩ := list2V (l := xs) hlen
  have i0 := hf 0 _ rfl
  have i1 := hf 1 _ rfl
  simp [cellsIv, cellsBv] at i0 i1
  obtain ⟨n0, e0, -, -⟩ := DataW.trod_int Tryd.underlying3 i0
  obtain ⟨n1, e1, -⟩ := DataW.trod_bool Tryd.underlying4 i1
  simp at e0 e1
  subst e0 e1
  exact ⟨⟨n0, n1⟩, rfl⟩
theorem bytesSt : 8 ≤ Tryd.prog.bytesOf 56 := by decide +kernel
theorem open_steps {H : Type} {enc : TypeId × Value → H} {w : World} {fuel : Nat} {v : Value} {x : DataW H × List MemPlace} (h : DataW.trod enc Tryd.prog w 0 (fun _ => true) true fuel 54 [v] = some x) (hz : ∀ n ∈ x.1.weights Tryd.prog 54, n ≤ reachBytes) :
    ∃ l : List Sp, IsRow w 2 v l.length (sCells l) ∧ l.length ≤ 140737488355328 := by
  exact open_rows enSp 2 _ Tryd.underlying54 cellsSt rfl (fun _ => rfl) (by omega) bytesSt (fun fuel cs y h => open_stc h) h hz
end Go.Proofs.YtpepdcbhimjddaaDoor
