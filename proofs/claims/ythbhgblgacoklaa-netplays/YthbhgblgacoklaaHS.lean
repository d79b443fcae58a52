/- Acts of the net that came in. -/
import Derived.Test.YthbhgblgacoklaaHZe
import Derived.Test.YthbhgblgacoklaaHQ
import Derived.Test.YthbhgblgacoklaaSG
namespace Go.Proofs.Ythbhgblgacoklaa
open Go.ChangeShapes Go.WideShapes Go.ChangeAt Go.WideMaps Go.WideElems Go.RowKit Go.Deep Go.Lib

theorem cAct : Try.prog.cellsOf 35 = 12 := by kernel_rfl
theorem cBo : Try.prog.cellsOf 4 = 1 := by kernel_rfl
theorem listS5 {α : Type} {l : List α} (h : l.length = 5) : ∃ c0 c1 c2 c3 c4, l = [c0, c1, c2, c3, c4] := by
  match l, h with
  | [c0, c1, c2, c3, c4], _ => exact ⟨c0, c1, c2, c3, c4, rfl⟩
theorem listS12 {α : Type} {l : List α} (h : l.length = 12) : ∃ c0 c1 c2 c3 c4 c5 c6 c7 c8 c9 c10 c11, l = [c0, c1, c2, c3, c4, c5, c6, c7, c8, c9, c10, c11] := by
  match l, h with
  | [c0, c1, c2, c3, c4, c5, c6, c7, c8, c9, c10, c11], _ => exact ⟨c0, c1, c2, c3, c4, c5, c6, c7, c8, c9, c10, c11, rfl⟩
theorem open_ac {H : Type} {enc : TypeId × Value → H} {W : World} (fuel : Nat) (cs : List Value) (x : DataW H × List MemPlace) (h : DataW.trod enc Try.prog W 0 (fun _ => true) true fuel 35 cs = some x) : ∃ z : Ac, cs = enAc z := by
  obtain ⟨xs, n, _, rfl, hl, hlen, hf⟩ := DataW.trod_struct Try.underlying35 h
  rw [cAct] at hl
  obtain ⟨c0, c1, c2, c3, c4, c5, c6, c7, c8, c9, c10, c11, rfl⟩ := listS12 hl
  obtain ⟨y0, y1, y2, y3, y4, rfl⟩ := listS5 (l := xs) hlen
  have i0 := hf 0 _ rfl
  have i1 := hf 1 _ rfl
  have i2 := hf 2 _ rfl
  have i3 := hf 3 _ rfl
  have i4 := hf 4 _ rfl
  simp [cellsI, cellsP, cellsH, cBo] at i0 i1 i2 i3 i4
  obtain ⟨n0, e0, -, -⟩ := DataW.trod_int Try.underlying3 i0
  obtain ⟨P, e1, -⟩ := open_pkc i1
  obtain ⟨f, t, e2⟩ := open_hopc i2
  obtain ⟨n3, e3, -, -⟩ := DataW.trod_int Try.underlying3 i3
  obtain ⟨b4, e4, -⟩ := DataW.trod_bool Try.underlying4 i4
  simp [enP] at e0 e1 e2 e3 e4
  obtain ⟨rfl, rfl, rfl, rfl, rfl, rfl, rfl⟩ := e1
  obtain ⟨rfl, rfl⟩ := e2
  subst e0 e3 e4
  exact ⟨⟨n0, P, f, t, n3, b4⟩, rfl⟩
instance : Inhabited Ac := ⟨⟨0, zP, 0, 0, 0, false⟩⟩
theorem open_acts {H : Type} {enc : TypeId × Value → H} {w : World} {fuel : Nat} {v : Value} {x : DataW H × List MemPlace} (h : DataW.trod enc Try.prog w 0 (fun _ => true) true fuel 22 [v] = some x) (hz : ∀ n ∈ x.1.weights Try.prog 22, n ≤ reachBytes) :
    ∃ l : List Ac, IsRow w 12 v l.length (acCells l) ∧ l.length ≤ 140737488355328 :=
  open_rows enAc 12 104 Try.underlying22 cAct (by kernel_rfl) (fun _ => rfl) (by omega) (by omega) open_ac h hz
end Go.Proofs.Ythbhgblgacoklaa
