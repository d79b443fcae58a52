/- Drafts that came in. -/
import Derived.Test.YticlejkeaagfjaaGreatDoorFF
import Derived.Test.YticlejkeaagfjaaGreatDoorFoZ
namespace Go.Proofs.YticlejkeaagfjaaGreatDoor
open Go.ChangeShapes Go.WideShapes Go.ChangeAt Go.WideMaps Go.WideElems Go.RowKit Go.Deep

theorem cDr : Tryz.prog.cellsOf 28 = 6 := by kernel_rfl
instance : Inhabited LD := ⟨⟨⟨#[]⟩, ⟨#[]⟩, [], none, 0, 0, 0, 0⟩⟩
theorem listS6 {α : Type} {l : List α} (h : l.length = 6) : ∃ c0 c1 c2 c3 c4 c5, l = [c0, c1, c2, c3, c4, c5] := by
  match l, h with
  | [c0, c1, c2, c3, c4, c5], _ => exact ⟨c0, c1, c2, c3, c4, c5, rfl⟩
theorem listS4 {α : Type} {l : List α} (h : l.length = 4) : ∃ c0 c1 c2 c3, l = [c0, c1, c2, c3] := by
  match l, h with
  | [c0, c1, c2, c3], _ => exact ⟨c0, c1, c2, c3, rfl⟩
set_option maxRecDepth 100000 in
theorem open_dr {H : Type} {enc : TypeId × Value → H} {W : World} (fuel : Nat) (cs : List Value) (x : DataW H × List MemPlace) (h : DataW.trod enc Tryz.prog W 0 (fun _ => true) true fuel 28 cs = some x) (hz : ∀ n ∈ x.1.weights Tryz.prog 28, n ≤ reachBytes) :
    ∃ z : LD, cs = enDr z ∧ (IsRow W 3 z.vo z.own.length (fCells z.own) ∧ z.own.length ≤ 140737488355328) := by
  obtain ⟨xs, n, _, rfl, hl, hlen, hf⟩ := DataW.trod_struct Tryz.underlying28 h
  rw [cDr] at hl
  obtain ⟨c0, c1, c2, c3, c4, c5, rfl⟩ := listS6 hl
  obtain ⟨y0, y1, y2, y3, rfl⟩ := listS4 (l := xs) hlen
  have i0 := hf 0 _ rfl
  have i1 := hf 1 _ rfl
  have i2 := hf 2 _ rfl
  have i3 := hf 3 _ rfl
  simp [cID, cS, cSlF] at i0 i1 i2 i3
  obtain ⟨s, e0, -, -⟩ := DataW.trod_string Tryz.underlying9 i0
  obtain ⟨p, e1, -, -⟩ := DataW.trod_string Tryz.underlying9 i1
  obtain ⟨a, b, c, e3⟩ := open_id _ _ _ i3
  simp at e0 e1 e3
  obtain ⟨rfl, rfl, rfl⟩ := e3
  subst e0 e1
  obtain ⟨l, hr, hb⟩ := open_fds i2 (fun m hm => hz m (by
    simp only [DataW.weights, Tryz.underlying28, List.map_cons, List.map_nil, DataW.weightsEach, List.mem_append]
    exact .inr (.inr (.inl hm))))
  obtain ⟨sa, sc, rfl⟩ := hr.form
  exact ⟨⟨s, p, l, sa, sc, a, b, c⟩, rfl, hr, hb⟩
theorem open_drafts {H : Type} {enc : TypeId × Value → H} {w : World} {fuel : Nat} {v : Value} {x : DataW H × List MemPlace} (h : DataW.trod enc Tryz.prog w 0 (fun _ => true) true fuel 22 [v] = some x) (hz : ∀ n ∈ x.1.weights Tryz.prog 22, n ≤ reachBytes) :
    ∃ D : List LD, IsDs w v D ∧ ∀ z ∈ D, z.own.length ≤ 140737488355328 := by
  obtain ⟨l, h1, -, h3⟩ := open_rowsP enDr 6 80 Tryz.underlying22 cDr (by kernel_rfl) (fun _ => rfl) (by omega) (by omega) (fun z => IsRow w 3 z.vo z.own.length (fCells z.own) ∧ z.own.length ≤ 140737488355328) open_dr h hz
  exact ⟨l, ⟨h1, fun z hz => (h3 z hz).1⟩, fun z hz => (h3 z hz).2⟩
end Go.Proofs.YticlejkeaagfjaaGreatDoor
