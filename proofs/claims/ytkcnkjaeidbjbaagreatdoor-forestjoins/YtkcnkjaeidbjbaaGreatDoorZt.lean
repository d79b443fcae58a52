/- Types that came in; three names that came in. -/
import Derived.Test.YtkcnkjaeidbjbaaGreatDoorZp
import Derived.Test.YtkcnkjaeidbjbaaGreatDoorZs
namespace Go.Proofs.YtkcnkjaeidbjbaaGreatDoor
open Go.ChangeShapes Go.WideShapes Go.ChangeAt Go.WideMaps Go.WideElems Go.RowKit Go.Deep

theorem cTy : Tryz.prog.cellsOf 30 = 8 := by kernel_rfl
theorem cSlS : Tryz.prog.cellsOf 28 = 1 := by kernel_rfl
theorem listT6 {α : Type} {l : List α} (h : l.length = 6) : ∃ c0 c1 c2 c3 c4 c5, l = [c0, c1, c2, c3, c4, c5] := by
  match l, h with
  | [c0, c1, c2, c3, c4, c5], _ => exact ⟨c0, c1, c2, c3, c4, c5, rfl⟩
theorem listS8 {α : Type} {l : List α} (h : l.length = 8) : ∃ c0 c1 c2 c3 c4 c5 c6 c7, l = [c0, c1, c2, c3, c4, c5, c6, c7] := by
  match l, h with
  | [c0, c1, c2, c3, c4, c5, c6, c7], _ => exact ⟨c0, c1, c2, c3, c4, c5, c6, c7, rfl⟩
theorem open_names {H : Type} {enc : TypeId × Value → H} {w : World} {fuel : Nat} {v : Value} {x : DataW H × List MemPlace} (h : DataW.trod enc Tryz.prog w 0 (fun _ => true) true fuel 28 [v] = some x) (hz : ∀ n ∈ x.1.weights Tryz.prog 28, n ≤ reachBytes) :
    ∃ l : List ByteArray, IsRow w 1 v l.length (sVals l) ∧ l.length ≤ 140737488355328 := by
  obtain ⟨l, h1, h2⟩ := open_rows (fun s => [Value.string s]) 1 16 Tryz.underlying28 cS (by kernel_rfl) (fun _ => rfl) (by omega) (by omega)
    (fun fuel cs y hy => by
      obtain ⟨s, e0, -, -⟩ := DataW.trod_string Tryz.underlying9 hy
      exact ⟨s, e0⟩) h hz
  have e : l.flatMap (fun s => [Value.string s]) = sVals l := by
    clear h1 h2
    induction l with
    | nil => rfl
    | cons a r ih => rw [List.flatMap_cons, ih]; rfl
  rw [e] at h1
  exact ⟨l, h1, h2⟩
set_option maxRecDepth 100000 in
theorem open_ty {H : Type} {enc : TypeId × Value → H} {W : World} (fuel : Nat) (cs : List Value) (x : DataW H × List MemPlace) (h : DataW.trod enc Tryz.prog W 0 (fun _ => true) true fuel 30 cs = some x) (hz : ∀ n ∈ x.1.weights Tryz.prog 30, n ≤ reachBytes) :
    ∃ z : LT, cs = enT z ∧ (IsTy W z.t z.vo z.va z.vc ∧ InT z.t) := by
  obtain ⟨xs, n, _, rfl, hl, hlen, hf⟩ := DataW.trod_struct Tryz.underlying30 h
  rw [cTy] at hl
  obtain ⟨c0, c1, c2, c3, c4, c5, c6, c7, rfl⟩ := listS8 hl
  obtain ⟨y0, y1, y2, y3, y4, y5, rfl⟩ := listT6 (l := xs) hlen
  have i0 := hf 0 _ rfl
  have i1 := hf 1 _ rfl
  have i2 := hf 2 _ rfl
  have i3 := hf 3 _ rfl
  have i4 := hf 4 _ rfl
  have i5 := hf 5 _ rfl
  simp [cID, cS, cSlF, cSlS] at i0 i1 i2 i3 i4 i5
  obtain ⟨s, e0, -, -⟩ := DataW.trod_string Tryz.underlying9 i0
  obtain ⟨p, e1, -, -⟩ := DataW.trod_string Tryz.underlying9 i1
  obtain ⟨a, b, c, e5⟩ := open_id _ _ _ i5
  simp at e0 e1 e5
  obtain ⟨rfl, rfl, rfl⟩ := e5
  subst e0 e1
  obtain ⟨lo, ho, bo⟩ := open_fds i2 (fun m hm => hz m (by
    simp only [DataW.weights, Tryz.underlying30, List.map_cons, List.map_nil, DataW.weightsEach, List.mem_append]
    exact .inr (.inr (.inl hm))))
  obtain ⟨la, ha, ba⟩ := open_fds i3 (fun m hm => hz m (by
    simp only [DataW.weights, Tryz.underlying30, List.map_cons, List.map_nil, DataW.weightsEach, List.mem_append]
    exact .inr (.inr (.inr (.inl hm)))))
  obtain ⟨lc, hc, bc⟩ := open_names i4 (fun m hm => hz m (by
    simp only [DataW.weights, Tryz.underlying30, List.map_cons, List.map_nil, DataW.weightsEach, List.mem_append]
    exact .inr (.inr (.inr (.inr (.inl hm))))))
  obtain ⟨so, no, rfl⟩ := ho.form
  obtain ⟨sa, na, rfl⟩ := ha.form
  obtain ⟨sc, nc, rfl⟩ := hc.form
  exact ⟨⟨⟨s, p, lo, la, lc, a, b, c⟩, so, no, sa, na, sc, nc⟩, rfl, ⟨ho, ha, hc⟩, bo, ba, bc⟩
instance : Inhabited LT := ⟨⟨⟨⟨#[]⟩, ⟨#[]⟩, [], [], [], 0, 0, 0⟩, none, 0, none, 0, none, 0⟩⟩
set_option maxRecDepth 100000 in
theorem open_tys {H : Type} {enc : TypeId × Value → H} {w : World} {fuel : Nat} {v : Value} {x : DataW H × List MemPlace} (h : DataW.trod enc Tryz.prog w 0 (fun _ => true) true fuel 22 [v] = some x) (hz : ∀ n ∈ x.1.weights Tryz.prog 22, n ≤ reachBytes) :
    ∃ L : List LT, IsTys w v L ∧ L.length ≤ 140737488355328 ∧ ∀ z ∈ L, InT z.t := by
  obtain ⟨l, h1, h2, h3⟩ := open_rowsP enT 8 128 Tryz.underlying22 cTy (by kernel_rfl) (fun _ => rfl) (by omega) (by omega) (fun z => IsTy w z.t z.vo z.va z.vc ∧ InT z.t) open_ty h hz
  exact ⟨l, ⟨h1, fun z hz => (h3 z hz).1⟩, h2, fun z hz => (h3 z hz).2⟩
end Go.Proofs.YtkcnkjaeidbjbaaGreatDoor
