/- Views that came in: the frame. -/
import Derived.Test.YtciibeldmcakeaaDoorZa
import Derived.Test.YtciibeldmcakeaaDoorP
import Derived.Test.YtciibeldmcakeaaDoorSG
import Derived.SizedLaws
namespace Go.Proofs.YtciibeldmcakeaaDoor
open Go.ChangeShapes Go.WideShapes Go.ChangeAt Go.WideMaps Go.WideElems Go.RowKit Go.Deep Go.Lib

theorem ownV : ownKnob Tryd.prog.godebug = none := by kernel_rfl
theorem laidOutV : laidOutB Tryd.prog = true := by kernel_rfl
theorem list3V {α : Type} {l : List α} (h : l.length = 3) : ∃ c0 c1 c2, l = [c0, c1, c2] := by
  match l, h with
  | [c0, c1, c2], _ => exact ⟨c0, c1, c2, rfl⟩
theorem list2V {α : Type} {l : List α} (h : l.length = 2) : ∃ c0 c1, l = [c0, c1] := by
  match l, h with
  | [c0, c1], _ => exact ⟨c0, c1, rfl⟩
theorem cellsMb : Tryd.prog.cellsOf 51 = 3 := by kernel_rfl
theorem cellsVw : Tryd.prog.cellsOf 24 = 2 := by kernel_rfl
theorem cellsIv : Tryd.prog.cellsOf 3 = 1 := by kernel_rfl
theorem cellsBv : Tryd.prog.cellsOf 4 = 1 := by kernel_rfl
theorem cellsSv : Tryd.prog.cellsOf 22 = 1 := by kernel_rfl
set_option maxRecDepth 100000 in
theorem open_mbc {H : Type} {enc : TypeId × Value → H} {W : World} {b0 : Nat} {sp : Nat → Bool} {held : Bool} {fuel : Nat} {cs : List Value} {x : DataW H × List MemPlace} (h : DataW.trod enc Tryd.prog W b0 sp held fuel 51 cs = some x) :
    ∃ p : Mb, cs = enM p := by
  obtain ⟨xs, n, _, rfl, hl, hlen, hf⟩ := DataW.trod_struct Tryd.underlying51 h
  rw [cellsMb] at hl
  obtain ⟨c0, c1, c2, rfl⟩ := list3V hl
  obtain ⟨y0, y1, y2, rfl⟩ := list3V (l := xs) hlen
  have i0 := hf 0 _ rfl
  have i1 := hf 1 _ rfl
  have i2 := hf 2 _ rfl
  simp [cellsIv, cellsBv] at i0 i1 i2
  obtain ⟨n0, e0, -, -⟩ := DataW.trod_int Tryd.underlying3 i0
  obtain ⟨n1, e1, -, -⟩ := DataW.trod_int Tryd.underlying3 i1
  obtain ⟨n2, e2, -⟩ := DataW.trod_bool Tryd.underlying4 i2
  simp at e0 e1 e2
  subst e0 e1 e2
  exact ⟨⟨n0, n1, n2⟩, rfl⟩
theorem bytesMb : 8 ≤ Tryd.prog.bytesOf 51 := by decide +kernel
theorem open_mbs {H : Type} {enc : TypeId × Value → H} {w : World} {fuel : Nat} {v : Value} {x : DataW H × List MemPlace} (h : DataW.trod enc Tryd.prog w 0 (fun _ => true) true fuel 22 [v] = some x) (hz : ∀ n ∈ x.1.weights Tryd.prog 22, n ≤ reachBytes) :
    ∃ l : List Mb, IsRow w 3 v l.length (mCells l) ∧ l.length ≤ 140737488355328 := by
  exact open_rows enM 3 _ Tryd.underlying22 cellsMb rfl (fun _ => rfl) (by omega) bytesMb (fun fuel cs y h => open_mbc h) h hz
set_option maxRecDepth 100000 in
/-- A view that came in. -/
theorem open_view {H : Type} {enc : TypeId × Value → H} {W : World} {b1 : Nat} {v : Value} {d : DataW H} {p : List MemPlace} (hv : Value.okWide Tryd.prog W .any b1 24 v) (h : DataW.Trod enc Tryd.prog W 0 (fun _ => true) true 24 v d p) (hz : ∀ n ∈ d.weights Tryd.prog 24, n ≤ reachBytes) :
    ∃ (ep : Int) (s : Value) (l : List Mb), v = .agg #[.int .i64 ep, s] ∧ IsRow W 3 s l.length (mCells l) ∧ l.length ≤ 140737488355328 := by
  obtain ⟨cs, rfl, hsz⟩ := okWide_struct Tryd.underlying24 hv
  obtain ⟨fuel, hf⟩ := h
  obtain ⟨xs, n, _, hd, hl, hlen, hf⟩ := DataW.trod_struct Tryd.underlying24 hf
  rw [cellsVw] at hl
  obtain ⟨c0, c1, hcs⟩ := list2V hl
  obtain ⟨y0, y1, rfl⟩ := list2V (l := xs) hlen
  rw [hcs] at hf
  have i0 := hf 0 _ rfl
  have i1 := hf 1 _ rfl
  simp [cellsIv, cellsSv] at i0 i1
  obtain ⟨n0, e0, -, -⟩ := DataW.trod_int Tryd.underlying3 i0
  simp at e0
  subst e0
  obtain ⟨hd1, -⟩ := Prod.mk.inj hd
  subst hd1
  obtain ⟨l, hr, hb⟩ := open_mbs i1 (fun m hm => hz m (by
    simp only [DataW.weights, Tryd.underlying24, List.map_cons, List.map_nil, DataW.weightsEach, List.mem_append]
    exact .inr (.inl hm)))
  refine ⟨n0, c1, l, ?_, hr, hb⟩
  have : cs = #[.int .i64 n0, c1] := by
    have e : (Value.agg cs).cells.toList = cs.toList := rfl
    rw [e] at hcs
    cases cs
    simpa using hcs
  rw [this]
end Go.Proofs.YtciibeldmcakeaaDoor
