/- Attributes that came in. -/
import Derived.Test.YtfbnlkgopncejaaDoorFA
namespace Go.Proofs.YtfbnlkgopncejaaDoor
open Go.ChangeShapes Go.WideShapes Go.ChangeAt Go.WideMaps Go.WideElems Go.RowKit Go.Deep

theorem cA : Tryd.prog.cellsOf 41 = 4 := by kernel_rfl
theorem cV : Tryd.prog.cellsOf 39 = 3 := by kernel_rfl
theorem listS2 {α : Type} {l : List α} (h : l.length = 2) : ∃ c0 c1, l = [c0, c1] := by
  match l, h with
  | [c0, c1], _ => exact ⟨c0, c1, rfl⟩
theorem listS4 {α : Type} {l : List α} (h : l.length = 4) : ∃ c0 c1 c2 c3, l = [c0, c1, c2, c3] := by
  match l, h with
  | [c0, c1, c2, c3], _ => exact ⟨c0, c1, c2, c3, rfl⟩
theorem open_vv {H : Type} {enc : TypeId × Value → H} {W : World} (fuel : Nat) (cs : List Value) (x : DataW H × List MemPlace) (h : DataW.trod enc Tryd.prog W 0 (fun _ => true) true fuel 39 cs = some x) : ∃ (k n : Int) (s : ByteArray), cs = [.int .i64 k, .int .i64 n, .string s] := by
  obtain ⟨xs, n, _, rfl, hl, hlen, hf⟩ := DataW.trod_struct Tryd.underlying39 h
  rw [cV] at hl
  obtain ⟨c0, c1, c2, rfl⟩ := listS3 hl
  obtain ⟨y0, y1, y2, rfl⟩ := listS3 (l := xs) hlen
  have i0 := hf 0 _ rfl
  have i1 := hf 1 _ rfl
  have i2 := hf 2 _ rfl
  simp [cI, cS] at i0 i1 i2
  obtain ⟨n0, e0, -, -⟩ := DataW.trod_int Tryd.underlying3 i0
  obtain ⟨n1, e1, -, -⟩ := DataW.trod_int Tryd.underlying3 i1
  obtain ⟨s, e2, -, -⟩ := DataW.trod_string Tryd.underlying9 i2
  simp at e0 e1 e2
  subst e0 e1 e2
  exact ⟨n0, n1, s, rfl⟩
theorem open_at {H : Type} {enc : TypeId × Value → H} {W : World} (fuel : Nat) (cs : List Value) (x : DataW H × List MemPlace) (h : DataW.trod enc Tryd.prog W 0 (fun _ => true) true fuel 41 cs = some x) : ∃ z : At, cs = enA z := by
  obtain ⟨xs, n, _, rfl, hl, hlen, hf⟩ := DataW.trod_struct Tryd.underlying41 h
  rw [cA] at hl
  obtain ⟨c0, c1, c2, c3, rfl⟩ := listS4 hl
  obtain ⟨y0, y1, rfl⟩ := listS2 (l := xs) hlen
  have i0 := hf 0 _ rfl
  have i1 := hf 1 _ rfl
  simp [cS, cV] at i0 i1
  obtain ⟨s0, e0, -, -⟩ := DataW.trod_string Tryd.underlying9 i0
  obtain ⟨k, n1, s, e1⟩ := open_vv _ _ _ i1
  simp at e0 e1
  obtain ⟨rfl, rfl, rfl⟩ := e1
  subst e0
  exact ⟨⟨s0, k, n1, s⟩, rfl⟩
theorem open_ats {H : Type} {enc : TypeId × Value → H} {w : World} {fuel : Nat} {v : Value} {x : DataW H × List MemPlace} (h : DataW.trod enc Tryd.prog w 0 (fun _ => true) true fuel 23 [v] = some x) (hz : ∀ n ∈ x.1.weights Tryd.prog 23, n ≤ reachBytes) :
    ∃ l : List At, IsRow w 4 v l.length (aCells l) ∧ l.length ≤ 140737488355328 :=
  open_rows enA 4 48 Tryd.underlying23 cA (by kernel_rfl) (fun _ => rfl) (by omega) (by omega) open_at h hz
end Go.Proofs.YtfbnlkgopncejaaDoor
