/- An act of the queue that came in. -/
import Derived.Test.YtnldibcfpbignaaDoorQnB
namespace Go.Proofs.YtnldibcfpbignaaDoor
open Go.ChangeShapes Go.WideShapes Go.ChangeAt Go.WideMaps Go.WideElems Go.RowKit Go.Deep Go.Lib

theorem cI : Tryd.prog.cellsOf 3 = 1 := by kernel_rfl
theorem cS : Tryd.prog.cellsOf 9 = 1 := by kernel_rfl
theorem cSl : Tryd.prog.cellsOf 34 = 1 := by kernel_rfl
theorem cA : Tryd.prog.cellsOf 87 = 4 := by kernel_rfl
theorem cV : Tryd.prog.cellsOf 85 = 3 := by kernel_rfl
theorem cID : Tryd.prog.cellsOf 33 = 3 := by kernel_rfl
theorem cEv : Tryd.prog.cellsOf 36 = 5 := by kernel_rfl
theorem cGv : Tryd.prog.cellsOf 38 = 7 := by kernel_rfl
theorem cAc : Tryd.prog.cellsOf 40 = 9 := by kernel_rfl
theorem listS2 {α : Type} {l : List α} (h : l.length = 2) : ∃ c0 c1, l = [c0, c1] := by
  match l, h with
  | [c0, c1], _ => exact ⟨c0, c1, rfl⟩
theorem listS3 {α : Type} {l : List α} (h : l.length = 3) : ∃ c0 c1 c2, l = [c0, c1, c2] := by
  match l, h with
  | [c0, c1, c2], _ => exact ⟨c0, c1, c2, rfl⟩
theorem listS4 {α : Type} {l : List α} (h : l.length = 4) : ∃ c0 c1 c2 c3, l = [c0, c1, c2, c3] := by
  match l, h with
  | [c0, c1, c2, c3], _ => exact ⟨c0, c1, c2, c3, rfl⟩
theorem listS5 {α : Type} {l : List α} (h : l.length = 5) : ∃ c0 c1 c2 c3 c4, l = [c0, c1, c2, c3, c4] := by
  match l, h with
  | [c0, c1, c2, c3, c4], _ => exact ⟨c0, c1, c2, c3, c4, rfl⟩
theorem listS7 {α : Type} {l : List α} (h : l.length = 7) : ∃ c0 c1 c2 c3 c4 c5 c6, l = [c0, c1, c2, c3, c4, c5, c6] := by
  match l, h with
  | [c0, c1, c2, c3, c4, c5, c6], _ => exact ⟨c0, c1, c2, c3, c4, c5, c6, rfl⟩
theorem listS9 {α : Type} {l : List α} (h : l.length = 9) : ∃ c0 c1 c2 c3 c4 c5 c6 c7 c8, l = [c0, c1, c2, c3, c4, c5, c6, c7, c8] := by
  match l, h with
  | [c0, c1, c2, c3, c4, c5, c6, c7, c8], _ => exact ⟨c0, c1, c2, c3, c4, c5, c6, c7, c8, rfl⟩
theorem open_vv {H : Type} {enc : TypeId × Value → H} {W : World} (fuel : Nat) (cs : List Value) (x : DataW H × List MemPlace) (h : DataW.trod enc Tryd.prog W 0 (fun _ => true) true fuel 85 cs = some x) : ∃ (k n : Int) (s : ByteArray), cs = [.int .i64 k, .int .i64 n, .string s] := by
  obtain ⟨xs, n, _, rfl, hl, hlen, hf⟩ := DataW.trod_struct Tryd.underlying85 h
  rw [cV] at hl
  obtain ⟨c0, c1, c2, rfl⟩ := listS3 hl
  obtain ⟨y0, y1, y2, rfl⟩ := listS3 (l := xs) hlen
  have i0 := hf 0 _ rfl
  have i1 := hf 1 _ rfl
  have i2 := hf 2 _ rfl
  simp [cI, cS] at i0 i1 i2
  obtain ⟨n0, e0, -, -⟩ := DataW.trod_int Tryd.underlying3 i0
  obtain ⟨n1, e1, -, -⟩ := DataW.trod_int Tryd.underlying3 i1
  obtain ⟨s, e2, -, -⟩ := DataW.trod_string Tryd.underlying9 i2
  simp at e0 e1 e2
  subst e0 e1 e2
  exact ⟨n0, n1, s, rfl⟩
theorem open_at {H : Type} {enc : TypeId × Value → H} {W : World} (fuel : Nat) (cs : List Value) (x : DataW H × List MemPlace) (h : DataW.trod enc Tryd.prog W 0 (fun _ => true) true fuel 87 cs = some x) : ∃ z : At, cs = enA z := by
  obtain ⟨xs, n, _, rfl, hl, hlen, hf⟩ := DataW.trod_struct Tryd.underlying87 h
  rw [cA] at hl
  obtain ⟨c0, c1, c2, c3, rfl⟩ := listS4 hl
  obtain ⟨y0, y1, rfl⟩ := listS2 (l := xs) hlen
  have i0 := hf 0 _ rfl
  have i1 := hf 1 _ rfl
  simp [cS, cV] at i0 i1
  obtain ⟨s0, e0, -, -⟩ := DataW.trod_string Tryd.underlying9 i0
  obtain ⟨k, n1, s, e1⟩ := open_vv _ _ _ i1
  simp at e0 e1
  obtain ⟨rfl, rfl, rfl⟩ := e1
  subst e0
  exact ⟨⟨s0, k, n1, s⟩, rfl⟩
instance : Inhabited At := ⟨⟨⟨#[]⟩, 0, 0, ⟨#[]⟩⟩⟩
theorem open_ats {H : Type} {enc : TypeId × Value → H} {w : World} {fuel : Nat} {v : Value} {x : DataW H × List MemPlace} (h : DataW.trod enc Tryd.prog w 0 (fun _ => true) true fuel 34 [v] = some x) (hz : ∀ n ∈ x.1.weights Tryd.prog 34, n ≤ reachBytes) :
    ∃ l : List At, IsRow w 4 v l.length (aCells l) ∧ l.length ≤ 140737488355328 :=
  open_rows enA 4 48 Tryd.underlying34 cA (by kernel_rfl) (fun _ => rfl) (by omega) (by omega) open_at h hz
theorem open_id {H : Type} {enc : TypeId × Value → H} {W : World} (fuel : Nat) (cs : List Value) (x : DataW H × List MemPlace) (h : DataW.trod enc Tryd.prog W 0 (fun _ => true) true fuel 33 cs = some x) : ∃ a b c : Int, cs = [.int .i64 a, .int .i64 b, .int .i64 c] := by
  obtain ⟨xs, n, _, rfl, hl, hlen, hf⟩ := DataW.trod_struct Tryd.underlying33 h
  rw [cID] at hl
  obtain ⟨c0, c1, c2, rfl⟩ := listS3 hl
  obtain ⟨y0, y1, y2, rfl⟩ := listS3 (l := xs) hlen
  have i0 := hf 0 _ rfl
  have i1 := hf 1 _ rfl
  have i2 := hf 2 _ rfl
  simp [cI] at i0 i1 i2
  obtain ⟨n0, e0, -, -⟩ := DataW.trod_int Tryd.underlying3 i0
  obtain ⟨n1, e1, -, -⟩ := DataW.trod_int Tryd.underlying3 i1
  obtain ⟨n2, e2, -, -⟩ := DataW.trod_int Tryd.underlying3 i2
  simp at e0 e1 e2
  subst e0 e1 e2
  exact ⟨n0, n1, n2, rfl⟩
set_option maxRecDepth 100000 in
theorem open_ev {H : Type} {enc : TypeId × Value → H} {W : World} (fuel : Nat) (cs : List Value) (x : DataW H × List MemPlace) (h : DataW.trod enc Tryd.prog W 0 (fun _ => true) true fuel 36 cs = some x) (hz : ∀ n ∈ x.1.weights Tryd.prog 36, n ≤ reachBytes) :
    ∃ (a b c : Int) (t : ByteArray) (s : Value) (l : List At), cs = [.int .i64 a, .int .i64 b, .int .i64 c, .string t, s] ∧ IsRow W 4 s l.length (aCells l) ∧ l.length ≤ 140737488355328 := by
  obtain ⟨xs, n, _, rfl, hl, hlen, hf⟩ := DataW.trod_struct Tryd.underlying36 h
  rw [cEv] at hl
  obtain ⟨c0, c1, c2, c3, c4, rfl⟩ := listS5 hl
  obtain ⟨y0, y1, y2, rfl⟩ := listS3 (l := xs) hlen
  have i0 := hf 0 _ rfl
  have i1 := hf 1 _ rfl
  have i2 := hf 2 _ rfl
  simp [cID, cS, cSl] at i0 i1 i2
  obtain ⟨a, b, c, e0⟩ := open_id _ _ _ i0
  obtain ⟨t, e1, -, -⟩ := DataW.trod_string Tryd.underlying9 i1
  simp at e0 e1
  obtain ⟨rfl, rfl, rfl⟩ := e0
  subst e1
  obtain ⟨l, hr, hb⟩ := open_ats i2 (fun m hm => hz m (by
    simp only [DataW.weights, Tryd.underlying36, List.map_cons, List.map_nil, DataW.weightsEach, List.mem_append]
    exact .inr (.inr (.inl hm))))
  exact ⟨a, b, c, t, c4, l, rfl, hr, hb⟩
set_option maxRecDepth 100000 in
theorem open_gv {H : Type} {enc : TypeId × Value → H} {W : World} (fuel : Nat) (cs : List Value) (x : DataW H × List MemPlace) (h : DataW.trod enc Tryd.prog W 0 (fun _ => true) true fuel 38 cs = some x) (hz : ∀ n ∈ x.1.weights Tryd.prog 38, n ≤ reachBytes) :
    ∃ (z : Gv) (l : List At), cs = enG z ∧ IsRow W 4 (.slice z.a z.k z.c) l.length (aCells l) ∧ l.length ≤ 140737488355328 := by
  obtain ⟨xs, n, _, rfl, hl, hlen, hf⟩ := DataW.trod_struct Tryd.underlying38 h
  rw [cGv] at hl
  obtain ⟨c0, c1, c2, c3, c4, c5, c6, rfl⟩ := listS7 hl
  obtain ⟨y0, y1, y2, rfl⟩ := listS3 (l := xs) hlen
  have i0 := hf 0 _ rfl
  have i1 := hf 1 _ rfl
  have i2 := hf 2 _ rfl
  simp [cI, cS, cEv] at i0 i1 i2
  obtain ⟨n0, e0, -, -⟩ := DataW.trod_int Tryd.underlying3 i0
  obtain ⟨t, e1, -, -⟩ := DataW.trod_string Tryd.underlying9 i1
  simp at e0 e1
  subst e0 e1
  obtain ⟨a, b, c, ty, s, l, e2, hr, hb⟩ := open_ev _ _ _ i2 (fun m hm => hz m (by
    simp only [DataW.weights, Tryd.underlying38, List.map_cons, List.map_nil, DataW.weightsEach, List.mem_append]
    exact .inr (.inr (.inl hm))))
  simp at e2
  obtain ⟨rfl, rfl, rfl, rfl, rfl⟩ := e2
  obtain ⟨sa, sc, rfl⟩ := hr.form
  exact ⟨⟨n0, t, a, b, c, ty, sa, l.length, sc⟩, l, rfl, hr, hb⟩
set_option maxRecDepth 100000 in
theorem open_act {H : Type} {enc : TypeId × Value → H} {W : World} {b1 : Nat} {v : Value} {d : DataW H} {p : List MemPlace} (hv : Value.okWide Tryd.prog W .any b1 40 v) (h : DataW.Trod enc Tryd.prog W 0 (fun _ => true) true 40 v d p) (hz : ∀ n ∈ d.weights Tryd.prog 40, n ≤ reachBytes) :
    ∃ (kd n : Int) (z : Gv) (l : List At), v = acV kd n z ∧ IsRow W 4 (.slice z.a z.k z.c) l.length (aCells l) ∧ l.length ≤ 140737488355328 := by
  obtain ⟨cs, rfl, hsz⟩ := okWide_struct Tryd.underlying40 hv
  obtain ⟨fuel, hf⟩ := h
  obtain ⟨xs, n, _, hd, hl, hlen, hf⟩ := DataW.trod_struct Tryd.underlying40 hf
  rw [cAc] at hl
  obtain ⟨c0, c1, c2, c3, c4, c5, c6, c7, c8, hcs⟩ := listS9 hl
  obtain ⟨y0, y1, y2, rfl⟩ := listS3 (l := xs) hlen
  rw [hcs] at hf
  have i0 := hf 0 _ rfl
  have i1 := hf 1 _ rfl
  have i2 := hf 2 _ rfl
  simp [cI, cGv] at i0 i1 i2
  obtain ⟨n0, e0, -, -⟩ := DataW.trod_int Tryd.underlying3 i0
  obtain ⟨n1, e1, -, -⟩ := DataW.trod_int Tryd.underlying3 i1
  simp at e0 e1
  subst e0 e1
  obtain ⟨hd1, -⟩ := Prod.mk.inj hd
  subst hd1
  obtain ⟨z, l, e2, hr, hb⟩ := open_gv _ _ _ i2 (fun m hm => hz m (by
    simp only [DataW.weights, Tryd.underlying40, List.map_cons, List.map_nil, DataW.weightsEach, List.mem_append]
    exact .inr (.inr (.inl hm))))
  refine ⟨n0, n1, z, l, ?_, hr, hb⟩
  simp [enG] at e2
  obtain ⟨rfl, rfl, rfl, rfl, rfl, rfl, rfl⟩ := e2
  have : cs = acA n0 n1 z := by
    have e : (Value.agg cs).cells.toList = cs.toList := rfl
    rw [e] at hcs
    cases cs
    simpa using hcs
  rw [this]
end Go.Proofs.YtnldibcfpbignaaDoor
