/- Slices that came in, as rows: of texts, of ints. -/
import Derived.Test.YtjgefiomcfpmeaaDoorS
namespace Go.Proofs.YtjgefiomcfpmeaaDoor
open Go.ChangeShapes Go.WideShapes Go.ChangeAt Go.WideMaps Go.WideElems Go.RowKit Go.Deep

theorem b_int : Tryd.prog.bytesOf 3 = 8 := by kernel_rfl
theorem b_str : Tryd.prog.bytesOf 9 = 16 := by kernel_rfl
/-- A slice of one-cell elements that came in: its cells. -/
theorem row_of_cells {w : World} {a : Addr} {len cap : Nat} {xs : List Value} (hx : xs.length = len) (hl : len ≤ cap) (hm : cap ≤ maxLen) (hc : ∀ i, i < len → w.cell? (a.add i) = xs[i]?) : IsRow w 1 (.slice (some a) len cap) len xs := by
  refine ⟨by omega, ?_⟩
  by_cases h0 : len = 0
  · subst h0
    exact .inl ⟨rfl, _, _, rfl⟩
  · right
    obtain ⟨b, off, spot⟩ := a
    obtain ⟨u0, hu0⟩ : ∃ u, xs[0]? = some u := ⟨xs[0]'(by omega), by simp⟩
    have hspot : spot = none := by
      have := (hc 0 (by omega)).trans hu0
      simpa [Addr.add] using World.cell?_spot this
    subst hspot
    have hcell : ∀ i, i < len → w.cell? ⟨b, off + i, none⟩ = xs[i]? := fun i hi => by rw [← add_lit]; exact hc i hi
    refine ⟨b, off, cap, rfl, block_lt_of_cell ((hcell 0 (by omega)).trans hu0), hl, hm, ?_⟩
    intro j u hu
    have hj : j < len := by have := (List.getElem?_eq_some_iff.1 hu).1; omega
    rw [hcell j hj]; exact hu

theorem open_ints' {H : Type} {enc : TypeId × Value → H} {w : World} {fuel : Nat} {v : Value} {x : DataW H × List MemPlace} (h : DataW.trod enc Tryd.prog w 0 (fun _ => true) true fuel 32 [v] = some x)
    (hz : ∀ n ∈ x.1.weights Tryd.prog 32, n ≤ reachBytes) :
    ∃ l : List Int, IsRow w 1 v l.length (l.map (Value.int .i64)) ∧ l.length ≤ 140737488355328 ∧ True := by
  rcases open_slice1 Tryd.underlying32 c_int h with ⟨hv, _⟩ | ⟨a, len, cap, m, n, V, D, Pl, hv, hb, hl, hm, hmm, rfl, hx⟩
  · simp at hv
    subst hv
    exact ⟨[], ⟨rfl, .inl ⟨rfl, _, _, rfl⟩⟩, by simp, trivial⟩
  simp at hv
  subst hv
  simp at hmm
  subst hmm
  have key : ∀ i, i < len → ∃ y : Int, V i = .int .i64 y := by
    intro i hi
    obtain ⟨y, e, _, _⟩ := DataW.trod_int Tryd.underlying3 (hx i (by omega)).2
    exact ⟨y, by simpa using e⟩
  obtain ⟨X, hX⟩ := choose_lt key
  have hlen : len * 8 ≤ reachBytes := by
    have := hz ((len + (m - len)) * 8) (by simp only [DataW.weights, Tryd.underlying32, b_int]; simp)
    omega
  have r := row_of_cells (w := w) (a := a) (xs := ((List.range len).map X).map (Value.int .i64)) (len := len) (cap := m) (by simp) hl hm (fun i hi => by rw [(hx i (by omega)).1, hX i hi]; simp [hi])
  refine ⟨(List.range len).map X, ?_, ?_, trivial⟩
  · simpa using r
  · simp; unfold reachBytes at hlen; omega

theorem open_strs' {H : Type} {enc : TypeId × Value → H} {w : World} {fuel : Nat} {v : Value} {x : DataW H × List MemPlace} (h : DataW.trod enc Tryd.prog w 0 (fun _ => true) true fuel 42 [v] = some x)
    (hz : ∀ n ∈ x.1.weights Tryd.prog 42, n ≤ reachBytes) :
    ∃ l : List ByteArray, IsRow w 1 v l.length (l.map Value.string) ∧ l.length ≤ 140737488355328 ∧ ∀ y ∈ l, y.size ≤ 140737488355328 := by
  rcases open_strs Tryd.underlying42 Tryd.underlying9 c_str h with ⟨hv, _⟩ | ⟨a, len, cap, m, X, hv, hb, hl, hm, hmm, rfl, hx⟩
  · simp at hv
    subst hv
    exact ⟨[], ⟨rfl, .inl ⟨rfl, _, _, rfl⟩⟩, by simp, by simp⟩
  simp at hv
  subst hv
  simp at hmm
  subst hmm
  have hlen : len * 16 ≤ reachBytes := by
    have := hz ((len + (m - len)) * 16) (by simp only [DataW.weights, Tryd.underlying42, b_str]; simp)
    omega
  have r := row_of_cells (w := w) (a := a) (xs := ((List.range len).map X).map Value.string) (len := len) (cap := m) (by simp) hl hm (fun i hi => by rw [(hx i (by omega)).1]; simp [hi])
  refine ⟨(List.range len).map X, ?_, ?_, ?_⟩
  · simpa using r
  · simp; unfold reachBytes at hlen; omega
  · intro y hy
    obtain ⟨i, hi, rfl⟩ := List.mem_map.1 hy
    have hi := List.mem_range.1 hi
    have := hz (X i).data.toList.length (by
      simp only [DataW.weights, Tryd.underlying42]
      refine List.mem_cons_of_mem _ (List.mem_append_left _ (weights_all (d := .lit (.string (X i).data.toList)) (List.mem_map.2 ⟨i, List.mem_range.2 hi, rfl⟩) _ ?_))
      simp [DataW.weights])
    have e : (X i).data.toList.length = (X i).size := by simp
    rw [e] at this
    unfold reachBytes at this
    omega
end Go.Proofs.YtjgefiomcfpmeaaDoor
