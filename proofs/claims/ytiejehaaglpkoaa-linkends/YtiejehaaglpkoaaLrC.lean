/- Bools that came in. -/
import Derived.Test.YtiejehaaglpkoaaLnQ
namespace Go.Proofs.Ytiejehaaglpkoaa
open Go.ChangeShapes Go.WideShapes Go.ChangeAt Go.WideMaps Go.WideElems Go.RowKit Go.Deep Go.Lib

theorem c_boolL : Try.prog.cellsOf 4 = 1 := by kernel_rfl
theorem b_boolL : Try.prog.bytesOf 4 = 1 := by kernel_rfl
theorem add_litL (b off j : Nat) : (⟨b, off, none⟩ : Addr).add j = ⟨b, off + j, none⟩ := by unfold Addr.add; split <;> simp_all
theorem row_of_cellsL {w : World} {a : Addr} {len cap : Nat} {xs : List Value} (hx : xs.length = len) (hl : len ≤ cap) (hm : cap ≤ maxLen) (hc : ∀ i, i < len → w.cell? (a.add i) = xs[i]?) : IsRow w 1 (.slice (some a) len cap) len xs := by
  refine ⟨by omega, ?_⟩
  by_cases h0 : len = 0
  · subst h0
    exact .inl ⟨rfl, _, _, rfl⟩
  · right
    obtain ⟨b, off, spot⟩ := a
    obtain ⟨u0, hu0⟩ : ∃ u, xs[0]? = some u := ⟨xs[0]'(by omega), by simp⟩
    have hspot : spot = none := by
      have := (hc 0 (by omega)).trans hu0
      simpa [Addr.add] using World.cell?_spot this
    subst hspot
    have hcell : ∀ i, i < len → w.cell? ⟨b, off + i, none⟩ = xs[i]? := fun i hi => by rw [← add_litL]; exact hc i hi
    refine ⟨b, off, cap, rfl, block_lt_of_cell ((hcell 0 (by omega)).trans hu0), hl, hm, ?_⟩
    intro j u hu
    have hj : j < len := by have := (List.getElem?_eq_some_iff.1 hu).1; omega
    rw [hcell j hj]; exact hu
theorem open_bools {H : Type} {enc : TypeId × Value → H} {w : World} {fuel : Nat} {v : Value} {x : DataW H × List MemPlace} (h : DataW.trod enc Try.prog w 0 (fun _ => true) true fuel 74 [v] = some x)
    (hz : ∀ n ∈ x.1.weights Try.prog 74, n ≤ reachBytes) :
    ∃ l : List Bool, IsRow w 1 v l.length (l.map .bool) ∧ l.length ≤ 140737488355328 := by
  rcases open_slice1 Try.underlying74 c_boolL h with ⟨hv, _⟩ | ⟨a, len, cap, m, n, V, D, Pl, hv, hb, hl, hm, hmm, rfl, hx⟩
  · simp at hv
    subst hv
    exact ⟨[], ⟨rfl, .inl ⟨rfl, _, _, rfl⟩⟩, by simp⟩
  simp at hv
  subst hv
  simp at hmm
  subst hmm
  have key : ∀ i, i < len → ∃ y : Bool, V i = .bool y := by
    intro i hi
    obtain ⟨y, e, _⟩ := DataW.trod_bool Try.underlying4 (hx i (by omega)).2
    exact ⟨y, by simpa using e⟩
  obtain ⟨X, hX⟩ := choose_lt key
  have hlen : len * 1 ≤ reachBytes := by
    have := hz ((len + (m - len)) * 1) (by simp only [DataW.weights, Try.underlying74, b_boolL]; simp)
    omega
  have r := row_of_cellsL (w := w) (a := a) (xs := ((List.range len).map X).map Value.bool) (len := len) (cap := m) (by simp) hl hm (fun i hi => by rw [(hx i (by omega)).1, hX i hi]; simp [hi])
  refine ⟨(List.range len).map X, ?_, ?_⟩
  · simpa using r
  · simp; unfold reachBytes at hlen; omega
end Go.Proofs.Ytiejehaaglpkoaa
