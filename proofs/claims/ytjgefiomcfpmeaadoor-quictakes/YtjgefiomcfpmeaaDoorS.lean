/- Slices that came in, as rows: of items, of texts, of ints. -/
import Derived.Test.YtjgefiomcfpmeaaDoorU3
import Derived.Test.YtjgefiomcfpmeaaDoorP
import Derived.Deep.Slices
import Derived.Deep.Strs
import Derived.SizedLaws
namespace Go.Proofs.YtjgefiomcfpmeaaDoor
open Go.ChangeShapes Go.WideShapes Go.ChangeAt Go.WideMaps Go.WideElems Go.RowKit Go.Deep

theorem weights_all {H : Type} {P : Program} {e : TypeId} : ∀ {ds : List (DataW H)} {d : DataW H}, d ∈ ds → ∀ n ∈ d.weights P e, n ∈ DataW.weightsAll P e ds
  | d0 :: ds, d, hd, n, hn => by
    simp only [DataW.weightsAll, List.mem_append]
    rcases List.mem_cons.1 hd with rfl | hd
    · exact .inl hn
    · exact .inr (weights_all hd n hn)

theorem it_struct : Tryd.prog.cellsOf 53 = 3 := by kernel_rfl
theorem c_int : Tryd.prog.cellsOf 3 = 1 := by kernel_rfl
theorem c_str : Tryd.prog.cellsOf 9 = 1 := by kernel_rfl
theorem b_item : Tryd.prog.bytesOf 53 = 32 := by kernel_rfl

/-- One item, read: its three cells. -/
theorem open_item {H : Type} {enc : TypeId × Value → H} {w : World} {fuel : Nat} {cs : List Value} {x : DataW H × List MemPlace} (h : DataW.trod enc Tryd.prog w 0 (fun _ => true) true fuel 53 cs = some x) :
    ∃ y : It, cs = It.cells y ∧ x.1 = .agg [.lit (.int .i64 y.k), .lit (.int .i64 y.n), .lit (.string y.s.data.toList)] := by
  obtain ⟨y0, y1, y2, n, rfl, hl, h0, h1, h2⟩ := trod_struct3 Tryd.underlying53 h
  rw [it_struct] at hl
  match cs, hl with
  | [c0, c1, c2], _ =>
    rw [c_int] at h0 h1
    rw [c_str] at h2
    obtain ⟨a, e0, rfl, _⟩ := DataW.trod_int Tryd.underlying3 h0
    obtain ⟨b, e1, rfl, _⟩ := DataW.trod_int Tryd.underlying3 h1
    obtain ⟨s, e2, e3, _⟩ := DataW.trod_string Tryd.underlying9 h2
    simp at e0 e1 e2
    subst e0 e1 e2
    exact ⟨⟨a, b, s⟩, rfl, by rw [e3]⟩

theorem add_lit (b off j : Nat) : (⟨b, off, none⟩ : Addr).add j = ⟨b, off + j, none⟩ := by unfold Addr.add; split <;> simp_all

theorem open_items {H : Type} {enc : TypeId × Value → H} {w : World} {fuel : Nat} {v : Value} {x : DataW H × List MemPlace} (h : DataW.trod enc Tryd.prog w 0 (fun _ => true) true fuel 22 [v] = some x)
    (hz : ∀ n ∈ x.1.weights Tryd.prog 22, n ≤ reachBytes) :
    ∃ l : List It, IsRow w 3 v l.length (itCells l) ∧ l.length ≤ 140737488355328 ∧ ∀ y ∈ l, y.s.size ≤ 140737488355328 := by
  rcases open_slice Tryd.underlying22 h with ⟨hv, _⟩ | ⟨a, len, cap, m, n, D, Pl, hv, hb, hl, hm, hmm, rfl, hx⟩
  · simp at hv
    subst hv
    exact ⟨[], ⟨rfl, .inl ⟨rfl, _, _, rfl⟩⟩, by simp, by simp⟩
  simp at hv
  subst hv
  simp at hmm
  subst hmm
  have key : ∀ i, i < len → ∃ y : It, w.cells? 0 (a.add (i * 3)) 3 = some (It.cells y) ∧ D i = .agg [.lit (.int .i64 y.k), .lit (.int .i64 y.n), .lit (.string y.s.data.toList)] := by
    intro i hi
    obtain ⟨cs, hc, ht⟩ := hx i (by omega)
    rw [it_struct] at hc
    obtain ⟨y, rfl, hy⟩ := open_item ht
    exact ⟨y, hc, hy⟩
  haveI : Inhabited It := ⟨⟨0, 0, ⟨#[]⟩⟩⟩
  obtain ⟨X, hX⟩ := choose_lt key
  have hz' : ∀ k ∈ DataW.weightsAll Tryd.prog 53 ((List.range len).map D), k ≤ reachBytes := fun k hk => hz k (by simp only [DataW.weights, Tryd.underlying22]; exact List.mem_cons_of_mem _ (List.mem_append_left _ hk))
  have hlen : len * 32 ≤ reachBytes := by
    have := hz ((len + (m - len)) * 32) (by simp only [DataW.weights, Tryd.underlying22, b_item]; simp)
    omega
  refine ⟨(List.range len).map X, ⟨by rw [itCells_len], ?_⟩, ?_, ?_⟩
  · simp only [List.length_map, List.length_range]
    by_cases h0 : len = 0
    · subst h0
      exact .inl ⟨rfl, _, _, rfl⟩
    · right
      obtain ⟨b, off, spot⟩ := a
      have hspot : spot = none := by
        have := (World.cells?_some (hX 0 (by omega)).1).2.2 0 (by omega)
        simp only [It.cells, List.getElem?_cons_zero, Nat.zero_mul] at this
        simpa [Addr.add] using World.cell?_spot this
      subst hspot
      have hcell : ∀ i (hi : i < len) r, r < 3 → w.cell? ⟨b, off + (3 * i + r), none⟩ = (It.cells (X i))[r]? := by
        intro i hi r hr
        have := (World.cells?_some (hX i hi).1).2.2 r hr
        rw [add_lit, add_lit] at this
        rw [show off + (3 * i + r) = off + i * 3 + r by omega]
        exact this
      refine ⟨b, off, m, rfl, ?_, hl, hm, ?_⟩
      · have := hcell 0 (by omega) 0 (by omega)
        simp only [It.cells, List.getElem?_cons_zero] at this
        exact block_lt_of_cell this
      · intro j u hu
        have hj : j < len * 3 := by
          have := (List.getElem?_eq_some_iff.1 hu).1
          rw [itCells_len] at this
          simpa using this
        have hq : j / 3 < len := by omega
        have hat := itCells_at ((List.range len).map X) (j / 3) (by simpa using hq)
        simp only [List.getElem_map, List.getElem_range] at hat
        have hr : j % 3 = 0 ∨ j % 3 = 1 ∨ j % 3 = 2 := by omega
        rcases hr with hr | hr | hr
        · rw [show j = 3 * (j / 3) by omega, hat.1] at hu
          have := hcell (j / 3) hq 0 (by omega)
          rw [show off + (3 * (j / 3) + 0) = off + j by omega] at this
          rw [this]; exact hu
        · rw [show j = 3 * (j / 3) + 1 by omega, hat.2.1] at hu
          have := hcell (j / 3) hq 1 (by omega)
          rw [show off + (3 * (j / 3) + 1) = off + j by omega] at this
          rw [this]; exact hu
        · rw [show j = 3 * (j / 3) + 2 by omega, hat.2.2] at hu
          have := hcell (j / 3) hq 2 (by omega)
          rw [show off + (3 * (j / 3) + 2) = off + j by omega] at this
          rw [this]; exact hu
  · simp; unfold reachBytes at hlen; omega
  · intro y hy
    obtain ⟨i, hi, rfl⟩ := List.mem_map.1 hy
    have hi := List.mem_range.1 hi
    have := hz' (X i).s.data.toList.length (weights_all (d := D i) (List.mem_map.2 ⟨i, List.mem_range.2 hi, rfl⟩) _ (by
      rw [(hX i hi).2]
      simp only [DataW.weights, Tryd.underlying53]
      simp [DataW.weightsEach, DataW.weights]))
    have e : (X i).s.data.toList.length = (X i).s.size := by simp
    rw [e] at this
    unfold reachBytes at this
    omega
end Go.Proofs.YtjgefiomcfpmeaaDoor
