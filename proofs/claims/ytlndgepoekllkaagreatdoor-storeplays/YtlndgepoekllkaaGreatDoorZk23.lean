/- The reference's Begin where it does: its walk. -/
import Derived.Test.YtlndgepoekllkaaGreatDoorZk22
import Derived.Test.YtlndgepoekllkaaGreatDoorZk21
import Derived.Deep.RegionHeld3
namespace Go.Proofs.YtlndgepoekllkaaGreatDoor
open Go.RowKit Go.ChangeMaps

/-- A store, whether a type is sure, no error. -/
def SuRP (M : List KR) (b : Bool) (w : World) (e : Ending) (w' : World) : Prop := ∃ a c, e = .returned (.agg #[.slice a M.length c, .bool b, .int .i64 0]) ∧ IsRow w' 10 (.slice a M.length c) M.length (kCells M) ∧ NewA w.heap.size a ∧ Below w.heap.size w w'
/-- A pair of boxes in memory, as the held region reads them. -/
def Bx2 (p q : Nat) (v : Value) (x : KR) (w : World) : Prop := w.cell? ⟨p, 0, none⟩ = some v ∧ w.cell? ⟨q, 0, none⟩ = some (.string x.y.t.n) ∧ w.cell? ⟨q, 1, none⟩ = some (.string x.y.t.p) ∧ w.cell? ⟨q, 2, none⟩ = some x.y.vo ∧ w.cell? ⟨q, 3, none⟩ = some x.y.va ∧ w.cell? ⟨q, 4, none⟩ = some x.y.vc ∧ w.cell? ⟨q, 5, none⟩ = some (.int .i64 x.y.t.nd) ∧ w.cell? ⟨q, 6, none⟩ = some (.int .i64 x.y.t.lf) ∧ w.cell? ⟨q, 7, none⟩ = some (.int .i64 x.y.t.sq) ∧ w.cell? ⟨q, 8, none⟩ = some (.bool x.s) ∧ w.cell? ⟨q, 9, none⟩ = some x.vw
theorem Bx2.of {p q : Nat} {v : Value} {x : KR} {w : World} {ty ty' : TypeId} {z z' : Nat × Nat} (h1 : w.heap[p]? = some (.cells #[v] ty z)) (h2 : w.heap[q]? = some (.cells (krA x) ty' z')) : Bx2 p q v x w := by
  have c : ∀ j, w.cell? ⟨q, j, none⟩ = (krA x)[j]? := fun j => by rw [Lib.cell_of_heap h2]
  exact ⟨by rw [Lib.cell_of_heap h1]; rfl, c 0, c 1, c 2, c 3, c 4, c 5, c 6, c 7, c 8, c 9⟩
set_option maxRecDepth 100000 in
set_option maxHeartbeats 4000000 in
theorem begin17_new (v u : Value) (M : List KR) (n : ByteArray) (l : List Int) (w : World) (hr : IsRow w 10 v M.length (kCells M)) (hl : M.length ≤ 1000) (hN : ∀ k ∈ M, k.y.t.n.size ≤ 200000) (hn : n.size ≤ 200000) (hu : IsRow w 1 u l.length (iCells l)) (hul : l.length ≤ 140737488355328) (hP : nodesB l = true) (i : Nat) (hi : i < M.length) (hF : fndZ M n = (i : Int)) (au : Option Addr) (cu : Nat) (hau : u = .slice au l.length cu) :
    Calls Tryz.prog 21 #[.agg #[v], .string n, u] w fun e w' => SuRP (wthR M i ⟨M[i].y, decide (l.length = 0), l, au, cu⟩) (decide (l.length = 0)) w e w' := by
  obtain ⟨a0, c0, rfl⟩ := hr.form
  subst hau
  have HNo : Hid (∀ W, Below w.heap.size w W → Calls Tryz.prog 51 #[.slice au l.length cu] W fun e w' => e = .returned (.bool true) ∧ Below W.heap.size W w') := fun W hb => by
    have := refNodesG_any _ l W (hu.below hb) hul
    rw [hP] at this
    exact this
  have HFi : Hid (∀ W, Below w.heap.size w W → Calls Tryz.prog 32 #[.agg #[.slice a0 M.length c0], .string n] W fun e w' => e = .returned (.int .i64 (i : Int)) ∧ Below W.heap.size W w') := fun W hb => by
    have := find17_any _ M n W (hr.below hb) hl (fun k hk => by have := hN k hk; omega) (by omega)
    rw [hF] at this
    exact this
  have HR : Hid (IsRow w 10 (.slice a0 M.length c0) M.length (kCells M)) := hr
  obtain ⟨D, hD⟩ : ∃ D, D = decide (l.length = 0) := ⟨_, rfl⟩
  rw [← hD]
  have e1 : decide ((l.length : Int) = 0) = D := by rw [hD, Bool.eq_iff_iff, decide_eq_true_eq, decide_eq_true_eq]; omega
  have e2 : ((l.length : Int) == 0) = D := by rw [← e1]; rfl
  have HWi : Hid (∀ W, Below w.heap.size w W → Calls Tryz.prog 46 #[.agg #[.slice a0 M.length c0], .int .i64 (i : Int), .agg (krA ⟨M[i].y, D, l, au, cu⟩)] W fun e w' => KsP (wthR M i ⟨M[i].y, D, l, au, cu⟩) W e w') := fun W hb => with17_any _ M i _ W (hr.below hb) hl hN (by exact hN M[i] (List.getElem_mem hi))
  obtain ⟨b, off, rfl, hlt, hcap, hc⟩ := kr_at hr (by omega)
  have hq := hc i hi
  have HQ : Hid (∀ W, Below w.heap.size w W → W.cell? ⟨b, off + i * 10, none⟩ = some (.string M[i].y.t.n) ∧ W.cell? ⟨b, off + i * 10 + 1, none⟩ = some (.string M[i].y.t.p) ∧ W.cell? ⟨b, off + i * 10 + 2, none⟩ = some (M[i].y.vo) ∧ W.cell? ⟨b, off + i * 10 + 3, none⟩ = some (M[i].y.va) ∧ W.cell? ⟨b, off + i * 10 + 4, none⟩ = some (M[i].y.vc) ∧ W.cell? ⟨b, off + i * 10 + 5, none⟩ = some (.int .i64 M[i].y.t.nd) ∧ W.cell? ⟨b, off + i * 10 + 6, none⟩ = some (.int .i64 M[i].y.t.lf) ∧ W.cell? ⟨b, off + i * 10 + 7, none⟩ = some (.int .i64 M[i].y.t.sq)) := fun W hb => by
    obtain ⟨q0, q1, q2, q3, q4, q5, q6, q7, -, -⟩ := hq
    exact ⟨(hb.cell (p := ⟨b, _, none⟩) hlt).trans q0, (hb.cell (p := ⟨b, _, none⟩) hlt).trans q1, (hb.cell (p := ⟨b, _, none⟩) hlt).trans q2, (hb.cell (p := ⟨b, _, none⟩) hlt).trans q3, (hb.cell (p := ⟨b, _, none⟩) hlt).trans q4, (hb.cell (p := ⟨b, _, none⟩) hlt).trans q5, (hb.cell (p := ⟨b, _, none⟩) hlt).trans q6, (hb.cell (p := ⟨b, _, none⟩) hlt).trans q7⟩
  generalize wthR M i ⟨M[i].y, D, l, au, cu⟩ = RES at *
  generalize M[i]'hi = y at *
  obtain ⟨⟨⟨yn, yp, yown, yall, ych, ynd, ylf, ysq⟩, bo, do', ba, da, bc, dc⟩, ys, yl, bw, dw⟩ := y
  dsimp only at *
  clear hr hN hn hu hul hP hF hD hc hq
  obtain ⟨w1, hw1⟩ : ∃ w1, w1 = w.alloc (.cells #[.slice (some ⟨b, off, none⟩) M.length c0] 27) := ⟨_, rfl⟩
  have B1 : Hid (Below w.heap.size w w1) := by show Below _ _ _; rw [hw1]; exact al_b _ _
  have hn1 : w1.heap[w.heap.size]? = some (.cells #[.slice (some ⟨b, off, none⟩) M.length c0] 27 (0, 0)) := by rw [hw1]; exact new_at _ _
  have C1 : Hid (∀ W, Below w1.heap.size w1 W → W.heap[w.heap.size]? = some (.cells #[.slice (some ⟨b, off, none⟩) M.length c0] 27 (0, 0))) := fun W h => (h.block _ (Array.getElem?_eq_some_iff.1 hn1).1).trans hn1
  clear hn1
  obtain ⟨w2, hw2⟩ : ∃ w2, w2 = w1.alloc (.cells #[.slice none 0 0, .bool false, .int .i64 0] 73) := ⟨_, rfl⟩
  have B2 : Hid (Below w1.heap.size w1 w2) := by show Below _ _ _; rw [hw2]; exact al_b _ _
  have hn2 : w2.heap[(w.heap.size + 1)]? = some (.cells #[.slice none 0 0, .bool false, .int .i64 0] 73 (0, 0)) := by rw [hw2]; rw [show w.heap.size + 1 = w1.heap.size by (rw [hw1]; simp)]; exact new_at _ _
  have C2 : Hid (∀ W, Below w2.heap.size w2 W → W.heap[(w.heap.size + 1)]? = some (.cells #[.slice none 0 0, .bool false, .int .i64 0] 73 (0, 0))) := fun W h => (h.block _ (Array.getElem?_eq_some_iff.1 hn2).1).trans hn2
  clear hn2
  have Hz : Hid (w2.heap.size = w.heap.size + 2) := by show _ = _; rw [hw2, hw1]; simp
  have HBw0 : Hid (Below w.heap.size w w2) := B1.out.trans (B2.out.mono B1.out.size)
  have HCp : Hid (∀ W, Below w2.heap.size w2 W → W.heap[w.heap.size]? = some (.cells #[.slice (some ⟨b, off, none⟩) M.length c0] 27 (0, 0))) := fun W hb => C1.out W (B2.out.trans (hb.mono B2.out.size))
  go_enter Tryz.func21, Tryz.ntmps21
  go_wp2_with fail
  rw [← hw1, ← hw2]
  clear hw1 hw2
  refine (HNo.out _ HBw0.out).mono ?_
  rintro e w5 ⟨rfl, hb⟩
  have B5 : Hid (Below w2.heap.size w2 w5) := hb
  clear hb
  have hp5 := HCp.out _ B5.out
  have cb : w5.cell? ⟨w.heap.size, 0, none⟩ = some (.slice (some ⟨b, off, none⟩) M.length c0) := by rw [Lib.cell_of_heap hp5]; rfl
  have H5 : Hid (Below w.heap.size w w5) := HBw0.out.trans (B5.out.mono HBw0.out.size)
  clear hp5
  go_wp2_with fail
  refine (HFi.out _ H5.out).mono ?_
  rintro e w6 ⟨rfl, hb⟩
  have B6 : Hid (Below w2.heap.size w2 w6) := B5.out.trans (hb.mono B5.out.size)
  have H6 : Hid (Below w.heap.size w w6) := H5.out.trans (hb.mono H5.out.size)
  clear hb cb
  have hp6 := HCp.out _ B6.out
  have cb : w6.cell? ⟨w.heap.size, 0, none⟩ = some (.slice (some ⟨b, off, none⟩) M.length c0) := by rw [Lib.cell_of_heap hp6]; rfl
  have dz : decide ((i : Int) < 0) = false := decide_eq_false (by omega)
  clear hp6
  obtain ⟨q0, q1, q2, q3, q4, q5, q6, q7⟩ := HQ.out _ H6.out
  have p1 : (0 : Int) ≤ (i : Int) := by omega
  have p2 : (i : Int) < (M.length : Int) := by omega
  obtain ⟨w7, hw7⟩ : ∃ w7, w7 = w6.alloc (.cells (krA (⟨⟨⟨yn, yp, yown, yall, ych, ynd, ylf, ysq⟩, bo, do', ba, da, bc, dc⟩, D, l, au, cu⟩ : KR)) 80) := ⟨_, rfl⟩
  have B7 : Hid (Below w2.heap.size w2 w7) := by show Below _ _ _; rw [hw7]; exact B6.out.trans ((al_b w6 _).mono B6.out.size)
  have hn7 : w7.heap[w6.heap.size]? = some (.cells (krA (⟨⟨⟨yn, yp, yown, yall, ych, ynd, ylf, ysq⟩, bo, do', ba, da, bc, dc⟩, D, l, au, cu⟩ : KR)) 80 (0, 0)) := by rw [hw7]; exact new_at _ _
  have H7 : Hid (Below w.heap.size w w7) := HBw0.out.trans (B7.out.mono HBw0.out.size)
  go_wp2_with fail
  rw [← hw7]
  have HBk : Hid (Below w2.heap.size w2 w7.drew) := B7.out.drew
  have HDk : Hid (Below w7.heap.size w7 w7.drew) := (Below.refl _ _).drew
  have HS : Hid (∀ W, Below w7.heap.size w7 W → Bx2 w.heap.size w6.heap.size (.slice (some ⟨b, off, none⟩) M.length c0) (⟨⟨⟨yn, yp, yown, yall, ych, ynd, ylf, ysq⟩, bo, do', ba, da, bc, dc⟩, D, l, au, cu⟩ : KR) W) := fun W hb => Bx2.of (HCp.out W (B7.out.trans (hb.mono B7.out.size))) ((hb.block _ (Array.getElem?_eq_some_iff.1 hn7).1).trans hn7)
  have Hlt7 : Hid (w.heap.size + 1 < w6.heap.size) := by
    have h1 := B6.out.size
    have h2 := Hz.out
    show _ < _
    omega
  have HS3 : Hid (∀ W, Bx2 w.heap.size w6.heap.size (.slice (some ⟨b, off, none⟩) M.length c0) (⟨⟨⟨yn, yp, yown, yall, ych, ynd, ylf, ysq⟩, bo, do', ba, da, bc, dc⟩, D, l, au, cu⟩ : KR) W → ∀ u0 u1 u2, Bx2 w.heap.size w6.heap.size (.slice (some ⟨b, off, none⟩) M.length c0) (⟨⟨⟨yn, yp, yown, yall, ych, ynd, ylf, ysq⟩, bo, do', ba, da, bc, dc⟩, D, l, au, cu⟩ : KR) (((W.setCell ⟨w.heap.size + 1, 0, none⟩ u0).setCell ⟨w.heap.size + 1, 1, none⟩ u1).setCell ⟨w.heap.size + 1, 2, none⟩ u2)) := fun W h u0 u1 u2 => by
    have hh := Hlt7.out
    have c : ∀ (g j : Nat), g ≠ w.heap.size + 1 → (((W.setCell ⟨w.heap.size + 1, 0, none⟩ u0).setCell ⟨w.heap.size + 1, 1, none⟩ u1).setCell ⟨w.heap.size + 1, 2, none⟩ u2).cell? ⟨g, j, none⟩ = W.cell? ⟨g, j, none⟩ := fun g j hg => by
      have h1 : (((W.setCell ⟨w.heap.size + 1, 0, none⟩ u0).setCell ⟨w.heap.size + 1, 1, none⟩ u1).setCell ⟨w.heap.size + 1, 2, none⟩ u2).heap[g]? = W.heap[g]? := (Below.heap_setCell _ _ _ _ hg).trans ((Below.heap_setCell _ _ _ _ hg).trans (Below.heap_setCell _ _ _ _ hg))
      unfold World.cell?
      rw [h1]
    obtain ⟨a, b0, b1, b2, b3, b4, b5, b6, b7, b8, b9⟩ := h
    exact ⟨(c _ 0 (by omega)).trans a, (c _ 0 (by omega)).trans b0, (c _ 1 (by omega)).trans b1, (c _ 2 (by omega)).trans b2, (c _ 3 (by omega)).trans b3, (c _ 4 (by omega)).trans b4, (c _ 5 (by omega)).trans b5, (c _ 6 (by omega)).trans b6, (c _ 7 (by omega)).trans b7, (c _ 8 (by omega)).trans b8, (c _ 9 (by omega)).trans b9⟩
  have HC2 : Hid (∀ W, Below w7.heap.size w7 W → W.heap[w.heap.size + 1]? = some (.cells #[.slice none 0 0, .bool false, .int .i64 0] 73 (0, 0))) := fun W hb => C2.out W (B7.out.trans (hb.mono B7.out.size))
  clear hw7 hn7 q0 q1 q2 q3 q4 q5 q6 q7 cb HNo HFi HQ B5 H5 e1 e2 C1 C2 HCp
  refine wp_region_held_drew (S := Bx2 w.heap.size w6.heap.size (.slice (some ⟨b, off, none⟩) M.length c0) (⟨⟨⟨yn, yp, yown, yall, ych, ynd, ylf, ysq⟩, bo, do', ba, da, bc, dc⟩, D, l, au, cu⟩ : KR)) (by kernel_rfl) (HS.out _ HDk.out) (fun hHeld => ?_)
  refine wpAnyH_take (i := 0) (v := ?_) rfl (by kernel_rfl) (by kernel_rfl) (by kernel_rfl) (fun _ _ _ h => h) (Or.inl ⟨by rfl, ?_⟩) hHeld ?_
  rotate_left 1
  · intro w9 hSw; obtain ⟨s0, g0, g1, g2, g3, g4, g5, g6, g7, g8, g9⟩ := hSw; go_simp; try with_reducible rfl
  change wpAnyH _ _ _ _ _ _ _ (Act.put _ (some 32) _) _
  simp only [Act.put, List.setIfInBounds_toArray, List.set_cons_zero, List.set_cons_succ]
  refine wpAnyH_take (i := 1) (v := ?_) rfl (by kernel_rfl) (by kernel_rfl) (by kernel_rfl) (fun _ _ _ h => h) (Or.inl ⟨by rfl, ?_⟩) hHeld ?_
  rotate_left 1
  · intro w9 hSw; obtain ⟨s0, g0, g1, g2, g3, g4, g5, g6, g7, g8, g9⟩ := hSw; go_simp; try with_reducible rfl
  change wpAnyH _ _ _ _ _ _ _ (Act.put _ (some 33) _) _
  simp only [Act.put, List.setIfInBounds_toArray, List.set_cons_zero, List.set_cons_succ]
  refine wpAnyH_take (i := 2) (v := ?_) rfl (by kernel_rfl) (by kernel_rfl) (by kernel_rfl) (fun _ _ _ h => h) (Or.inl ⟨by rfl, ?_⟩) hHeld ?_
  rotate_left 1
  · intro w9 hSw; obtain ⟨s0, g0, g1, g2, g3, g4, g5, g6, g7, g8, g9⟩ := hSw; go_simp; try with_reducible rfl
  change wpAnyH _ _ _ _ _ _ _ (Act.put _ (some 34) _) _
  simp only [Act.put, List.setIfInBounds_toArray, List.set_cons_zero, List.set_cons_succ]
  refine wpAnyH_take (i := 4) (v := ?_) rfl (by kernel_rfl) (by kernel_rfl) (by kernel_rfl) (fun _ _ _ h => h) (Or.inl ⟨by rfl, ?_⟩) hHeld ?_
  rotate_left 1
  · intro w9 hSw; obtain ⟨s0, g0, g1, g2, g3, g4, g5, g6, g7, g8, g9⟩ := hSw; go_simp; try with_reducible rfl
  change wpAnyH _ _ _ _ _ _ _ (Act.put _ (some 36) _) _
  simp only [Act.put, List.setIfInBounds_toArray, List.set_cons_zero, List.set_cons_succ]
  refine wpAnyH_take (i := 5) (v := ?_) rfl (by kernel_rfl) (by kernel_rfl) (by kernel_rfl) (fun _ _ _ h => h) (Or.inl ⟨by rfl, ?_⟩) hHeld ?_
  rotate_left 1
  · intro w9 hSw; obtain ⟨s0, g0, g1, g2, g3, g4, g5, g6, g7, g8, g9⟩ := hSw; go_simp; try with_reducible rfl
  change wpAnyH _ _ _ _ _ _ _ (Act.put _ (some 37) _) _
  simp only [Act.put, List.setIfInBounds_toArray, List.set_cons_zero, List.set_cons_succ]
  refine wpAnyH_ready (rs := [3]) (by kernel_rfl) (by simp) ?_
  refine AllReadyH.cons rfl (fun K hK => ?_) AllReadyH.nil
  go_simp
  refine (HWi.out _ (H7.out.trans (HDk.out.mono H7.out.size))).mono ?_
  rintro e wf ⟨xa, ya, rfl, hrow, hnew, hbf⟩
  have HBf : Hid (Below w7.heap.size w7 wf) := HDk.out.trans (hbf.mono HDk.out.size)
  have HRw : Hid (IsRow wf 10 (.slice xa RES.length ya) RES.length (kCells RES) ∧ NewA w7.drew.heap.size xa) := ⟨hrow, hnew⟩
  clear hbf hrow hnew
  go_simp
  refine hK.out _ _ (HS.out _ HBf.out) (fun hHeld => ?_)
  clear hK K
  refine wpAnyH_take (i := 6) (v := ?_) rfl (by kernel_rfl) (by kernel_rfl) (by kernel_rfl) (fun _ _ _ h => h) (Or.inl ⟨by rfl, ?_⟩) hHeld ?_
  rotate_left 1
  · intro w9 hSw; obtain ⟨s0, g0, g1, g2, g3, g4, g5, g6, g7, g8, g9⟩ := hSw; go_simp; try with_reducible rfl
  change wpAnyH _ _ _ _ _ _ _ (Act.put _ (some 38) _) _
  simp only [Act.put, List.setIfInBounds_toArray, List.set_cons_zero, List.set_cons_succ]
  have hq := HC2.out _ HBf.out
  have c0_ : wf.cell? ⟨w.heap.size + 1, 0, none⟩ = some (.slice none 0 0) := by rw [Lib.cell_of_heap hq]; rfl
  have c1_ : wf.cell? ⟨w.heap.size + 1, 1, none⟩ = some (.bool false) := by rw [Lib.cell_of_heap hq]; rfl
  have c2_ : wf.cell? ⟨w.heap.size + 1, 2, none⟩ = some (.int .i64 0) := by rw [Lib.cell_of_heap hq]; rfl
  have fz : ∀ j, wf.frozen? ⟨w.heap.size + 1, j, none⟩ = false := fun j => Lib.frozen_of_heap hq j
  clear hq
  refine wpAnyH_ready (rs := [7]) (by kernel_rfl) (by simp) ?_
  refine AllReadyH.cons rfl (fun K hK => ?_) AllReadyH.nil
  go_simp
  refine hK.out _ _ (HS3.out _ (HS.out _ HBf.out) _ _ _) (fun hHeld => ?_)
  clear hK K
  refine wpAnyH_done (by kernel_rfl) ?_ _
  clear hHeld
  have HE : Hid (∀ u0 u1 u2, SuRP RES D w (.returned (.agg #[.slice xa RES.length ya, .bool D, .int .i64 0])) (((wf.setCell ⟨w.heap.size + 1, 0, none⟩ u0).setCell ⟨w.heap.size + 1, 1, none⟩ u1).setCell ⟨w.heap.size + 1, 2, none⟩ u2)) := fun u0 u1 u2 => by
    have hs1 := B7.out.size
    have hs2 := Hz.out
    have hs3 := HDk.out.size
    refine ⟨xa, ya, rfl, row_far (row_far (row_far HRw.out.1 HRw.out.2 (by omega) 0 _) HRw.out.2 (by omega) 1 _) HRw.out.2 (by omega) 2 _, HRw.out.2.le (by omega), below3 (H7.out.trans (HBf.out.mono H7.out.size)) (Nat.le_add_right _ 1) u0 u1 u2⟩
  clear HRw HS HS3 HBf HDk HBk HWi
  go_wp2_with fail
  try simp only [Exit.inBlock, Exit.then]
  refine bodyPost_ret (v := .agg #[.slice xa RES.length ya, .bool D, .int .i64 0]) ?_ rfl (HE.out _ _ _)
  rw [results_c1 rfl]; go_simp
  first | done | exact ⟨rfl, rfl, rfl⟩
end Go.Proofs.YtlndgepoekllkaaGreatDoor
