/- view.IsUp: its walk. -/
import Derived.Test.YtpepdcbhimjddaaDoorVwI
namespace Go.Proofs.YtpepdcbhimjddaaDoor
open Go.RowKit Go.Shelf
attribute [local go_sem] Oper.semAt_some

theorem mem_lv (ep : Int) (l : List Mb) (node : Int) : node ∈ lvL ep l ↔ ∃ y ∈ upM ep l, y.nd = node := by
  rw [← nds_up]
  simp [nds, List.mem_map]
set_option maxRecDepth 100000 in
set_option maxHeartbeats 2000000 in
theorem isUp_any (ep : Int) (v : Value) (l : List Mb) (node : Int) (w : World) (hr : IsRow w 3 v l.length (mCells l)) (hl : l.length ≤ 1000000) :
    Calls Tryd.prog 21 #[vwV ep v, .int .i64 node] w fun e w' => e = .returned (.bool (decide (node ∈ lvL ep l))) ∧ Below w.heap.size w w' := by
  obtain ⟨a0, cap0, rfl⟩ := hr.form
  refine (callsIn_wide (n := 3)).1 ?_
  refine callsIn_of_wp_marks Tryd.func21 rfl trivial ?_ rfl
  simp only [Tryd.ntmps21, List.size_toArray, List.length_cons, List.length_nil, Nat.reduceAdd, Nat.reduceSub, Array.replicate_succ, Array.replicate_zero, List.push_toArray, List.append_toArray, List.nil_append, List.cons_append]
  gi_wp2_with fail
  refine ⟨trivial, (callsIn_wide.2 (up_fn _ _ _)).mono ?_⟩
  rintro e w' ⟨rfl, rfl⟩
  have b1 : Below w.heap.size w (w.alloc (.cells #[.int .i64 ep, .slice a0 l.length cap0] 24)) := al_belowV w _
  have b2 := b1.alloc b1.size (.cells #[.int .i64 node] 3)
  have b3 := b2.alloc b2.size (.cells #[.bool false] 4)
  have hB0 := b3.alloc b3.size (.cells #[.int .i64 ep, .slice a0 l.length cap0] 24)
  have cN : Boxed ((w.alloc (.cells #[.int .i64 ep, .slice a0 l.length cap0] 24)).alloc (.cells #[.int .i64 node] 3)) (w.heap.size + 1) 3 (.int .i64 node) := by have := Boxed.new (w.alloc (.cells #[.int .i64 ep, .slice a0 l.length cap0] 24)) 3 (.int .i64 node); rw [World.size_alloc] at this; exact this
  have cR : Boxed (((w.alloc (.cells #[.int .i64 ep, .slice a0 l.length cap0] 24)).alloc (.cells #[.int .i64 node] 3)).alloc (.cells #[.bool false] 4)) (w.heap.size + 1 + 1) 4 (.bool false) := by have := Boxed.new ((w.alloc (.cells #[.int .i64 ep, .slice a0 l.length cap0] 24)).alloc (.cells #[.int .i64 node] 3)) 4 (.bool false); rw [World.size_alloc, World.size_alloc] at this; exact this
  have hBn : ((((w.alloc (.cells #[.int .i64 ep, .slice a0 l.length cap0] 24)).alloc (.cells #[.int .i64 node] 3)).alloc (.cells #[.bool false] 4)).alloc (.cells #[.int .i64 ep, .slice a0 l.length cap0] 24)).heap[w.heap.size + 1 + 1 + 1]? = some (.cells #[.int .i64 ep, .slice a0 l.length cap0] 24 (0, 0)) := by
    have := alloc_top (((w.alloc (.cells #[.int .i64 ep, .slice a0 l.length cap0] 24)).alloc (.cells #[.int .i64 node] 3)).alloc (.cells #[.bool false] 4)) (.cells #[.int .i64 ep, .slice a0 l.length cap0] 24)
    simpa using this
  gi_wp2_with fail
  refine wpIn_rangeFunc_ownH rfl (by omega) (gf := 50) (lb := #[.pointer (some ⟨w.heap.size + 1 + 1 + 1, 0, none⟩)]) rfl trivial (enters_of Tryd.func50 (by kernel_rfl) rfl)
    (upS_stops ep _ l w _ hr (by omega) hB0 (w.heap.size + 1 + 1 + 1) (by simp) hBn 2) belowK_t (belowK_b (by simp; omega)) (Below.refl _ _) (fun _ => rfl)
    (fun pre W => ((∀ y ∈ pre, y.nd ≠ node) ∧ Boxed W (w.heap.size + 1) 3 (.int .i64 node) ∧ Boxed W (w.heap.size + 1 + 1) 4 (.bool false)) ∧ Below w.heap.size w W)
    (fun c pre W => (c = .ret ∧ (∃ y ∈ pre, y.nd = node) ∧ Boxed W (w.heap.size + 1 + 1) 4 (.bool true)) ∧ Below w.heap.size w W)
    (OwnFrom.and (Own.from (fun s A B row hs hg hrw => ⟨hs.1, row_own () A B row hs.2.1 hg hrw, row_own () A B row hs.2.2 hg hrw⟩) _) (ownFrom_below (Nat.le_refl _) (by simp; omega)))
    (fun c => OwnFrom.and (Own.from (fun s A B row hs hg hrw => ⟨hs.1, hs.2.1, row_own () A B row hs.2.2 hg hrw⟩) _) (ownFrom_below (Nat.le_refl _) (by simp; omega)))
    ⟨⟨by simp, (cN.alloc _).alloc _, cR.alloc _⟩, hB0⟩
    (fun x a' W => ∃ Bx, w.heap.size + 1 + 1 < Bx ∧ W.heap[Bx]? = some (.cells #[.int .i64 x.nd, .int .i64 x.lf, .bool x.up] 58 (0, 0)) ∧ a' = { tmps := #[vwV ep (.slice a0 l.length cap0), .int .i64 node, .pointer (some ⟨w.heap.size, 0, none⟩), .pointer (some ⟨w.heap.size + 1, 0, none⟩), .pointer (some ⟨w.heap.size + 1 + 1, 0, none⟩), .pointer (some ⟨Bx, 0, none⟩), vwV ep (.slice a0 l.length cap0), .func (.func 50) #[] #[.pointer (some ⟨w.heap.size + 1 + 1 + 1, 0, none⟩)], mbV x, undef, undef, undef, undef], defers := [] })
    (fun x a' => Own.from (fun s X Y row h hg hrow => by
      obtain ⟨Bx, h1, h2, h3⟩ := h
      exact ⟨Bx, h1, row_own () X Y row h2 hg hrow, h3⟩) _) ?assign ?body ?done ?stop
  case assign =>
    rintro ll pre x W K ⟨⟨hp, hN, hR⟩, hB⟩ hK
    gi_wp2
    exact hK _ _ ((KeepsOthers.alloc _ _).from _) ((Below.refl _ W).alloc hB.size _) ⟨⟨hp, hN.alloc _, hR.alloc _⟩, hB.alloc hB.size _⟩ ⟨W.heap.size, hR.lt, alloc_top _ _, rfl⟩
  case body =>
    rintro ll pre x a' W hlw ⟨r, hrr⟩ ⟨⟨hp, hN, hR⟩, hB⟩ ⟨Bx, hBx, bX, rfl⟩ hlt
    have hcN := hN.cell
    have hcR := hR.cell
    have hfR := hR.frozen
    have x0 := (heap_at bX).1 0
    simp only [List.getElem?_toArray, List.getElem?_cons_zero] at x0
    by_cases hx : x.nd = node
    · have nb : (x.nd == node) = true := by simpa using hx
      gi_wp2
      exact ⟨(KeepsOthers.setCell _ _ _).from _, ⟨rfl, ⟨x, by simp, hx⟩, hR.set _⟩, hB.setCell (p := ⟨w.heap.size + 1 + 1, 0, none⟩) (by show w.heap.size ≤ w.heap.size + 1 + 1; omega) _⟩
    · have nb : (x.nd == node) = false := by simpa using hx
      gi_wp2
      exact ⟨KeepsFrom.refl _ _, Below.refl _ _, ⟨fun y hy => (List.mem_append.1 hy).elim (hp y) (fun e => by simp at e; subst e; exact hx), hN, hR⟩, hB⟩
  case done =>
    rintro D ys W hD rfl ⟨⟨hp, hN, hR⟩, hB⟩ hK
    have hcR := hR.cell
    have hfR := hR.frozen
    gi_wp2
    have hK' := (KeepsOthers.setCell W ⟨w.heap.size + 1 + 1, 0, none⟩ (.bool false)).same D _ hK rfl
    refine ⟨by simp, .inl ⟨_, _, rfl, run_takeDeferred hK', ?_⟩⟩
    have hc5 := cell_kept (hR.set (.bool false)).cell (grownBy_putObj' _ D (.deferred none)) (fun r e => by cases e; exact ⟨_, hK', rfl⟩)
    refine ⟨.bool false, ?_, by rw [decide_eq_false (fun h => by obtain ⟨y, hy, e⟩ := (mem_lv ep l node).1 h; exact hp y hy e)], (hB.setCell (p := ⟨w.heap.size + 1 + 1, 0, none⟩) (by show w.heap.size ≤ w.heap.size + 1 + 1; omega) _).trans (belowK_b (w := w) (Nat.le_refl _) _ D _ _ (by simp at hD; omega) hK' rfl rfl)⟩
    simp [results, Tryd.f21, go_sem, hc5]
  case stop =>
    rintro D c pre W hD hpre ⟨⟨rfl, ⟨y, hy, e⟩, hR⟩, hB⟩ hK
    gi_wp2
    refine ⟨by simp, .inl ⟨_, _, rfl, run_takeDeferred hK, ?_⟩⟩
    have hc5 := cell_kept hR.cell (grownBy_putObj' _ D (.deferred none)) (fun r e => by cases e; exact ⟨_, hK, rfl⟩)
    refine ⟨.bool true, ?_, by rw [decide_eq_true ((mem_lv ep l node).2 ⟨y, hpre.subset hy, e⟩)], hB.trans (belowK_b (w := w) (Nat.le_refl _) W D _ _ (by simp at hD; omega) hK rfl rfl)⟩
    simp [results, Tryd.f21, go_sem, hc5]
end Go.Proofs.YtpepdcbhimjddaaDoor
