/- view.Live: its walk. -/
import Derived.Test.YtpepdcbhimjddaaDoorVwH
import Derived.Maps.AppendAt
namespace Go.Proofs.YtpepdcbhimjddaaDoor
open Go.RowKit Go.Shelf
theorem up_fn (ep : Int) (v : Value) (w : World) : Calls Tryd.prog 37 #[vwV ep v] w fun e w' => e = .returned (.func (.func 50) #[] #[.pointer (some ⟨w.heap.size, 0, none⟩)]) ∧ w' = w.alloc (.cells #[.int .i64 ep, v] 24) := by
  go_enter Tryd.func37, Tryd.ntmps37
  go_wp2
  go_ret
  exact ⟨rfl, rfl⟩
attribute [local go_sem] Oper.semAt_some
theorem nds_up (ep : Int) (l : List Mb) : nds (upM ep l) = lvL ep l := by
  unfold upM lvL upN
  split <;> rfl
theorem row_own {B : Nat} {C : Array Value} {t : TypeId} : Own (fun (_ : Unit) W => W.heap[B]? = some (.cells C t (0, 0))) := by
  rintro s X Y row h hg hrow
  refine (hg.block B (heap_at h).2.2 (fun e' => ?_)).trans h
  obtain ⟨o, ho, hc⟩ := hrow B e'.symm
  rw [show X.heap[B]? = _ from h] at ho; cases ho; cases hc
/-- What Live answers. -/
def LvPost (r : List Int) (w : World) (e : Ending) (w' : World) : Prop := ∃ v, e = .returned v ∧ IsRow w' 1 v r.length (iCells r) ∧ NewB w.heap.size v ∧ Below w.heap.size w w'
set_option maxRecDepth 100000 in
set_option maxHeartbeats 2000000 in
theorem live_any (ep : Int) (v : Value) (l : List Mb) (w : World) (hr : IsRow w 3 v l.length (mCells l)) (hl : l.length ≤ 1000000) :
    Calls Tryd.prog 18 #[vwV ep v] w fun e w' => LvPost (lvL ep l) w e w' := by
  obtain ⟨a0, cap0, rfl⟩ := hr.form
  obtain ⟨i0, hi, hz0, hz1, hz2⟩ := info_parts info_inV
  refine (callsIn_wide (n := 3)).1 ?_
  refine callsIn_of_wp_marks Tryd.func18 rfl trivial ?_ rfl
  simp only [Tryd.ntmps18, List.size_toArray, List.length_cons, List.length_nil, Nat.reduceAdd, Nat.reduceSub, Array.replicate_succ, Array.replicate_zero, List.push_toArray, List.append_toArray, List.nil_append, List.cons_append]
  gi_wp2_with fail
  refine ⟨trivial, (callsIn_wide.2 (up_fn _ _ _)).mono ?_⟩
  rintro e w' ⟨rfl, rfl⟩
  have hB0 : Below w.heap.size w (((w.alloc (.cells #[.int .i64 ep, .slice a0 l.length cap0] 24)).alloc (.cells #[.slice none 0 0] 25)).alloc (.cells #[.int .i64 ep, .slice a0 l.length cap0] 24)) := (((Below.refl _ w).alloc (Nat.le_refl _) _).alloc (by simp) _).alloc (by simp; omega) _
  have bO : Boxed (w.alloc (.cells #[.int .i64 ep, .slice a0 l.length cap0] 24) |>.alloc (.cells #[.slice none 0 0] 25)) (w.heap.size + 1) 25 (.slice none 0 0) := by have := Boxed.new (w.alloc (.cells #[.int .i64 ep, .slice a0 l.length cap0] 24)) 25 (.slice none 0 0); rw [World.size_alloc] at this; exact this
  have hBn : (((w.alloc (.cells #[.int .i64 ep, .slice a0 l.length cap0] 24)).alloc (.cells #[.slice none 0 0] 25)).alloc (.cells #[.int .i64 ep, .slice a0 l.length cap0] 24)).heap[w.heap.size + 1 + 1]? = some (.cells #[.int .i64 ep, .slice a0 l.length cap0] 24 (0, 0)) := by
    have := alloc_top ((w.alloc (.cells #[.int .i64 ep, .slice a0 l.length cap0] 24)).alloc (.cells #[.slice none 0 0] 25)) (.cells #[.int .i64 ep, .slice a0 l.length cap0] 24)
    simpa using this
  gi_wp2_with fail
  refine wpIn_rangeFunc_ownH rfl (by omega) (gf := 50) (lb := #[.pointer (some ⟨w.heap.size + 1 + 1, 0, none⟩)]) rfl trivial (enters_of Tryd.func50 (by kernel_rfl) rfl)
    (upS_stops ep _ l w _ hr (by omega) hB0 (w.heap.size + 1 + 1) (by simp) hBn 2) belowK_t (belowK_b (by simp; omega)) (Below.refl _ _) (fun _ => rfl)
    (fun pre W => (∃ v, Boxed W (w.heap.size + 1) 25 v ∧ W.ownsRow w.heap.size 3 1 v pre.length (iCells (nds pre)) ∧ True) ∧ Below w.heap.size w W)
    (fun _ _ _ => False)
    (OwnFrom.and (Own.from (holdsRow_own w.heap.size (w.heap.size + 1) 25 3 1 (fun pre => pre.length) (fun pre => iCells (nds pre)) (fun _ _ => True)) _) (ownFrom_below (Nat.le_refl _) (by simp; omega)))
    (fun _ _ _ _ _ hs _ _ => hs)
    ⟨⟨_, bO.alloc _, World.ownsRow_nil _ _ _ _, trivial⟩, hB0⟩
    (fun x a' W => ∃ Bx, w.heap.size + 1 < Bx ∧ W.heap[Bx]? = some (.cells #[.int .i64 x.nd, .int .i64 x.lf, .bool x.up] 58 (0, 0)) ∧ a' = { tmps := #[vwV ep (.slice a0 l.length cap0), .pointer (some ⟨w.heap.size, 0, none⟩), .pointer (some ⟨w.heap.size + 1, 0, none⟩), .pointer (some ⟨Bx, 0, none⟩), vwV ep (.slice a0 l.length cap0), .func (.func 50) #[] #[.pointer (some ⟨w.heap.size + 1 + 1, 0, none⟩)], mbV x, undef, undef, undef, undef, undef, undef], defers := [] })
    (fun x a' => Own.from (fun s X Y row h hg hrow => by
      obtain ⟨Bx, h1, h2, h3⟩ := h
      exact ⟨Bx, h1, row_own () X Y row h2 hg hrow, h3⟩) _) ?assign ?body ?done ?stop
  case assign =>
    rintro ll pre x W K ⟨⟨vv, hv, hrow, -⟩, hB⟩ hK
    gi_wp2
    exact hK _ _ ((KeepsOthers.alloc _ _).from _) ((Below.refl _ W).alloc hB.size _) ⟨⟨vv, hv.alloc _, hrow.alloc _, trivial⟩, hB.alloc hB.size _⟩ ⟨W.heap.size, hv.lt, alloc_top _ _, rfl⟩
  case body =>
    rintro ll pre x a' W hlw ⟨r, hrr⟩ ⟨⟨vv, hv, hrow, -⟩, hB⟩ ⟨Bx, hBx, bX, rfl⟩ hlt
    have hc := hv.cell
    have x0 := (heap_at bX).1 0
    simp only [List.getElem?_toArray, List.getElem?_cons_zero] at x0
    gi_wp2_with (gi_at_builtin; refine wpListIn_append_own _ rfl _ _ 25 rfl w.heap.size 3 i0 (.int .i64 0) 1 8 Tryd.underlying25 hi hz0 hz1 hz2 rfl (by decide) _ _ _ rfl (hrow.alloc _) ⟨W.heap.size, 0, none⟩ 1 1 [.int .i64 x.nd] rfl rfl (cell_one_new _ _ _) (by simp [Value.oneCell']) (by unfold maxLen; omega) (by omega) (by have := hB.size; simp; omega) ?_; intro v' w1 hown' hgrow _; obtain ⟨g', cap', rfl⟩ := ownsRow_succ hown'; obtain ⟨hv1, hv2, hr2, hk2, hb2⟩ := hv.appended (by decide) hrow hB.size (by omega) hown' hgrow; have hc1 := hv1.cell; have hf1 := hv1.frozen)
    exact ⟨hk2.from _, hb2, ⟨_, hv2, by rw [show iCells (nds (pre ++ [x])) = iCells (nds pre) ++ [.int .i64 x.nd] by simp [iCells]]; simpa using hr2, trivial⟩, hB.trans hb2⟩
  case done =>
    rintro D ys W hD rfl ⟨⟨vv, hv, hrow, -⟩, hB⟩ hK
    obtain ⟨va, vc, rfl⟩ := (IsRow.own hrow).form
    have hc := hv.cell
    have hf := hv.frozen
    gi_wp2
    have hK' := (KeepsOthers.setCell W ⟨w.heap.size + 1, 0, none⟩ (.slice va (upM ep l).length vc)).same D _ hK rfl
    refine ⟨by simp, .inl ⟨_, _, rfl, run_takeDeferred hK', ?_⟩⟩
    have hv2 := hv.set (.slice va (upM ep l).length vc)
    have hr2 : (W.setCell ⟨w.heap.size + 1, 0, none⟩ (.slice va (upM ep l).length vc)).ownsRow w.heap.size 3 1 (.slice va (upM ep l).length vc) (upM ep l).length (iCells (nds (upM ep l))) := hrow.kept (grownBy_setCell' W (w.heap.size + 1) _) (.inr (hv.not_row (by decide) hrow).symm)
    have hr3 := ownsRow_putObj hr2 (.deferred none) hK' rfl
    have hc5 := cell_kept hv2.cell (grownBy_putObj' _ D (.deferred none)) (fun r e => by cases e; exact ⟨_, hK', rfl⟩)
    refine ⟨.slice va (upM ep l).length vc, ?_, ?_⟩
    rotate_left
    · refine ⟨.slice va (upM ep l).length vc, rfl, ?_, NewB.own hrow, (hB.setCell (p := ⟨w.heap.size + 1, 0, none⟩) (by simp) _).trans (belowK_b (w := w) (Nat.le_refl _) _ D _ _ (by simp at hD; omega) hK' rfl rfl)⟩
      rw [← nds_up, show (nds (upM ep l)).length = (upM ep l).length by simp]
      exact IsRow.own hr3
    · simp [results, Tryd.f18, go_sem, hc5]
  case stop =>
    rintro D c pre W _ _ h _
    exact h.elim
end Go.Proofs.YtpepdcbhimjddaaDoor
