/- law14's awake: its walk. -/
import Derived.Test.YtciibeldmcakeaaDoorVwN
import Derived.Test.YtciibeldmcakeaaDoorJI0
namespace Go.Proofs.YtciibeldmcakeaaDoor
open Go.RowKit

theorem nodes123 : NodesP [1, 2, 3] := by
  intro k h
  have hk : k = 0 ∨ k = 1 ∨ k = 2 := by simp at h; omega
  rcases hk with rfl | rfl | rfl
  · exact ⟨by simp, by simp, fun j e => absurd e (by omega)⟩
  · refine ⟨by simp, by simp, fun j e => ?_⟩
    obtain rfl : j = 0 := by omega
    simp
  · refine ⟨by simp, by simp, fun j e => ?_⟩
    obtain rfl : j = 1 := by omega
    simp
abbrev La : List Mb := [⟨1, 1, true⟩, ⟨2, 1, true⟩, ⟨3, 1, true⟩]
abbrev Lb : List Mb := [⟨1, 1, true⟩, ⟨2, 1, false⟩, ⟨3, 1, true⟩]
abbrev Lc : List Mb := [⟨1, 1, true⟩, ⟨2, 2, true⟩, ⟨3, 1, true⟩]
theorem vwA : VwP 1 La := ⟨by decide, by simp, by decide, nodes123⟩
theorem vwB : VwP 2 Lb := ⟨by decide, by simp, by decide, nodes123⟩
theorem vwC : VwP 3 Lc := ⟨by decide, by simp, by decide, nodes123⟩
theorem awF : fsB [1, 2, 3] = true := by unfold fsB; rw [nodesB_true nodes123]; rfl
theorem awD : tE 1 false 2 La = 0 ∧ tEp 1 false 2 La = 2 ∧ tLs 1 false 2 La = Lb := tE_ok vwA 1 (by decide) rfl (by decide)
theorem awU : tE 2 true 2 Lb = 0 ∧ tEp 2 true 2 Lb = 3 ∧ tLs 2 true 2 Lb = Lc := tE_ok vwB 1 (by decide) rfl (by decide)
theorem awL : lvL 2 Lb = [1, 3] := by unfold lvL; rw [if_pos (vB_true vwB)]; rfl
theorem awT : txV 3 Lc = ⟨#[3, 3, 1, 1, 1, 2, 2, 1, 3, 1, 1]⟩ := by
  unfold txV
  rw [if_pos (vB_true vwC)]
  decide +kernel
theorem ints_new (w : World) (l : List Int) : IsRow (w.alloc (.cells (iCells l).toArray 3)) 1 (.slice (some ⟨w.heap.size, 0, none⟩) l.length l.length) l.length (iCells l) ∨ maxLen < l.length := by
  by_cases h : maxLen < l.length
  · exact .inr h
  · refine .inl ⟨by simp [iCells], .inr ⟨w.heap.size, 0, l.length, rfl, by simp, Nat.le_refl _, by omega, fun j u hu => ?_⟩⟩
    rw [Nat.zero_add, (heap_at (alloc_top w _)).1 j]
    simpa using hu
set_option maxRecDepth 100000 in
set_option maxHeartbeats 2000000 in
theorem awake14_any (w : World) (hT : Q.Tab w) : Calls Tryd.prog 5 #[] w fun e w' => e = .returned (.bool true) ∧ Below w.heap.size w w' := by
  have HT : Hid (∀ w', Below w.heap.size w w' → Q.Tab w') := fun w' h => hT.below h hT.size
  have HF : Hid (∀ W a n c, IsRow W 1 (.slice a n c) [(1 : Int), 2, 3].length (iCells [1, 2, 3]) → Calls Tryd.prog 13 #[.slice a n c] W fun e w' => VwPost 1 La 0 W e w') := fun W a n c h => by
    have := first_any _ [1, 2, 3] W h (by decide)
    rw [awF] at this
    exact this
  have HD : Hid (∀ W v, IsRow W 3 v La.length (mCells La) → Calls Tryd.prog 14 #[.agg #[.int .i64 1, v], .int .i64 2] W fun e w' => VwPost 2 Lb 0 W e w') := fun W v h => by
    have := down_any 1 v La 2 W h (by decide)
    unfold TnPost at this
    rw [awD.1, awD.2.1, awD.2.2] at this
    exact this
  have HU : Hid (∀ W v, IsRow W 3 v Lb.length (mCells Lb) → Calls Tryd.prog 15 #[.agg #[.int .i64 2, v], .int .i64 2] W fun e w' => VwPost 3 Lc 0 W e w') := fun W v h => by
    have := up_any 2 v Lb 2 W h (by decide)
    unfold TnPost at this
    rw [awU.1, awU.2.1, awU.2.2] at this
    exact this
  have HL : Hid (∀ W v, IsRow W 3 v Lb.length (mCells Lb) → Calls Tryd.prog 17 #[.agg #[.int .i64 2, v]] W fun e w' => LvPost [1, 3] W e w') := fun W v h => by
    have := live_any 2 v Lb W h (by decide)
    rw [awL] at this
    exact this
  have HX : Hid (∀ W v, IsRow W 3 v Lc.length (mCells Lc) → Q.Tab W → Calls Tryd.prog 8 #[.agg #[.int .i64 3, v]] W fun e w' => e = .returned (.string ⟨#[3, 3, 1, 1, 1, 2, 2, 1, 3, 1, 1]⟩) ∧ Below W.heap.size W w') := fun W v h hT => by
    have := text_any 3 v Lc W h (by decide) hT
    rw [awT] at this
    exact this
  clear hT
  go_enter Tryd.func5, Tryd.ntmps5
  go_wp2_with fail
  have r0 : IsRow (w.alloc (.cells #[.int .i64 1, .int .i64 2, .int .i64 3] 3)) 1 (.slice (some ⟨w.heap.size, 0, none⟩) 3 3) 3 (iCells [1, 2, 3]) := (ints_new w [1, 2, 3]).resolve_right (by decide)
  refine (HF.out _ _ _ _ r0).mono ?_
  rintro e w1 ⟨v1, rfl, hr1, -, hb1⟩
  have HB1 : Hid (Below w.heap.size w w1) := (al_belowV w _).trans (hb1.mono (al_belowV w _).size)
  have HR1 : Hid (∀ w', Below w1.heap.size w1 w' → IsRow w' 3 v1 La.length (mCells La)) := fun w' h => hr1.below h
  obtain ⟨a1, c1, hv1⟩ := hr1.form
  obtain rfl : v1 = .slice a1 3 c1 := hv1
  clear r0 hr1 hb1 HF
  go_wp2_with fail
  have b1 := al_belowV w1 (.cells #[.int .i64 1, .slice a1 3 c1] 24)
  refine (HD.out _ _ (HR1.out _ b1)).mono ?_
  rintro e w2 ⟨v2, rfl, hr2, -, hb2⟩
  have HB2 : Hid (Below w.heap.size w w2) := HB1.out.trans ((b1.trans (hb2.mono b1.size)).mono HB1.out.size)
  have HR2 : Hid (∀ w', Below w2.heap.size w2 w' → IsRow w' 3 v2 Lb.length (mCells Lb)) := fun w' h => hr2.below h
  obtain ⟨a2, c2, hv2⟩ := hr2.form
  obtain rfl : v2 = .slice a2 3 c2 := hv2
  clear b1 hr2 hb2 HD HR1
  go_wp2_with fail
  have b2 := al_belowV w2 (.cells #[.int .i64 2, .slice a2 3 c2] 24)
  refine (HU.out _ _ (HR2.out _ b2)).mono ?_
  rintro e w3 ⟨v3, rfl, hr3, -, hb3⟩
  have HB2a : Hid (Below w2.heap.size w2 w3) := b2.trans (hb3.mono b2.size)
  have HB3 : Hid (Below w.heap.size w w3) := HB2.out.trans (HB2a.out.mono HB2.out.size)
  have HR3 : Hid (∀ w', Below w3.heap.size w3 w' → IsRow w' 3 v3 Lc.length (mCells Lc)) := fun w' h => hr3.below h
  obtain ⟨a3, c3, hv3⟩ := hr3.form
  obtain rfl : v3 = .slice a3 3 c3 := hv3
  have hH2 : w3.heap[w2.heap.size]? = some (.cells #[.int .i64 2, .slice a2 3 c2] 24 (0, 0)) := (hb3.block _ (by simp)).trans (alloc_top w2 _)
  have hz3 : w2.heap.size < w3.heap.size := (heap_at hH2).2.2
  have b3 := al_belowV w3 (.cells #[.int .i64 3, .slice a3 3 c3] 24)
  have hH2' : (w3.alloc (.cells #[.int .i64 3, .slice a3 3 c3] 24)).heap[w2.heap.size]? = some (.cells #[.int .i64 2, .slice a2 3 c2] 24 (0, 0)) := (alloc_old _ _ hz3).trans hH2
  have hH3' : (w3.alloc (.cells #[.int .i64 3, .slice a3 3 c3] 24)).heap[w3.heap.size]? = some (.cells #[.int .i64 3, .slice a3 3 c3] 24 (0, 0)) := alloc_top w3 _
  obtain ⟨p0, p1, -, -⟩ := two_V hH2'
  have HBa : Hid (Below w.heap.size w (w3.alloc (.cells #[.int .i64 3, .slice a3 3 c3] 24))) := HB3.out.alloc HB3.out.size _
  have HR2a : Hid (IsRow (w3.alloc (.cells #[.int .i64 3, .slice a3 3 c3] 24)) 3 (.slice a2 3 c2) Lb.length (mCells Lb)) := HR2.out _ (HB2a.out.trans (b3.mono HB2a.out.size))
  have HR3a : Hid (∀ w', Below (w3.alloc (.cells #[.int .i64 3, .slice a3 3 c3] 24)).heap.size (w3.alloc (.cells #[.int .i64 3, .slice a3 3 c3] 24)) w' → IsRow w' 3 (.slice a3 3 c3) Lc.length (mCells Lc) ∧ w'.heap[w3.heap.size]? = some (.cells #[.int .i64 3, .slice a3 3 c3] 24 (0, 0))) := fun w' h => ⟨HR3.out _ (b3.trans (h.mono b3.size)), (h.block _ (by simp)).trans hH3'⟩
  clear b2 b3 hr3 hb3 HU HR2 HR3 hH2 hH2' hH3' HB1 HB2 HB2a HB3
  go_wp2_with fail
  refine (HL.out _ _ HR2a.out).mono ?_
  rintro e w4 ⟨v4, rfl, hr4, -, hb4⟩
  obtain ⟨k3, hH3⟩ := HR3a.out _ hb4
  have HK3 : Hid (∀ w', Below w4.heap.size w4 w' → IsRow w' 3 (.slice a3 3 c3) Lc.length (mCells Lc) ∧ w'.heap[w3.heap.size]? = some (.cells #[.int .i64 3, .slice a3 3 c3] 24 (0, 0))) := fun w' h => ⟨k3.below h, (h.block _ (heap_at hH3).2.2).trans hH3⟩
  have HB4 : Hid (Below w.heap.size w w4) := HBa.out.trans (hb4.mono HBa.out.size)
  have HR4 : Hid (IsRow (w4.alloc (.cells #[.int .i64 1, .int .i64 3] 3)) 1 v4 2 (iCells [1, 3])) := hr4.below (al_belowV w4 _)
  have HR5 : Hid (IsRow (w4.alloc (.cells #[.int .i64 1, .int .i64 3] 3)) 1 (.slice (some ⟨w4.heap.size, 0, none⟩) 2 2) 2 (iCells [1, 3])) := (ints_new w4 [1, 3]).resolve_right (by decide)
  have HSm : Hid (Calls Tryd.prog 16 #[v4, .slice (some ⟨w4.heap.size, 0, none⟩) 2 2] (w4.alloc (.cells #[.int .i64 1, .int .i64 3] 3)) fun e w' => e = .returned (.bool true) ∧ Below (w4.alloc (.cells #[.int .i64 1, .int .i64 3] 3)).heap.size (w4.alloc (.cells #[.int .i64 1, .int .i64 3] 3)) w') := same_eq v4 _ [1, 3] _ HR4.out HR5.out (by decide)
  have HB4a := al_belowV w4 (.cells #[.int .i64 1, .int .i64 3] 3)
  clear hr4 hb4 k3 hH3 HR3a HR2a HL p0 p1 HR4 HR5
  go_wp2_with fail
  refine HSm.out.mono ?_
  rintro e w5 ⟨rfl, hb5⟩
  have hb45 : Below w4.heap.size w4 w5 := HB4a.trans (hb5.mono HB4a.size)
  obtain ⟨k3, hH3⟩ := HK3.out _ hb45
  obtain ⟨q0, q1, -, -⟩ := two_V hH3
  have HB5 : Hid (Below w.heap.size w w5) := HB4.out.trans (hb45.mono HB4.out.size)
  have HTx : Hid (Calls Tryd.prog 8 #[.agg #[.int .i64 3, .slice a3 3 c3]] w5 fun e w' => e = .returned (.string ⟨#[3, 3, 1, 1, 1, 2, 2, 1, 3, 1, 1]⟩) ∧ Below w5.heap.size w5 w') := HX.out _ _ k3 (HT.out _ HB5.out)
  clear hb5 hb45 k3 hH3 HK3 HSm HB4a HX HT
  go_wp2_with fail
  refine HTx.out.mono ?_
  rintro e w6 ⟨rfl, hb6⟩
  have HB6 : Hid (Below w.heap.size w w6) := HB5.out.trans (hb6.mono HB5.out.size)
  clear hb6 HTx q0 q1
  go_wp2
  go_ret
  exact ⟨rfl, HB6.out⟩
end Go.Proofs.YtciibeldmcakeaaDoor
