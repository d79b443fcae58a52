/- store's Set: its walk. -/
import Derived.Test.YtlndgepoekllkaaGreatDoorZk15
import Derived.Test.YtlndgepoekllkaaGreatDoorZk29
import Derived.Test.YtlndgepoekllkaaGreatDoorZk22
import Derived.Test.YtlndgepoekllkaaGreatDoorZk25
import Derived.Test.YtlndgepoekllkaaGreatDoorZk30
import Derived.Test.YtlndgepoekllkaaGreatDoorZk32
import Derived.Test.YtlndgepoekllkaaGreatDoorZk33
namespace Go.Proofs.YtlndgepoekllkaaGreatDoor
open Go.RowKit Go.ChangeMaps

set_option maxRecDepth 100000 in
set_option maxHeartbeats 4000000 in
theorem set_bad (s : Nat) (t : Ty) (vo va vc : Value) (w : World) (hr : IsTy w t vo va vc) (hnm : NmT t) (hT : UT w) (hM : ML w) (hc : chkT t = false) :
    Calls Tryz.prog 20 #[stP s, tyV t vo va vc] w fun e w' => e = .returned (.int .i64 1) ∧ Below w.heap.size w w' := by
  obtain ⟨ao, co, rfl⟩ := hr.1.form
  obtain ⟨aa, ca, rfl⟩ := hr.2.1.form
  obtain ⟨ac, cc, rfl⟩ := hr.2.2.form
  have HCh : Hid (∀ W, Below w.heap.size w W → Calls Tryz.prog 37 #[(tyV t (.slice ao t.own.length co) (.slice aa t.all.length ca) (.slice ac t.ch.length cc))] W fun e w' => e = .returned (.bool false) ∧ Below W.heap.size W w') := fun W hb => hc ▸ checkT_any t _ _ _ W (hr.below hb) hnm (Utf8Tabs_below hT hb) (ML_below hM hb)
  clear hr hnm hT hM hc
  obtain ⟨w1, hw1⟩ : ∃ w1, w1 = w.alloc (.cells (tyA t (.slice ao t.own.length co) (.slice aa t.all.length ca) (.slice ac t.ch.length cc)) 35) := ⟨_, rfl⟩
  have B1 : Hid (Below w.heap.size w w1) := by show Below _ _ _; rw [hw1]; exact al_b _ _
  have hn1 : w1.heap[w.heap.size]? = some (.cells (tyA t (.slice ao t.own.length co) (.slice aa t.all.length ca) (.slice ac t.ch.length cc)) 35 (0, 0)) := by rw [hw1]; exact new_at _ _
  have C1 : Hid (∀ W, Below w1.heap.size w1 W → W.heap[w.heap.size]? = some (.cells (tyA t (.slice ao t.own.length co) (.slice aa t.all.length ca) (.slice ac t.ch.length cc)) 35 (0, 0))) := fun W h => (h.block _ (Array.getElem?_eq_some_iff.1 hn1).1).trans hn1
  clear hn1
  have hk := C1.out w1 (Below.refl _ _)
  have c1_0 : w1.cell? ⟨w.heap.size, 0, none⟩ = some (.string t.n) := by rw [Lib.cell_of_heap hk]; rfl
  have c1_1 : w1.cell? ⟨w.heap.size, 1, none⟩ = some (.string t.p) := by rw [Lib.cell_of_heap hk]; rfl
  have c1_2 : w1.cell? ⟨w.heap.size, 2, none⟩ = some (.slice ao t.own.length co) := by rw [Lib.cell_of_heap hk]; rfl
  have c1_3 : w1.cell? ⟨w.heap.size, 3, none⟩ = some (.slice aa t.all.length ca) := by rw [Lib.cell_of_heap hk]; rfl
  have c1_4 : w1.cell? ⟨w.heap.size, 4, none⟩ = some (.slice ac t.ch.length cc) := by rw [Lib.cell_of_heap hk]; rfl
  have c1_5 : w1.cell? ⟨w.heap.size, 5, none⟩ = some (.int .i64 t.nd) := by rw [Lib.cell_of_heap hk]; rfl
  have c1_6 : w1.cell? ⟨w.heap.size, 6, none⟩ = some (.int .i64 t.lf) := by rw [Lib.cell_of_heap hk]; rfl
  have c1_7 : w1.cell? ⟨w.heap.size, 7, none⟩ = some (.int .i64 t.sq) := by rw [Lib.cell_of_heap hk]; rfl
  clear hk
  rw [hw1] at c1_0 c1_1 c1_2 c1_3 c1_4 c1_5 c1_6 c1_7
  go_enter Tryz.func20, Tryz.ntmps20
  go_wp2_with fail
  rw [← hw1]
  clear hw1
  clear c1_0 c1_1 c1_2 c1_3 c1_4 c1_5 c1_6 c1_7
  refine (HCh.out _ B1.out).mono ?_
  rintro e w2 ⟨rfl, hb⟩
  have B2 : Hid (Below w1.heap.size w1 w2) := hb
  clear hb 
  have HBz : Hid (Below w.heap.size w w2) := (bTS B1.out B2.out)
  go_wp2
  go_ret
  exact ⟨rfl, HBz.out⟩
set_option maxRecDepth 100000 in
set_option maxHeartbeats 4000000 in
theorem set_new0 {base : Nat} {w : World} {s m : Nat} {E : List (ByteArray × Nat)} {X : Nat → Kp} (h : StV base w s m E X) (t : Ty) (vo va vc : Value) (hr : IsTy w t vo va vc) (hnm : NmT t) (hT : UT w) (hM : ML w) (hc : chkT t = true) (hL : lkS E (fldB t.n) = none) (hb0 : base ≤ w.heap.size) (h1 : t.own.length ≤ 1000) (h2 : t.all.length ≤ 1000) (h3 : t.ch.length ≤ 1000) (hf : E.length < 200) :
    Calls Tryz.prog 20 #[stP s, tyV t vo va vc] w fun e w' => KeP base w s m E X t e w' := by
  obtain ⟨ao, co, rfl⟩ := hr.1.form
  obtain ⟨aa, ca, rfl⟩ := hr.2.1.form
  obtain ⟨ac, cc, rfl⟩ := hr.2.2.form
  have HCh : Hid (∀ W, Below w.heap.size w W → Calls Tryz.prog 37 #[(tyV t (.slice ao t.own.length co) (.slice aa t.all.length ca) (.slice ac t.ch.length cc))] W fun e w' => e = .returned (.bool true) ∧ Below W.heap.size W w') := fun W hb => hc ▸ checkT_any t _ _ _ W (hr.below hb) hnm (Utf8Tabs_below hT hb) (ML_below hM hb)
  have HFi : Hid (∀ W, Below w.heap.size w W → Calls Tryz.prog 29 #[stP s, .string t.n] W fun e w' => e = .returned (.pointer none) ∧ Below W.heap.size W w') := fun W hb => by
    have := find_any (h.below hb) t.n hnm.n (Utf8Tabs_below hT hb)
    rw [hL] at this
    exact this
  have HKe : Hid (∀ W, Below w.heap.size w W → Calls Tryz.prog 39 #[stP s, (tyV t (.slice ao t.own.length co) (.slice aa t.all.length ca) (.slice ac t.ch.length cc))] W fun e w' => KeP base W s m E X t e w') := fun W hb => keep_any (h.below hb) (Nat.le_trans hb0 hb.size) t _ _ _ (hr.below hb) h1 h2 h3 hnm.n (Utf8Tabs_below hT hb) (fun _ => hf)
  clear h hr hnm hT hM hc hL hf hb0 h1 h2 h3
  obtain ⟨w1, hw1⟩ : ∃ w1, w1 = w.alloc (.cells (tyA t (.slice ao t.own.length co) (.slice aa t.all.length ca) (.slice ac t.ch.length cc)) 35) := ⟨_, rfl⟩
  have B1 : Hid (Below w.heap.size w w1) := by show Below _ _ _; rw [hw1]; exact al_b _ _
  have hn1 : w1.heap[w.heap.size]? = some (.cells (tyA t (.slice ao t.own.length co) (.slice aa t.all.length ca) (.slice ac t.ch.length cc)) 35 (0, 0)) := by rw [hw1]; exact new_at _ _
  have C1 : Hid (∀ W, Below w1.heap.size w1 W → W.heap[w.heap.size]? = some (.cells (tyA t (.slice ao t.own.length co) (.slice aa t.all.length ca) (.slice ac t.ch.length cc)) 35 (0, 0))) := fun W h => (h.block _ (Array.getElem?_eq_some_iff.1 hn1).1).trans hn1
  clear hn1
  have hk := C1.out w1 (Below.refl _ _)
  have c1_0 : w1.cell? ⟨w.heap.size, 0, none⟩ = some (.string t.n) := by rw [Lib.cell_of_heap hk]; rfl
  have c1_1 : w1.cell? ⟨w.heap.size, 1, none⟩ = some (.string t.p) := by rw [Lib.cell_of_heap hk]; rfl
  have c1_2 : w1.cell? ⟨w.heap.size, 2, none⟩ = some (.slice ao t.own.length co) := by rw [Lib.cell_of_heap hk]; rfl
  have c1_3 : w1.cell? ⟨w.heap.size, 3, none⟩ = some (.slice aa t.all.length ca) := by rw [Lib.cell_of_heap hk]; rfl
  have c1_4 : w1.cell? ⟨w.heap.size, 4, none⟩ = some (.slice ac t.ch.length cc) := by rw [Lib.cell_of_heap hk]; rfl
  have c1_5 : w1.cell? ⟨w.heap.size, 5, none⟩ = some (.int .i64 t.nd) := by rw [Lib.cell_of_heap hk]; rfl
  have c1_6 : w1.cell? ⟨w.heap.size, 6, none⟩ = some (.int .i64 t.lf) := by rw [Lib.cell_of_heap hk]; rfl
  have c1_7 : w1.cell? ⟨w.heap.size, 7, none⟩ = some (.int .i64 t.sq) := by rw [Lib.cell_of_heap hk]; rfl
  clear hk
  rw [hw1] at c1_0 c1_1 c1_2 c1_3 c1_4 c1_5 c1_6 c1_7
  go_enter Tryz.func20, Tryz.ntmps20
  go_wp2_with fail
  rw [← hw1]
  clear hw1
  clear c1_0 c1_1 c1_2 c1_3 c1_4 c1_5 c1_6 c1_7
  refine (HCh.out _ B1.out).mono ?_
  rintro e w2 ⟨rfl, hb⟩
  have B2 : Hid (Below w1.heap.size w1 w2) := hb
  clear hb 
  have hk := C1.out w2 B2.out
  have c1_0 : w2.cell? ⟨w.heap.size, 0, none⟩ = some (.string t.n) := by rw [Lib.cell_of_heap hk]; rfl
  have c1_1 : w2.cell? ⟨w.heap.size, 1, none⟩ = some (.string t.p) := by rw [Lib.cell_of_heap hk]; rfl
  have c1_2 : w2.cell? ⟨w.heap.size, 2, none⟩ = some (.slice ao t.own.length co) := by rw [Lib.cell_of_heap hk]; rfl
  have c1_3 : w2.cell? ⟨w.heap.size, 3, none⟩ = some (.slice aa t.all.length ca) := by rw [Lib.cell_of_heap hk]; rfl
  have c1_4 : w2.cell? ⟨w.heap.size, 4, none⟩ = some (.slice ac t.ch.length cc) := by rw [Lib.cell_of_heap hk]; rfl
  have c1_5 : w2.cell? ⟨w.heap.size, 5, none⟩ = some (.int .i64 t.nd) := by rw [Lib.cell_of_heap hk]; rfl
  have c1_6 : w2.cell? ⟨w.heap.size, 6, none⟩ = some (.int .i64 t.lf) := by rw [Lib.cell_of_heap hk]; rfl
  have c1_7 : w2.cell? ⟨w.heap.size, 7, none⟩ = some (.int .i64 t.sq) := by rw [Lib.cell_of_heap hk]; rfl
  clear hk
  go_wp2_with fail
  clear c1_0 c1_1 c1_2 c1_3 c1_4 c1_5 c1_6 c1_7
  refine (HFi.out _ (bTS B1.out B2.out)).mono ?_
  rintro e w3 ⟨rfl, hb⟩
  have B3 : Hid (Below w2.heap.size w2 w3) := hb
  clear hb 
  go_wp2_with fail
  refine wp_region_quiet (C := fun w' => Below w3.heap.size w3 w') (by kernel_rfl) (by kernel_rfl) ((Below.refl _ _).drew) ?_
  dsimp only
  repeat (first
    | go_big_quiet_skip
    | (go_big_quiet_want
       apply Exists.intro
       refine ⟨fun W' hW' => ?_, ?_⟩
       · have hw : Below w3.heap.size w3 W' := hW'
         go_simp
         first
           | done
           | rfl
       go_big_quiet_on
       try simp only [Act.put, List.setIfInBounds_toArray, List.set_cons_zero, List.set_cons_succ]))
  refine wpQuiet_nil ?_
  intro wq hqw
  have Bq : Hid (Below w3.heap.size w3 wq) := hqw
  clear hqw
  have hk := C1.out wq (bTS (bTS B2.out B3.out) Bq.out)
  have c1_0 : wq.cell? ⟨w.heap.size, 0, none⟩ = some (.string t.n) := by rw [Lib.cell_of_heap hk]; rfl
  have c1_1 : wq.cell? ⟨w.heap.size, 1, none⟩ = some (.string t.p) := by rw [Lib.cell_of_heap hk]; rfl
  have c1_2 : wq.cell? ⟨w.heap.size, 2, none⟩ = some (.slice ao t.own.length co) := by rw [Lib.cell_of_heap hk]; rfl
  have c1_3 : wq.cell? ⟨w.heap.size, 3, none⟩ = some (.slice aa t.all.length ca) := by rw [Lib.cell_of_heap hk]; rfl
  have c1_4 : wq.cell? ⟨w.heap.size, 4, none⟩ = some (.slice ac t.ch.length cc) := by rw [Lib.cell_of_heap hk]; rfl
  have c1_5 : wq.cell? ⟨w.heap.size, 5, none⟩ = some (.int .i64 t.nd) := by rw [Lib.cell_of_heap hk]; rfl
  have c1_6 : wq.cell? ⟨w.heap.size, 6, none⟩ = some (.int .i64 t.lf) := by rw [Lib.cell_of_heap hk]; rfl
  have c1_7 : wq.cell? ⟨w.heap.size, 7, none⟩ = some (.int .i64 t.sq) := by rw [Lib.cell_of_heap hk]; rfl
  clear hk
  go_wp2_with fail
  clear c1_0 c1_1 c1_2 c1_3 c1_4 c1_5 c1_6 c1_7
  refine (HKe.out _ (bTS (bTS (bTS B1.out B2.out) B3.out) Bq.out)).mono ?_
  rintro e wa ⟨g, rfl, hSa, hga, hsa⟩
  have HEnd : Hid (KeP base w s m E X t (.returned (.int .i64 0)) wa) := ⟨g, rfl, hSa, Nat.le_trans (Below.size (bTS (bTS (bTS B1.out B2.out) B3.out) Bq.out)) hga, (Stp.of _ (bTS (bTS (bTS B1.out B2.out) B3.out) Bq.out)).trans hsa⟩
  clear hSa hga hsa HKe HFi HCh
  go_wp2
  go_ret
  exact HEnd.out
set_option maxRecDepth 100000 in
set_option maxHeartbeats 4000000 in
theorem set_full {base : Nat} {w : World} {s m : Nat} {E : List (ByteArray × Nat)} {X : Nat → Kp} (h : StV base w s m E X) (t : Ty) (vo va vc : Value) (hr : IsTy w t vo va vc) (hnm : NmT t) (hT : UT w) (hM : ML w) (hc : chkT t = true) (hL : lkS E (fldB t.n) = none) (hf : 200 ≤ E.length) :
    Calls Tryz.prog 20 #[stP s, tyV t vo va vc] w fun e w' => e = .returned (.int .i64 6) ∧ Below w.heap.size w w' := by
  obtain ⟨ao, co, rfl⟩ := hr.1.form
  obtain ⟨aa, ca, rfl⟩ := hr.2.1.form
  obtain ⟨ac, cc, rfl⟩ := hr.2.2.form
  have HCh : Hid (∀ W, Below w.heap.size w W → Calls Tryz.prog 37 #[(tyV t (.slice ao t.own.length co) (.slice aa t.all.length ca) (.slice ac t.ch.length cc))] W fun e w' => e = .returned (.bool true) ∧ Below W.heap.size W w') := fun W hb => hc ▸ checkT_any t _ _ _ W (hr.below hb) hnm (Utf8Tabs_below hT hb) (ML_below hM hb)
  have HFi : Hid (∀ W, Below w.heap.size w W → Calls Tryz.prog 29 #[stP s, .string t.n] W fun e w' => e = .returned (.pointer none) ∧ Below W.heap.size W w') := fun W hb => by
    have := find_any (h.below hb) t.n hnm.n (Utf8Tabs_below hT hb)
    rw [hL] at this
    exact this
  have HKe : Hid (∀ W, Below w.heap.size w W → Calls Tryz.prog 39 #[stP s, (tyV t (.slice ao t.own.length co) (.slice aa t.all.length ca) (.slice ac t.ch.length cc))] W fun e w' => e = .returned (.int .i64 6) ∧ Below W.heap.size W w') := fun W hb => keep_full (h.below hb) t _ _ _ (hr.below hb) hnm.n (Utf8Tabs_below hT hb) hL hf
  clear h hr hnm hT hM hc hL hf
  obtain ⟨w1, hw1⟩ : ∃ w1, w1 = w.alloc (.cells (tyA t (.slice ao t.own.length co) (.slice aa t.all.length ca) (.slice ac t.ch.length cc)) 35) := ⟨_, rfl⟩
  have B1 : Hid (Below w.heap.size w w1) := by show Below _ _ _; rw [hw1]; exact al_b _ _
  have hn1 : w1.heap[w.heap.size]? = some (.cells (tyA t (.slice ao t.own.length co) (.slice aa t.all.length ca) (.slice ac t.ch.length cc)) 35 (0, 0)) := by rw [hw1]; exact new_at _ _
  have C1 : Hid (∀ W, Below w1.heap.size w1 W → W.heap[w.heap.size]? = some (.cells (tyA t (.slice ao t.own.length co) (.slice aa t.all.length ca) (.slice ac t.ch.length cc)) 35 (0, 0))) := fun W h => (h.block _ (Array.getElem?_eq_some_iff.1 hn1).1).trans hn1
  clear hn1
  have hk := C1.out w1 (Below.refl _ _)
  have c1_0 : w1.cell? ⟨w.heap.size, 0, none⟩ = some (.string t.n) := by rw [Lib.cell_of_heap hk]; rfl
  have c1_1 : w1.cell? ⟨w.heap.size, 1, none⟩ = some (.string t.p) := by rw [Lib.cell_of_heap hk]; rfl
  have c1_2 : w1.cell? ⟨w.heap.size, 2, none⟩ = some (.slice ao t.own.length co) := by rw [Lib.cell_of_heap hk]; rfl
  have c1_3 : w1.cell? ⟨w.heap.size, 3, none⟩ = some (.slice aa t.all.length ca) := by rw [Lib.cell_of_heap hk]; rfl
  have c1_4 : w1.cell? ⟨w.heap.size, 4, none⟩ = some (.slice ac t.ch.length cc) := by rw [Lib.cell_of_heap hk]; rfl
  have c1_5 : w1.cell? ⟨w.heap.size, 5, none⟩ = some (.int .i64 t.nd) := by rw [Lib.cell_of_heap hk]; rfl
  have c1_6 : w1.cell? ⟨w.heap.size, 6, none⟩ = some (.int .i64 t.lf) := by rw [Lib.cell_of_heap hk]; rfl
  have c1_7 : w1.cell? ⟨w.heap.size, 7, none⟩ = some (.int .i64 t.sq) := by rw [Lib.cell_of_heap hk]; rfl
  clear hk
  rw [hw1] at c1_0 c1_1 c1_2 c1_3 c1_4 c1_5 c1_6 c1_7
  go_enter Tryz.func20, Tryz.ntmps20
  go_wp2_with fail
  rw [← hw1]
  clear hw1
  clear c1_0 c1_1 c1_2 c1_3 c1_4 c1_5 c1_6 c1_7
  refine (HCh.out _ B1.out).mono ?_
  rintro e w2 ⟨rfl, hb⟩
  have B2 : Hid (Below w1.heap.size w1 w2) := hb
  clear hb 
  have hk := C1.out w2 B2.out
  have c1_0 : w2.cell? ⟨w.heap.size, 0, none⟩ = some (.string t.n) := by rw [Lib.cell_of_heap hk]; rfl
  have c1_1 : w2.cell? ⟨w.heap.size, 1, none⟩ = some (.string t.p) := by rw [Lib.cell_of_heap hk]; rfl
  have c1_2 : w2.cell? ⟨w.heap.size, 2, none⟩ = some (.slice ao t.own.length co) := by rw [Lib.cell_of_heap hk]; rfl
  have c1_3 : w2.cell? ⟨w.heap.size, 3, none⟩ = some (.slice aa t.all.length ca) := by rw [Lib.cell_of_heap hk]; rfl
  have c1_4 : w2.cell? ⟨w.heap.size, 4, none⟩ = some (.slice ac t.ch.length cc) := by rw [Lib.cell_of_heap hk]; rfl
  have c1_5 : w2.cell? ⟨w.heap.size, 5, none⟩ = some (.int .i64 t.nd) := by rw [Lib.cell_of_heap hk]; rfl
  have c1_6 : w2.cell? ⟨w.heap.size, 6, none⟩ = some (.int .i64 t.lf) := by rw [Lib.cell_of_heap hk]; rfl
  have c1_7 : w2.cell? ⟨w.heap.size, 7, none⟩ = some (.int .i64 t.sq) := by rw [Lib.cell_of_heap hk]; rfl
  clear hk
  go_wp2_with fail
  clear c1_0 c1_1 c1_2 c1_3 c1_4 c1_5 c1_6 c1_7
  refine (HFi.out _ (bTS B1.out B2.out)).mono ?_
  rintro e w3 ⟨rfl, hb⟩
  have B3 : Hid (Below w2.heap.size w2 w3) := hb
  clear hb 
  go_wp2_with fail
  refine wp_region_quiet (C := fun w' => Below w3.heap.size w3 w') (by kernel_rfl) (by kernel_rfl) ((Below.refl _ _).drew) ?_
  dsimp only
  repeat (first
    | go_big_quiet_skip
    | (go_big_quiet_want
       apply Exists.intro
       refine ⟨fun W' hW' => ?_, ?_⟩
       · have hw : Below w3.heap.size w3 W' := hW'
         go_simp
         first
           | done
           | rfl
       go_big_quiet_on
       try simp only [Act.put, List.setIfInBounds_toArray, List.set_cons_zero, List.set_cons_succ]))
  refine wpQuiet_nil ?_
  intro wq hqw
  have Bq : Hid (Below w3.heap.size w3 wq) := hqw
  clear hqw
  have hk := C1.out wq (bTS (bTS B2.out B3.out) Bq.out)
  have c1_0 : wq.cell? ⟨w.heap.size, 0, none⟩ = some (.string t.n) := by rw [Lib.cell_of_heap hk]; rfl
  have c1_1 : wq.cell? ⟨w.heap.size, 1, none⟩ = some (.string t.p) := by rw [Lib.cell_of_heap hk]; rfl
  have c1_2 : wq.cell? ⟨w.heap.size, 2, none⟩ = some (.slice ao t.own.length co) := by rw [Lib.cell_of_heap hk]; rfl
  have c1_3 : wq.cell? ⟨w.heap.size, 3, none⟩ = some (.slice aa t.all.length ca) := by rw [Lib.cell_of_heap hk]; rfl
  have c1_4 : wq.cell? ⟨w.heap.size, 4, none⟩ = some (.slice ac t.ch.length cc) := by rw [Lib.cell_of_heap hk]; rfl
  have c1_5 : wq.cell? ⟨w.heap.size, 5, none⟩ = some (.int .i64 t.nd) := by rw [Lib.cell_of_heap hk]; rfl
  have c1_6 : wq.cell? ⟨w.heap.size, 6, none⟩ = some (.int .i64 t.lf) := by rw [Lib.cell_of_heap hk]; rfl
  have c1_7 : wq.cell? ⟨w.heap.size, 7, none⟩ = some (.int .i64 t.sq) := by rw [Lib.cell_of_heap hk]; rfl
  clear hk
  go_wp2_with fail
  clear c1_0 c1_1 c1_2 c1_3 c1_4 c1_5 c1_6 c1_7
  refine (HKe.out _ (bTS (bTS (bTS B1.out B2.out) B3.out) Bq.out)).mono ?_
  rintro e w4 ⟨rfl, hb⟩
  have B4 : Hid (Below wq.heap.size wq w4) := hb
  clear hb 
  have HBz : Hid (Below w.heap.size w w4) := (bTS (bTS (bTS (bTS B1.out B2.out) B3.out) Bq.out) B4.out)
  go_wp2
  go_ret
  exact ⟨rfl, HBz.out⟩
set_option maxRecDepth 100000 in
set_option maxHeartbeats 4000000 in
theorem set_same {base : Nat} {w : World} {s m : Nat} {E : List (ByteArray × Nat)} {X : Nat → Kp} (h : StV base w s m E X) (t : Ty) (vo va vc : Value) (hr : IsTy w t vo va vc) (hnm : NmT t) (hq : SmT t) (hT : UT w) (hM : ML w) (hc : chkT t = true) {g0 : Nat} (hL : lkS E (fldB t.n) = some g0) (hq0 : SmT (X g0).t) (hs : (X g0).t = t) :
    Calls Tryz.prog 20 #[stP s, tyV t vo va vc] w fun e w' => e = .returned (.int .i64 0) ∧ Below w.heap.size w w' := by
  obtain ⟨ao, co, rfl⟩ := hr.1.form
  obtain ⟨aa, ca, rfl⟩ := hr.2.1.form
  obtain ⟨ac, cc, rfl⟩ := hr.2.2.form
  have HCh : Hid (∀ W, Below w.heap.size w W → Calls Tryz.prog 37 #[(tyV t (.slice ao t.own.length co) (.slice aa t.all.length ca) (.slice ac t.ch.length cc))] W fun e w' => e = .returned (.bool true) ∧ Below W.heap.size W w') := fun W hb => hc ▸ checkT_any t _ _ _ W (hr.below hb) hnm (Utf8Tabs_below hT hb) (ML_below hM hb)
  have HFi : Hid (∀ W, Below w.heap.size w W → Calls Tryz.prog 29 #[stP s, .string t.n] W fun e w' => e = .returned (.pointer (some ⟨g0, 0, none⟩)) ∧ Below W.heap.size W w') := fun W hb => by
    have := find_any (h.below hb) t.n hnm.n (Utf8Tabs_below hT hb)
    rw [hL] at this
    exact this
  obtain ⟨-, wo, wa, wc, h0, ho⟩ := h.kp _ (lkS_mem hL)
  dsimp only at h0 ho
  obtain ⟨bo, bp, rfl⟩ := ho.is.1.form
  obtain ⟨ba, bq, rfl⟩ := ho.is.2.1.form
  obtain ⟨bc, br, rfl⟩ := ho.is.2.2.form
  have HK : Hid (∀ W, Below w.heap.size w W → BxT g0 (X g0).t (.slice bo (X g0).t.own.length bp) (.slice ba (X g0).t.all.length bq) (.slice bc (X g0).t.ch.length br) W) := fun W hb => by
    have hk := (hb.block _ (Array.getElem?_eq_some_iff.1 h0).1).trans h0
    have c : ∀ j, W.cell? ⟨g0, j, none⟩ = (kpA (X g0) (.slice bo (X g0).t.own.length bp) (.slice ba (X g0).t.all.length bq) (.slice bc (X g0).t.ch.length br))[j]? := fun j => by rw [Lib.cell_of_heap hk]
    exact ⟨⟨c 0, c 1, c 2, c 3⟩, c 4, c 5, c 6, c 7⟩
  have HSm : Hid (∀ W, Below w.heap.size w W → Calls Tryz.prog 50 #[tyV (X g0).t (.slice bo (X g0).t.own.length bp) (.slice ba (X g0).t.all.length bq) (.slice bc (X g0).t.ch.length br), (tyV t (.slice ao t.own.length co) (.slice aa t.all.length ca) (.slice ac t.ch.length cc))] W fun e w' => e = .returned (.bool true) ∧ Below W.heap.size W w') := fun W hb => by
    obtain ⟨u1, u2, u3⟩ := hq0
    obtain ⟨z1, z2, z3⟩ := hq
    have := sameT_any ⟨(X g0).t, bo, bp, ba, bq, bc, br⟩ ⟨t, ao, co, aa, ca, ac, cc⟩ W (ho.is.below hb) (hr.below hb) ⟨by dsimp only; omega, by dsimp only; omega, by dsimp only; omega⟩ ⟨by dsimp only; omega, by dsimp only; omega, by dsimp only; omega⟩
    rw [show sameT (LT.t ⟨(X g0).t, bo, bp, ba, bq, bc, br⟩) (LT.t ⟨t, ao, co, aa, ca, ac, cc⟩) = true from (sameT_iff _ _).2 hs] at this
    exact this
  obtain ⟨t0, hX⟩ : ∃ t0, t0 = (X g0).t := ⟨_, rfl⟩
  rw [← hX] at HK HSm
  clear h hr hnm hT hM hc hL h0 ho hq hq0 hs hX
  obtain ⟨w1, hw1⟩ : ∃ w1, w1 = w.alloc (.cells (tyA t (.slice ao t.own.length co) (.slice aa t.all.length ca) (.slice ac t.ch.length cc)) 35) := ⟨_, rfl⟩
  have B1 : Hid (Below w.heap.size w w1) := by show Below _ _ _; rw [hw1]; exact al_b _ _
  have hn1 : w1.heap[w.heap.size]? = some (.cells (tyA t (.slice ao t.own.length co) (.slice aa t.all.length ca) (.slice ac t.ch.length cc)) 35 (0, 0)) := by rw [hw1]; exact new_at _ _
  have C1 : Hid (∀ W, Below w1.heap.size w1 W → W.heap[w.heap.size]? = some (.cells (tyA t (.slice ao t.own.length co) (.slice aa t.all.length ca) (.slice ac t.ch.length cc)) 35 (0, 0))) := fun W h => (h.block _ (Array.getElem?_eq_some_iff.1 hn1).1).trans hn1
  clear hn1
  have hk := C1.out w1 (Below.refl _ _)
  have c1_0 : w1.cell? ⟨w.heap.size, 0, none⟩ = some (.string t.n) := by rw [Lib.cell_of_heap hk]; rfl
  have c1_1 : w1.cell? ⟨w.heap.size, 1, none⟩ = some (.string t.p) := by rw [Lib.cell_of_heap hk]; rfl
  have c1_2 : w1.cell? ⟨w.heap.size, 2, none⟩ = some (.slice ao t.own.length co) := by rw [Lib.cell_of_heap hk]; rfl
  have c1_3 : w1.cell? ⟨w.heap.size, 3, none⟩ = some (.slice aa t.all.length ca) := by rw [Lib.cell_of_heap hk]; rfl
  have c1_4 : w1.cell? ⟨w.heap.size, 4, none⟩ = some (.slice ac t.ch.length cc) := by rw [Lib.cell_of_heap hk]; rfl
  have c1_5 : w1.cell? ⟨w.heap.size, 5, none⟩ = some (.int .i64 t.nd) := by rw [Lib.cell_of_heap hk]; rfl
  have c1_6 : w1.cell? ⟨w.heap.size, 6, none⟩ = some (.int .i64 t.lf) := by rw [Lib.cell_of_heap hk]; rfl
  have c1_7 : w1.cell? ⟨w.heap.size, 7, none⟩ = some (.int .i64 t.sq) := by rw [Lib.cell_of_heap hk]; rfl
  clear hk
  rw [hw1] at c1_0 c1_1 c1_2 c1_3 c1_4 c1_5 c1_6 c1_7
  go_enter Tryz.func20, Tryz.ntmps20
  go_wp2_with fail
  rw [← hw1]
  clear hw1
  clear c1_0 c1_1 c1_2 c1_3 c1_4 c1_5 c1_6 c1_7
  refine (HCh.out _ B1.out).mono ?_
  rintro e w2 ⟨rfl, hb⟩
  have B2 : Hid (Below w1.heap.size w1 w2) := hb
  clear hb 
  have hk := C1.out w2 B2.out
  have c1_0 : w2.cell? ⟨w.heap.size, 0, none⟩ = some (.string t.n) := by rw [Lib.cell_of_heap hk]; rfl
  have c1_1 : w2.cell? ⟨w.heap.size, 1, none⟩ = some (.string t.p) := by rw [Lib.cell_of_heap hk]; rfl
  have c1_2 : w2.cell? ⟨w.heap.size, 2, none⟩ = some (.slice ao t.own.length co) := by rw [Lib.cell_of_heap hk]; rfl
  have c1_3 : w2.cell? ⟨w.heap.size, 3, none⟩ = some (.slice aa t.all.length ca) := by rw [Lib.cell_of_heap hk]; rfl
  have c1_4 : w2.cell? ⟨w.heap.size, 4, none⟩ = some (.slice ac t.ch.length cc) := by rw [Lib.cell_of_heap hk]; rfl
  have c1_5 : w2.cell? ⟨w.heap.size, 5, none⟩ = some (.int .i64 t.nd) := by rw [Lib.cell_of_heap hk]; rfl
  have c1_6 : w2.cell? ⟨w.heap.size, 6, none⟩ = some (.int .i64 t.lf) := by rw [Lib.cell_of_heap hk]; rfl
  have c1_7 : w2.cell? ⟨w.heap.size, 7, none⟩ = some (.int .i64 t.sq) := by rw [Lib.cell_of_heap hk]; rfl
  clear hk
  go_wp2_with fail
  clear c1_0 c1_1 c1_2 c1_3 c1_4 c1_5 c1_6 c1_7
  refine (HFi.out _ (bTS B1.out B2.out)).mono ?_
  rintro e w3 ⟨rfl, hb⟩
  have B3 : Hid (Below w2.heap.size w2 w3) := hb
  clear hb 
  go_wp2_with fail
  refine wp_region_quiet (C := fun w' => Below w3.heap.size w3 w') (by kernel_rfl) (by kernel_rfl) ((Below.refl _ _).drew) ?_
  dsimp only
  repeat (first
    | go_big_quiet_skip
    | (go_big_quiet_want
       apply Exists.intro
       refine ⟨fun W' hW' => ?_, ?_⟩
       · have hw : Below w3.heap.size w3 W' := hW'
         have hkT := C1.out W' (bTS (bTS B2.out B3.out) hw)
         obtain ⟨⟨s0, s1, s2, s3⟩, s4, s5, s6, s7⟩ := BxT.of hkT
         obtain ⟨⟨r0, r1, r2, r3⟩, r4, r5, r6, r7⟩ := HK.out W' (bTS (bTS (bTS B1.out B2.out) B3.out) hw)
         clear hkT
         go_simp
         first
           | done
           | rfl
           | (go_at_call 50; (with_reducible refine Calls.mono (HSm.out W' (bTS (bTS (bTS B1.out B2.out) B3.out) hw)) ?_); rintro e w'' ⟨rfl, hb⟩; exact ⟨rfl, hw.trans (hb.mono hw.size)⟩)
       go_big_quiet_on
       try simp only [Act.put, List.setIfInBounds_toArray, List.set_cons_zero, List.set_cons_succ]))
  refine wpQuiet_nil ?_
  intro wq hqw
  have Bq : Hid (Below w3.heap.size w3 wq) := hqw
  clear hqw
  have HBz : Hid (Below w.heap.size w wq) := (bTS (bTS (bTS B1.out B2.out) B3.out) Bq.out)
  go_wp2
  go_ret
  exact ⟨rfl, HBz.out⟩
set_option maxRecDepth 100000 in
set_option maxHeartbeats 4000000 in
theorem set_new1 {base : Nat} {w : World} {s m : Nat} {E : List (ByteArray × Nat)} {X : Nat → Kp} (h : StV base w s m E X) (t : Ty) (vo va vc : Value) (hr : IsTy w t vo va vc) (hnm : NmT t) (hq : SmT t) (hT : UT w) (hM : ML w) (hc : chkT t = true) {g0 : Nat} (hL : lkS E (fldB t.n) = some g0) (hq0 : SmT (X g0).t) (hs : (X g0).t ≠ t) (hb0 : base ≤ w.heap.size) :
    Calls Tryz.prog 20 #[stP s, tyV t vo va vc] w fun e w' => KeP base w s m E X t e w' := by
  obtain ⟨ao, co, rfl⟩ := hr.1.form
  obtain ⟨aa, ca, rfl⟩ := hr.2.1.form
  obtain ⟨ac, cc, rfl⟩ := hr.2.2.form
  have HCh : Hid (∀ W, Below w.heap.size w W → Calls Tryz.prog 37 #[(tyV t (.slice ao t.own.length co) (.slice aa t.all.length ca) (.slice ac t.ch.length cc))] W fun e w' => e = .returned (.bool true) ∧ Below W.heap.size W w') := fun W hb => hc ▸ checkT_any t _ _ _ W (hr.below hb) hnm (Utf8Tabs_below hT hb) (ML_below hM hb)
  have HFi : Hid (∀ W, Below w.heap.size w W → Calls Tryz.prog 29 #[stP s, .string t.n] W fun e w' => e = .returned (.pointer (some ⟨g0, 0, none⟩)) ∧ Below W.heap.size W w') := fun W hb => by
    have := find_any (h.below hb) t.n hnm.n (Utf8Tabs_below hT hb)
    rw [hL] at this
    exact this
  obtain ⟨-, wo, wa, wc, h0, ho⟩ := h.kp _ (lkS_mem hL)
  dsimp only at h0 ho
  obtain ⟨bo, bp, rfl⟩ := ho.is.1.form
  obtain ⟨ba, bq, rfl⟩ := ho.is.2.1.form
  obtain ⟨bc, br, rfl⟩ := ho.is.2.2.form
  have HK : Hid (∀ W, Below w.heap.size w W → BxT g0 (X g0).t (.slice bo (X g0).t.own.length bp) (.slice ba (X g0).t.all.length bq) (.slice bc (X g0).t.ch.length br) W) := fun W hb => by
    have hk := (hb.block _ (Array.getElem?_eq_some_iff.1 h0).1).trans h0
    have c : ∀ j, W.cell? ⟨g0, j, none⟩ = (kpA (X g0) (.slice bo (X g0).t.own.length bp) (.slice ba (X g0).t.all.length bq) (.slice bc (X g0).t.ch.length br))[j]? := fun j => by rw [Lib.cell_of_heap hk]
    exact ⟨⟨c 0, c 1, c 2, c 3⟩, c 4, c 5, c 6, c 7⟩
  have HSm : Hid (∀ W, Below w.heap.size w W → Calls Tryz.prog 50 #[tyV (X g0).t (.slice bo (X g0).t.own.length bp) (.slice ba (X g0).t.all.length bq) (.slice bc (X g0).t.ch.length br), (tyV t (.slice ao t.own.length co) (.slice aa t.all.length ca) (.slice ac t.ch.length cc))] W fun e w' => e = .returned (.bool false) ∧ Below W.heap.size W w') := fun W hb => by
    obtain ⟨u1, u2, u3⟩ := hq0
    obtain ⟨z1, z2, z3⟩ := hq
    have := sameT_any ⟨(X g0).t, bo, bp, ba, bq, bc, br⟩ ⟨t, ao, co, aa, ca, ac, cc⟩ W (ho.is.below hb) (hr.below hb) ⟨by dsimp only; omega, by dsimp only; omega, by dsimp only; omega⟩ ⟨by dsimp only; omega, by dsimp only; omega, by dsimp only; omega⟩
    rw [show sameT (LT.t ⟨(X g0).t, bo, bp, ba, bq, bc, br⟩) (LT.t ⟨t, ao, co, aa, ca, ac, cc⟩) = false from Bool.eq_false_iff.2 fun hh => hs ((sameT_iff _ _).1 hh)] at this
    exact this
  have HKe : Hid (∀ W, Below w.heap.size w W → Calls Tryz.prog 39 #[stP s, (tyV t (.slice ao t.own.length co) (.slice aa t.all.length ca) (.slice ac t.ch.length cc))] W fun e w' => KeP base W s m E X t e w') := fun W hb => keep_any (h.below hb) (Nat.le_trans hb0 hb.size) t _ _ _ (hr.below hb) hq.1 hq.2.1 hq.2.2 hnm.n (Utf8Tabs_below hT hb) (fun hh => by rw [hL] at hh; cases hh)
  obtain ⟨t0, hX⟩ : ∃ t0, t0 = (X g0).t := ⟨_, rfl⟩
  rw [← hX] at HK HSm
  clear h hr hnm hT hM hc hL h0 ho hq hq0 hs hX hb0
  obtain ⟨w1, hw1⟩ : ∃ w1, w1 = w.alloc (.cells (tyA t (.slice ao t.own.length co) (.slice aa t.all.length ca) (.slice ac t.ch.length cc)) 35) := ⟨_, rfl⟩
  have B1 : Hid (Below w.heap.size w w1) := by show Below _ _ _; rw [hw1]; exact al_b _ _
  have hn1 : w1.heap[w.heap.size]? = some (.cells (tyA t (.slice ao t.own.length co) (.slice aa t.all.length ca) (.slice ac t.ch.length cc)) 35 (0, 0)) := by rw [hw1]; exact new_at _ _
  have C1 : Hid (∀ W, Below w1.heap.size w1 W → W.heap[w.heap.size]? = some (.cells (tyA t (.slice ao t.own.length co) (.slice aa t.all.length ca) (.slice ac t.ch.length cc)) 35 (0, 0))) := fun W h => (h.block _ (Array.getElem?_eq_some_iff.1 hn1).1).trans hn1
  clear hn1
  have hk := C1.out w1 (Below.refl _ _)
  have c1_0 : w1.cell? ⟨w.heap.size, 0, none⟩ = some (.string t.n) := by rw [Lib.cell_of_heap hk]; rfl
  have c1_1 : w1.cell? ⟨w.heap.size, 1, none⟩ = some (.string t.p) := by rw [Lib.cell_of_heap hk]; rfl
  have c1_2 : w1.cell? ⟨w.heap.size, 2, none⟩ = some (.slice ao t.own.length co) := by rw [Lib.cell_of_heap hk]; rfl
  have c1_3 : w1.cell? ⟨w.heap.size, 3, none⟩ = some (.slice aa t.all.length ca) := by rw [Lib.cell_of_heap hk]; rfl
  have c1_4 : w1.cell? ⟨w.heap.size, 4, none⟩ = some (.slice ac t.ch.length cc) := by rw [Lib.cell_of_heap hk]; rfl
  have c1_5 : w1.cell? ⟨w.heap.size, 5, none⟩ = some (.int .i64 t.nd) := by rw [Lib.cell_of_heap hk]; rfl
  have c1_6 : w1.cell? ⟨w.heap.size, 6, none⟩ = some (.int .i64 t.lf) := by rw [Lib.cell_of_heap hk]; rfl
  have c1_7 : w1.cell? ⟨w.heap.size, 7, none⟩ = some (.int .i64 t.sq) := by rw [Lib.cell_of_heap hk]; rfl
  clear hk
  rw [hw1] at c1_0 c1_1 c1_2 c1_3 c1_4 c1_5 c1_6 c1_7
  go_enter Tryz.func20, Tryz.ntmps20
  go_wp2_with fail
  rw [← hw1]
  clear hw1
  clear c1_0 c1_1 c1_2 c1_3 c1_4 c1_5 c1_6 c1_7
  refine (HCh.out _ B1.out).mono ?_
  rintro e w2 ⟨rfl, hb⟩
  have B2 : Hid (Below w1.heap.size w1 w2) := hb
  clear hb 
  have hk := C1.out w2 B2.out
  have c1_0 : w2.cell? ⟨w.heap.size, 0, none⟩ = some (.string t.n) := by rw [Lib.cell_of_heap hk]; rfl
  have c1_1 : w2.cell? ⟨w.heap.size, 1, none⟩ = some (.string t.p) := by rw [Lib.cell_of_heap hk]; rfl
  have c1_2 : w2.cell? ⟨w.heap.size, 2, none⟩ = some (.slice ao t.own.length co) := by rw [Lib.cell_of_heap hk]; rfl
  have c1_3 : w2.cell? ⟨w.heap.size, 3, none⟩ = some (.slice aa t.all.length ca) := by rw [Lib.cell_of_heap hk]; rfl
  have c1_4 : w2.cell? ⟨w.heap.size, 4, none⟩ = some (.slice ac t.ch.length cc) := by rw [Lib.cell_of_heap hk]; rfl
  have c1_5 : w2.cell? ⟨w.heap.size, 5, none⟩ = some (.int .i64 t.nd) := by rw [Lib.cell_of_heap hk]; rfl
  have c1_6 : w2.cell? ⟨w.heap.size, 6, none⟩ = some (.int .i64 t.lf) := by rw [Lib.cell_of_heap hk]; rfl
  have c1_7 : w2.cell? ⟨w.heap.size, 7, none⟩ = some (.int .i64 t.sq) := by rw [Lib.cell_of_heap hk]; rfl
  clear hk
  go_wp2_with fail
  clear c1_0 c1_1 c1_2 c1_3 c1_4 c1_5 c1_6 c1_7
  refine (HFi.out _ (bTS B1.out B2.out)).mono ?_
  rintro e w3 ⟨rfl, hb⟩
  have B3 : Hid (Below w2.heap.size w2 w3) := hb
  clear hb 
  go_wp2_with fail
  refine wp_region_quiet (C := fun w' => Below w3.heap.size w3 w') (by kernel_rfl) (by kernel_rfl) ((Below.refl _ _).drew) ?_
  dsimp only
  repeat (first
    | go_big_quiet_skip
    | (go_big_quiet_want
       apply Exists.intro
       refine ⟨fun W' hW' => ?_, ?_⟩
       · have hw : Below w3.heap.size w3 W' := hW'
         have hkT := C1.out W' (bTS (bTS B2.out B3.out) hw)
         obtain ⟨⟨s0, s1, s2, s3⟩, s4, s5, s6, s7⟩ := BxT.of hkT
         obtain ⟨⟨r0, r1, r2, r3⟩, r4, r5, r6, r7⟩ := HK.out W' (bTS (bTS (bTS B1.out B2.out) B3.out) hw)
         clear hkT
         go_simp
         first
           | done
           | rfl
           | (go_at_call 50; (with_reducible refine Calls.mono (HSm.out W' (bTS (bTS (bTS B1.out B2.out) B3.out) hw)) ?_); rintro e w'' ⟨rfl, hb⟩; exact ⟨rfl, hw.trans (hb.mono hw.size)⟩)
       go_big_quiet_on
       try simp only [Act.put, List.setIfInBounds_toArray, List.set_cons_zero, List.set_cons_succ]))
  refine wpQuiet_nil ?_
  intro wq hqw
  have Bq : Hid (Below w3.heap.size w3 wq) := hqw
  clear hqw
  have hk := C1.out wq (bTS (bTS B2.out B3.out) Bq.out)
  have c1_0 : wq.cell? ⟨w.heap.size, 0, none⟩ = some (.string t.n) := by rw [Lib.cell_of_heap hk]; rfl
  have c1_1 : wq.cell? ⟨w.heap.size, 1, none⟩ = some (.string t.p) := by rw [Lib.cell_of_heap hk]; rfl
  have c1_2 : wq.cell? ⟨w.heap.size, 2, none⟩ = some (.slice ao t.own.length co) := by rw [Lib.cell_of_heap hk]; rfl
  have c1_3 : wq.cell? ⟨w.heap.size, 3, none⟩ = some (.slice aa t.all.length ca) := by rw [Lib.cell_of_heap hk]; rfl
  have c1_4 : wq.cell? ⟨w.heap.size, 4, none⟩ = some (.slice ac t.ch.length cc) := by rw [Lib.cell_of_heap hk]; rfl
  have c1_5 : wq.cell? ⟨w.heap.size, 5, none⟩ = some (.int .i64 t.nd) := by rw [Lib.cell_of_heap hk]; rfl
  have c1_6 : wq.cell? ⟨w.heap.size, 6, none⟩ = some (.int .i64 t.lf) := by rw [Lib.cell_of_heap hk]; rfl
  have c1_7 : wq.cell? ⟨w.heap.size, 7, none⟩ = some (.int .i64 t.sq) := by rw [Lib.cell_of_heap hk]; rfl
  clear hk
  go_wp2_with fail
  clear c1_0 c1_1 c1_2 c1_3 c1_4 c1_5 c1_6 c1_7
  refine (HKe.out _ (bTS (bTS (bTS B1.out B2.out) B3.out) Bq.out)).mono ?_
  rintro e wa ⟨g, rfl, hSa, hga, hsa⟩
  have HEnd : Hid (KeP base w s m E X t (.returned (.int .i64 0)) wa) := ⟨g, rfl, hSa, Nat.le_trans (Below.size (bTS (bTS (bTS B1.out B2.out) B3.out) Bq.out)) hga, (Stp.of _ (bTS (bTS (bTS B1.out B2.out) B3.out) Bq.out)).trans hsa⟩
  clear hSa hga hsa HKe HFi HCh HK HSm
  go_wp2
  go_ret
  exact HEnd.out
end Go.Proofs.YtlndgepoekllkaaGreatDoor
/- A store beside what the document says that it keeps, in memory. -/
namespace Go.Proofs.YtlndgepoekllkaaGreatDoor
open Go.RowKit Go.ChangeMaps

theorem one_okQ {t : Ty} (h : oneB t = true) : NmQ t ∧ NmT t ∧ SmT t ∧ t.n.size ≤ 200 := by
  have h0 := oneB_ok h
  obtain ⟨hn, hs1, hs2, hs3⟩ := h0
  unfold oneB at h
  simp only [Bool.and_eq_true, decide_eq_true_eq] at h
  obtain ⟨h1, h2, h3, h4, h5, h6⟩ := h
  have key : ∀ l : List Fd, fewF l = true → NmR l := fun l h y hy => by
    unfold fewF at h
    rw [decide_eq_true_eq] at h
    obtain ⟨k, hk, rfl⟩ := List.mem_iff_getElem.1 hy
    have := (h k hk).2
    omega
  exact ⟨⟨by omega, by omega, fun s hs => by have := h4 s hs; omega, key _ h5, key _ h6, hn.lo, hn.la, hn.lc⟩, hn, ⟨hs1, hs2, by omega⟩, h1⟩
theorem Stp.same {w w' : World} {F F' : Nat → Prop} (h : Stp w F F' w') : Stp w F F w' := ⟨h.os, h.tape, h.output, h.size, h.block, fun _ h => .inl h⟩
theorem Stp.rfl' (w : World) (F : Nat → Prop) : Stp w F F w := ⟨rfl, rfl, rfl, Nat.le_refl _, fun _ _ _ => rfl, fun _ h => .inl h⟩
/-- What holds, whatever is written into the blocks F. -/
def Pst (F : Nat → Prop) (w : World) (P : World → Prop) : Prop := ∀ W, Stp w F F W → P W
theorem Pst.get {F : Nat → Prop} {w : World} {P : World → Prop} (h : Pst F w P) : P w := h _ (Stp.rfl' _ _)
theorem Pst.move {F F' : Nat → Prop} {w w1 : World} {P : World → Prop} (h : Pst F w P) (hs : Stp w F F' w1) : Pst F' w1 P := fun _ hW => h _ (hs.trans hW).same
theorem Pst.below {F : Nat → Prop} {w w1 : World} {P : World → Prop} (h : Pst F w P) (hb : Below w.heap.size w w1) : Pst F w1 P := h.move (Stp.of F hb)
theorem row_stp {w W : World} {F : Nat → Prop} {sz n k c : Nat} {a : Option Addr} {xs : List Value} (h : IsRow w sz (.slice a k c) n xs) (hs : Stp w F F W) (hf : n ≠ 0 → ∀ d, a = some d → ¬ F d.block) : IsRow W sz (.slice a k c) n xs := by
  refine ⟨h.1, ?_⟩
  rcases h.2 with h0 | ⟨b, off, cap, hv, hlt, hc, hm, hcell⟩
  · exact .inl h0
  · by_cases hn : n = 0
    · simp only [Value.slice.injEq] at hv
      exact .inl ⟨hn, _, _, by rw [hv.2.1, hn]⟩
    · have hb : ¬ F b := by
        simp only [Value.slice.injEq] at hv
        exact hf hn _ hv.1
      refine .inr ⟨b, off, cap, hv, Nat.lt_of_lt_of_le hlt hs.size, hc, hm, fun j u hu => ?_⟩
      have := hcell j u hu
      unfold World.cell? at this ⊢
      dsimp only at this ⊢
      rw [hs.block b hlt hb]
      exact this
/-- The store s, and the row v of what the document says that it keeps. -/
structure RS (w0 w : World) (s m : Nat) (E : List (ByteArray × Nat)) (X : Nat → Kp) (v : Value) (M : List KR) : Prop where
  st : StV w0.heap.size w s m E X
  ks : Pst (SF m E) w fun W => IsKs W v M
  bel : Below w0.heap.size w0 w
  pl : PlI E X M
  le : E.length ≤ 200
theorem StV.sf {base : Nat} {w : World} {s m : Nat} {E : List (ByteArray × Nat)} {X : Nat → Kp} (h : StV base w s m E X) {k : Nat} (hk : SF m E k) : base ≤ k ∧ k < w.heap.size := by
  rcases hk with rfl | hk
  · exact ⟨h.lm, h.mp.lt⟩
  · obtain ⟨p, hp, rfl⟩ := List.mem_map.1 hk
    obtain ⟨h1, _, _, _, h2, _⟩ := h.kp p hp
    exact ⟨h1, (Array.getElem?_eq_some_iff.1 h2).1⟩
theorem RS.below {w0 w w1 : World} {s m : Nat} {E : List (ByteArray × Nat)} {X : Nat → Kp} {v : Value} {M : List KR} (h : RS w0 w s m E X v M) (hb : Below w.heap.size w w1) : RS w0 w1 s m E X v M :=
  ⟨h.st.below hb, h.ks.below hb, h.bel.trans (hb.mono h.bel.size), h.pl, h.le⟩
theorem pst_new {w w1 : World} {F : Nat → Prop} {sz n k c : Nat} {a : Option Addr} {xs : List Value} (hF : ∀ k, F k → k < w.heap.size) (hr : IsRow w1 sz (.slice a k c) n xs) (hN : NewA w.heap.size a) : Pst F w1 fun W => IsRow W sz (.slice a k c) n xs :=
  fun _ hW => row_stp hr hW fun _ d hd hf => by have := hN d hd; have := hF _ hf; omega
theorem pst_arg {w0 w : World} {F : Nat → Prop} {sz sz' n k k' c c' : Nat} {a : Option Addr} {xs xs' : List Value} (hF : ∀ k, F k → w0.heap.size ≤ k) (h0 : IsRow w0 sz' (.slice a k' c') n xs') (hr : IsRow w sz (.slice a k c) n xs) : Pst F w fun W => IsRow W sz (.slice a k c) n xs :=
  fun _ hW => row_stp hr hW fun hn d hd hf => by
    obtain ⟨b, off, cap, hv, hlt, -⟩ := h0.open (by omega)
    simp only [Value.slice.injEq] at hv
    rw [hd] at hv
    have := hF _ hf
    rw [Option.some.inj hv.1] at this
    dsimp only at this
    omega
theorem wthR_mem {M : List KR} {z : Int} {k x : KR} (hz : z < 0 ∨ ∃ i : Nat, z = (i : Int)) (hx : x ∈ wthR M z k) : x = k ∨ x ∈ M := by
  rcases hz with hz | ⟨i, rfl⟩
  · obtain ⟨A, B, hAB, hw, -, -⟩ := wthR_ins (M := M) (k := k) hz
    rw [hw] at hx
    rw [hAB]
    simp only [List.mem_append, List.mem_cons] at hx ⊢
    rcases hx with hx | rfl | hx
    · exact .inr (.inl hx)
    · exact .inl rfl
    · exact .inr (.inr hx)
  · rw [wthR_set] at hx
    rcases List.mem_or_eq_of_mem_set hx with hx | rfl
    · exact .inr hx
    · exact .inl rfl
theorem pst_wth {w w1 : World} {F : Nat → Prop} {v : Value} {M : List KR} {z : Int} {k : KR} {a : Option Addr} {c : Nat} (hF : ∀ k, F k → k < w.heap.size) (hks : Pst F w fun W => IsKs W v M) (hb : Below w.heap.size w w1) (hz : z < 0 ∨ ∃ i : Nat, z = (i : Int))
    (hrow : IsRow w1 10 (.slice a (wthR M z k).length c) (wthR M z k).length (kCells (wthR M z k))) (hN : NewA w.heap.size a) (hk : Pst F w1 fun W => IsTy W k.y.t k.y.vo k.y.va k.y.vc ∧ IsRow W 1 k.vw k.l.length (iCells k.l)) : Pst F w1 fun W => IsKs W (.slice a (wthR M z k).length c) (wthR M z k) := fun W hW =>
  ⟨pst_new hF hrow hN W hW, fun x hx => by
    rcases wthR_mem hz hx with rfl | hx
    · exact hk W hW
    · exact ((hks.below hb) W hW).2 x hx⟩
/-- A copy of a type that came in is there, whatever is written. -/
theorem pst_ref {w0 w w1 : World} {F : Nat → Prop} {o y : LT} (hlo : ∀ k, F k → w0.heap.size ≤ k) (hF : ∀ k, F k → k < w.heap.size) (h0 : IsTy w0 o.t o.vo o.va o.vc) (hy : y.t = o.t) (hN : NewA w.heap.size y.ao ∧ NewA w.heap.size y.aa ∧ y.ac = o.ac) (hI : IsTy w1 y.t y.vo y.va y.vc) : Pst F w1 fun W => IsTy W y.t y.vo y.va y.vc := fun W hW => by
  obtain ⟨t, ao, co, aa, ca, ac, cc⟩ := y
  obtain ⟨t', ao', co', aa', ca', ac', cc'⟩ := o
  dsimp only at hy hN
  subst hy
  obtain ⟨n1, n2, n3⟩ := hN
  subst n3
  exact ⟨pst_new hF hI.1 n1 W hW, pst_new hF hI.2.1 n2 W hW, pst_arg hlo h0.2.2 hI.2.2 W hW⟩
theorem pst_and {F : Nat → Prop} {w : World} {P Q : World → Prop} (h : Pst F w P) (g : Pst F w Q) : Pst F w fun W => P W ∧ Q W := fun W hW => ⟨h W hW, g W hW⟩
theorem pst_nil {F : Nat → Prop} {w : World} : Pst F w fun W => IsRow W 1 (.slice none 0 0) 0 (iCells []) := fun _ _ => IsRow.nil _ _
theorem pst_true {F : Nat → Prop} {w : World} {P : World → Prop} (h : ∀ W, P W) : Pst F w P := fun W _ => h W
/-- A store's call that writes its map alone. -/
theorem stp_map {w w' : World} {m : Nat} {E E' : List (ByteArray × Nat)} (h : Stp w (fun k => k = m) (fun k => k = m) w') (hE : ∀ p ∈ E', p.2 ∈ E.map (·.2) ∨ w.heap.size ≤ p.2) : Stp w (SF m E) (SF m E') w' :=
  ⟨h.os, h.tape, h.output, h.size, fun k hk hn => h.block k hk fun e => hn (.inl e), fun k hk => by
    rcases hk with rfl | hk
    · exact .inl (.inl rfl)
    · obtain ⟨p, hp, rfl⟩ := List.mem_map.1 hk
      rcases hE p hp with h1 | h1
      · exact .inl (.inr h1)
      · exact .inr h1⟩
theorem stp_sf {w w' : World} {m : Nat} {E : List (ByteArray × Nat)} {G G' : Nat → Prop} (h : Stp w G G' w') (hG : ∀ k, G k → SF m E k) : Stp w (SF m E) (SF m E) w' :=
  ⟨h.os, h.tape, h.output, h.size, fun k hk hn => h.block k hk fun e => hn (hG k e), fun _ h => .inl h⟩
theorem stS_blk {w : World} {E : List (ByteArray × Nat)} {k : ByteArray} {g : Nat} (hg : w.heap.size ≤ g) : ∀ p ∈ stS E k g, p.2 ∈ E.map (·.2) ∨ w.heap.size ≤ p.2 := fun p hp => by
  rcases stS_mem hp with h | h
  · exact .inr (by rw [h]; exact hg)
  · exact .inl (List.mem_map.2 ⟨p, h, rfl⟩)
theorem RS.args {w0 w : World} {s m : Nat} {E : List (ByteArray × Nat)} {X : Nat → Kp} {v : Value} {M : List KR} (h : RS w0 w s m E X v M) {P : World → Prop} (hP : ∀ W, Below w0.heap.size w0 W → P W) : Pst (SF m E) w P := fun W hW =>
  hP W (h.bel.trans (hW.below h.bel.size fun _ hk => (h.st.sf hk).1))
end Go.Proofs.YtlndgepoekllkaaGreatDoor
