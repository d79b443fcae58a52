/- Put and keep where there is no room; Put of what may not be, and of what was made no earlier: walks. -/
import Derived.Test.YtlndgepoekllkaaGreatDoorZk14
import Derived.Test.YtlndgepoekllkaaGreatDoorZk13
import Derived.Test.YtlndgepoekllkaaGreatDoorZk8
import Derived.Test.YtlndgepoekllkaaGreatDoorZk12
import Derived.Test.YtlndgepoekllkaaGreatDoorZk4
import Derived.Test.YtlndgepoekllkaaGreatDoorZk6
namespace Go.Proofs.YtlndgepoekllkaaGreatDoor
open Go.RowKit Go.ChangeMaps

set_option maxRecDepth 100000 in
set_option maxHeartbeats 4000000 in
theorem keep_full {base : Nat} {w : World} {s m : Nat} {E : List (ByteArray × Nat)} {X : Nat → Kp} (h : StV base w s m E X) (t : Ty) (vo va vc : Value) (hr : IsTy w t vo va vc) (hn : t.n.size ≤ 1000000) (hT : UT w) (hL : lkS E (fldB t.n) = none) (hf : 200 ≤ E.length) :
    Calls Tryz.prog 39 #[stP s, tyV t vo va vc] w fun e w' => e = .returned (.int .i64 6) ∧ Below w.heap.size w w' := by
  obtain ⟨ao, co, rfl⟩ := hr.1.form
  obtain ⟨aa, ca, rfl⟩ := hr.2.1.form
  obtain ⟨ac, cc, rfl⟩ := hr.2.2.form
  have HFi : Hid (∀ W, Below w.heap.size w W → Calls Tryz.prog 29 #[stP s, .string t.n] W fun e w' => e = .returned (.pointer none) ∧ Below W.heap.size W w') := fun W hb => by
    have := find_any (h.below hb) t.n hn (Utf8Tabs_below hT hb)
    rw [hL] at this
    exact this
  have HC : Hid (∀ W, Below w.heap.size w W → W.cell? ⟨s, 0, none⟩ = some (.map (some m)) ∧ ∀ ty, (Builtin.len_ #[48] ty #[.map (some m)]).run Tryz.prog W = .ok (.int .i64 E.length) W) := fun W hb => ⟨(h.below hb).cell, fun ty => (h.below hb).mp.len ty⟩
  have d1 : decide ((200 : Int) ≤ (E.length : Int)) = true := decide_eq_true (by omega)
  clear h hr hn hT hL hf
  obtain ⟨w1, hw1⟩ : ∃ w1, w1 = w.alloc (.cells (tyA t (.slice ao t.own.length co) (.slice aa t.all.length ca) (.slice ac t.ch.length cc)) 35) := ⟨_, rfl⟩
  have B1 : Hid (Below w.heap.size w w1) := by show Below _ _ _; rw [hw1]; exact al_b _ _
  have hn1 : w1.heap[w.heap.size]? = some (.cells (tyA t (.slice ao t.own.length co) (.slice aa t.all.length ca) (.slice ac t.ch.length cc)) 35 (0, 0)) := by rw [hw1]; exact new_at _ _
  have C1 : Hid (∀ W, Below w1.heap.size w1 W → W.heap[w.heap.size]? = some (.cells (tyA t (.slice ao t.own.length co) (.slice aa t.all.length ca) (.slice ac t.ch.length cc)) 35 (0, 0))) := fun W h => (h.block _ (Array.getElem?_eq_some_iff.1 hn1).1).trans hn1
  clear hn1
  have hk := C1.out w1 (Below.refl _ _)
  have c1_0 : w1.cell? ⟨w.heap.size, 0, none⟩ = some (.string t.n) := by rw [Lib.cell_of_heap hk]; rfl
  have c1_1 : w1.cell? ⟨w.heap.size, 1, none⟩ = some (.string t.p) := by rw [Lib.cell_of_heap hk]; rfl
  have c1_2 : w1.cell? ⟨w.heap.size, 2, none⟩ = some (.slice ao t.own.length co) := by rw [Lib.cell_of_heap hk]; rfl
  have c1_3 : w1.cell? ⟨w.heap.size, 3, none⟩ = some (.slice aa t.all.length ca) := by rw [Lib.cell_of_heap hk]; rfl
  have c1_4 : w1.cell? ⟨w.heap.size, 4, none⟩ = some (.slice ac t.ch.length cc) := by rw [Lib.cell_of_heap hk]; rfl
  have c1_5 : w1.cell? ⟨w.heap.size, 5, none⟩ = some (.int .i64 t.nd) := by rw [Lib.cell_of_heap hk]; rfl
  have c1_6 : w1.cell? ⟨w.heap.size, 6, none⟩ = some (.int .i64 t.lf) := by rw [Lib.cell_of_heap hk]; rfl
  have c1_7 : w1.cell? ⟨w.heap.size, 7, none⟩ = some (.int .i64 t.sq) := by rw [Lib.cell_of_heap hk]; rfl
  clear hk
  rw [hw1] at c1_0 c1_1 c1_2 c1_3 c1_4 c1_5 c1_6 c1_7
  go_enter Tryz.func39, Tryz.ntmps39
  go_wp2_with fail
  rw [← hw1]
  clear hw1
  clear c1_0 c1_1 c1_2 c1_3 c1_4 c1_5 c1_6 c1_7
  refine (HFi.out _ B1.out).mono ?_
  rintro e w2 ⟨rfl, hb⟩
  have B2 : Hid (Below w1.heap.size w1 w2) := hb
  clear hb 
  obtain ⟨cs, hlen⟩ := HC.out _ (bTS B1.out B2.out)
  have HBz : Hid (Below w.heap.size w w2) := (bTS B1.out B2.out)
  go_wp2
  go_ret
  exact ⟨rfl, HBz.out⟩
set_option maxRecDepth 100000 in
set_option maxHeartbeats 4000000 in
theorem put_bad (s : Nat) (t : Ty) (vo va vc : Value) (w : World) (hr : IsTy w t vo va vc) (hn : NmT t) (hT : UT w) (hM : ML w) (hc : chkT t = false) :
    Calls Tryz.prog 12 #[stP s, tyV t vo va vc] w fun e w' => e = .returned (.tuple #[tyV zT (.slice none 0 0) (.slice none 0 0) (.slice none 0 0), .int .i64 1]) ∧ Below w.heap.size w w' := by
  obtain ⟨ao, co, rfl⟩ := hr.1.form
  obtain ⟨aa, ca, rfl⟩ := hr.2.1.form
  obtain ⟨ac, cc, rfl⟩ := hr.2.2.form
  have HCh : Hid (∀ W, Below w.heap.size w W → Calls Tryz.prog 37 #[(tyV t (.slice ao t.own.length co) (.slice aa t.all.length ca) (.slice ac t.ch.length cc))] W fun e w' => e = .returned (.bool false) ∧ Below W.heap.size W w') := fun W hb => hc ▸ checkT_any t _ _ _ W (hr.below hb) hn (Utf8Tabs_below hT hb) (ML_below hM hb)
  clear hr hn hT hM hc
  obtain ⟨w1, hw1⟩ : ∃ w1, w1 = w.alloc (.cells (tyA t (.slice ao t.own.length co) (.slice aa t.all.length ca) (.slice ac t.ch.length cc)) 35) := ⟨_, rfl⟩
  have B1 : Hid (Below w.heap.size w w1) := by show Below _ _ _; rw [hw1]; exact al_b _ _
  have hn1 : w1.heap[w.heap.size]? = some (.cells (tyA t (.slice ao t.own.length co) (.slice aa t.all.length ca) (.slice ac t.ch.length cc)) 35 (0, 0)) := by rw [hw1]; exact new_at _ _
  have C1 : Hid (∀ W, Below w1.heap.size w1 W → W.heap[w.heap.size]? = some (.cells (tyA t (.slice ao t.own.length co) (.slice aa t.all.length ca) (.slice ac t.ch.length cc)) 35 (0, 0))) := fun W h => (h.block _ (Array.getElem?_eq_some_iff.1 hn1).1).trans hn1
  clear hn1
  obtain ⟨w2, hw2⟩ : ∃ w2, w2 = w1.alloc (.cells zTyA 35) := ⟨_, rfl⟩
  have B2 : Hid (Below w1.heap.size w1 w2) := by show Below _ _ _; rw [hw2]; exact al_b _ _
  have hn2 : w2.heap[(w.heap.size + 1)]? = some (.cells zTyA 35 (0, 0)) := by rw [hw2]; rw [show w.heap.size + 1 = w1.heap.size by (rw [hw1]; simp)]; exact new_at _ _
  have C2 : Hid (∀ W, Below w2.heap.size w2 W → W.heap[(w.heap.size + 1)]? = some (.cells zTyA 35 (0, 0))) := fun W h => (h.block _ (Array.getElem?_eq_some_iff.1 hn2).1).trans hn2
  clear hn2
  have hk := C1.out w2 B2.out
  have c1_0 : w2.cell? ⟨w.heap.size, 0, none⟩ = some (.string t.n) := by rw [Lib.cell_of_heap hk]; rfl
  have c1_1 : w2.cell? ⟨w.heap.size, 1, none⟩ = some (.string t.p) := by rw [Lib.cell_of_heap hk]; rfl
  have c1_2 : w2.cell? ⟨w.heap.size, 2, none⟩ = some (.slice ao t.own.length co) := by rw [Lib.cell_of_heap hk]; rfl
  have c1_3 : w2.cell? ⟨w.heap.size, 3, none⟩ = some (.slice aa t.all.length ca) := by rw [Lib.cell_of_heap hk]; rfl
  have c1_4 : w2.cell? ⟨w.heap.size, 4, none⟩ = some (.slice ac t.ch.length cc) := by rw [Lib.cell_of_heap hk]; rfl
  have c1_5 : w2.cell? ⟨w.heap.size, 5, none⟩ = some (.int .i64 t.nd) := by rw [Lib.cell_of_heap hk]; rfl
  have c1_6 : w2.cell? ⟨w.heap.size, 6, none⟩ = some (.int .i64 t.lf) := by rw [Lib.cell_of_heap hk]; rfl
  have c1_7 : w2.cell? ⟨w.heap.size, 7, none⟩ = some (.int .i64 t.sq) := by rw [Lib.cell_of_heap hk]; rfl
  clear hk
  rw [hw2, hw1] at c1_0 c1_1 c1_2 c1_3 c1_4 c1_5 c1_6 c1_7
  go_enter Tryz.func12, Tryz.ntmps12
  go_wp2_with fail
  rw [← hw1, ← hw2]
  clear hw1 hw2
  clear c1_0 c1_1 c1_2 c1_3 c1_4 c1_5 c1_6 c1_7
  refine (HCh.out _ (bTS B1.out B2.out)).mono ?_
  rintro e w3 ⟨rfl, hb⟩
  have B3 : Hid (Below w2.heap.size w2 w3) := hb
  clear hb 
  obtain ⟨⟨e0, e1, e2, e3⟩, e4, e5, e6, e7⟩ := BxT.of (t := zT) (C2.out _ B3.out)
  have f0 : ∀ j, w3.frozen? ⟨w.heap.size + 1, j, none⟩ = false := fun j => Lib.frozen_of_heap (C2.out _ B3.out) j
  have HB : Hid (Below w.heap.size w w3) := (bTS (bTS B1.out B2.out) B3.out)
  have HEnd : Hid (∀ u0 u1 u2 u3 u4 u5 u6 u7, Below w.heap.size w (st8 w3 (w.heap.size + 1) u0 u1 u2 u3 u4 u5 u6 u7)) := fun u0 u1 u2 u3 u4 u5 u6 u7 => below8 HB.out (Nat.le_add_right _ 1) u0 u1 u2 u3 u4 u5 u6 u7
  clear HB HCh
  go_wp2_with fail
  try simp only [Exit.inBlock, Exit.then]
  refine bodyPost_ret (v := .tuple #[tyV zT (.slice none 0 0) (.slice none 0 0) (.slice none 0 0), .int .i64 1]) ?_ rfl ⟨rfl, HEnd.out _ _ _ _ _ _ _ _⟩
  rw [results_c2 rfl]; go_simp
  first | done | exact ⟨rfl, rfl, rfl, rfl, rfl⟩
set_option maxRecDepth 100000 in
set_option maxHeartbeats 4000000 in
theorem put_full {base : Nat} {w : World} {s m : Nat} {E : List (ByteArray × Nat)} {X : Nat → Kp} (h : StV base w s m E X) (t : Ty) (vo va vc : Value) (hr : IsTy w t vo va vc) (hnm : NmT t) (hT : UT w) (hM : ML w) (hc : chkT t = true) (hL : lkS E (fldB t.n) = none) (hf : 200 ≤ E.length) :
    Calls Tryz.prog 12 #[stP s, tyV t vo va vc] w fun e w' => e = .returned (.tuple #[tyV zT (.slice none 0 0) (.slice none 0 0) (.slice none 0 0), .int .i64 6]) ∧ Below w.heap.size w w' := by
  have hn := hnm.n
  obtain ⟨ao, co, rfl⟩ := hr.1.form
  obtain ⟨aa, ca, rfl⟩ := hr.2.1.form
  obtain ⟨ac, cc, rfl⟩ := hr.2.2.form
  have HCh : Hid (∀ W, Below w.heap.size w W → Calls Tryz.prog 37 #[(tyV t (.slice ao t.own.length co) (.slice aa t.all.length ca) (.slice ac t.ch.length cc))] W fun e w' => e = .returned (.bool true) ∧ Below W.heap.size W w') := fun W hb => hc ▸ checkT_any t _ _ _ W (hr.below hb) hnm (Utf8Tabs_below hT hb) (ML_below hM hb)
  have HFi : Hid (∀ W, Below w.heap.size w W → Calls Tryz.prog 29 #[stP s, .string t.n] W fun e w' => e = .returned (.pointer none) ∧ Below W.heap.size W w') := fun W hb => by
    have := find_any (h.below hb) t.n hn (Utf8Tabs_below hT hb)
    rw [hL] at this
    exact this
  have HOr : Hid (∀ (a b c a' b' c' : Int) W, Calls Tryz.prog 38 #[idV a b c, idV a' b' c'] W fun e w' => e = .returned (.int .i64 (or3 (ordI a a') (ordI b b') (ordI c c'))) ∧ Below W.heap.size W w') := fun a b c a' b' c' W => order_any a b c a' b' c' W
  have HKe : Hid (∀ W, Below w.heap.size w W → Calls Tryz.prog 39 #[stP s, (tyV t (.slice ao t.own.length co) (.slice aa t.all.length ca) (.slice ac t.ch.length cc))] W fun e w' => e = .returned (.int .i64 6) ∧ Below W.heap.size W w') := fun W hb => keep_full (h.below hb) t _ _ _ (hr.below hb) hn (Utf8Tabs_below hT hb) hL hf
  clear h hr hn hnm hT hM hc hL hf
  obtain ⟨w1, hw1⟩ : ∃ w1, w1 = w.alloc (.cells (tyA t (.slice ao t.own.length co) (.slice aa t.all.length ca) (.slice ac t.ch.length cc)) 35) := ⟨_, rfl⟩
  have B1 : Hid (Below w.heap.size w w1) := by show Below _ _ _; rw [hw1]; exact al_b _ _
  have hn1 : w1.heap[w.heap.size]? = some (.cells (tyA t (.slice ao t.own.length co) (.slice aa t.all.length ca) (.slice ac t.ch.length cc)) 35 (0, 0)) := by rw [hw1]; exact new_at _ _
  have C1 : Hid (∀ W, Below w1.heap.size w1 W → W.heap[w.heap.size]? = some (.cells (tyA t (.slice ao t.own.length co) (.slice aa t.all.length ca) (.slice ac t.ch.length cc)) 35 (0, 0))) := fun W h => (h.block _ (Array.getElem?_eq_some_iff.1 hn1).1).trans hn1
  clear hn1
  obtain ⟨w2, hw2⟩ : ∃ w2, w2 = w1.alloc (.cells zTyA 35) := ⟨_, rfl⟩
  have B2 : Hid (Below w1.heap.size w1 w2) := by show Below _ _ _; rw [hw2]; exact al_b _ _
  have hn2 : w2.heap[(w.heap.size + 1)]? = some (.cells zTyA 35 (0, 0)) := by rw [hw2]; rw [show w.heap.size + 1 = w1.heap.size by (rw [hw1]; simp)]; exact new_at _ _
  have C2 : Hid (∀ W, Below w2.heap.size w2 W → W.heap[(w.heap.size + 1)]? = some (.cells zTyA 35 (0, 0))) := fun W h => (h.block _ (Array.getElem?_eq_some_iff.1 hn2).1).trans hn2
  clear hn2
  have hk := C1.out w2 B2.out
  have c1_0 : w2.cell? ⟨w.heap.size, 0, none⟩ = some (.string t.n) := by rw [Lib.cell_of_heap hk]; rfl
  have c1_1 : w2.cell? ⟨w.heap.size, 1, none⟩ = some (.string t.p) := by rw [Lib.cell_of_heap hk]; rfl
  have c1_2 : w2.cell? ⟨w.heap.size, 2, none⟩ = some (.slice ao t.own.length co) := by rw [Lib.cell_of_heap hk]; rfl
  have c1_3 : w2.cell? ⟨w.heap.size, 3, none⟩ = some (.slice aa t.all.length ca) := by rw [Lib.cell_of_heap hk]; rfl
  have c1_4 : w2.cell? ⟨w.heap.size, 4, none⟩ = some (.slice ac t.ch.length cc) := by rw [Lib.cell_of_heap hk]; rfl
  have c1_5 : w2.cell? ⟨w.heap.size, 5, none⟩ = some (.int .i64 t.nd) := by rw [Lib.cell_of_heap hk]; rfl
  have c1_6 : w2.cell? ⟨w.heap.size, 6, none⟩ = some (.int .i64 t.lf) := by rw [Lib.cell_of_heap hk]; rfl
  have c1_7 : w2.cell? ⟨w.heap.size, 7, none⟩ = some (.int .i64 t.sq) := by rw [Lib.cell_of_heap hk]; rfl
  clear hk
  rw [hw2, hw1] at c1_0 c1_1 c1_2 c1_3 c1_4 c1_5 c1_6 c1_7
  go_enter Tryz.func12, Tryz.ntmps12
  go_wp2_with fail
  rw [← hw1, ← hw2]
  clear hw1 hw2
  clear c1_0 c1_1 c1_2 c1_3 c1_4 c1_5 c1_6 c1_7
  refine (HCh.out _ (bTS B1.out B2.out)).mono ?_
  rintro e w3 ⟨rfl, hb⟩
  have B3 : Hid (Below w2.heap.size w2 w3) := hb
  clear hb 
  have hk := C1.out w3 (bTS B2.out B3.out)
  have c1_0 : w3.cell? ⟨w.heap.size, 0, none⟩ = some (.string t.n) := by rw [Lib.cell_of_heap hk]; rfl
  have c1_1 : w3.cell? ⟨w.heap.size, 1, none⟩ = some (.string t.p) := by rw [Lib.cell_of_heap hk]; rfl
  have c1_2 : w3.cell? ⟨w.heap.size, 2, none⟩ = some (.slice ao t.own.length co) := by rw [Lib.cell_of_heap hk]; rfl
  have c1_3 : w3.cell? ⟨w.heap.size, 3, none⟩ = some (.slice aa t.all.length ca) := by rw [Lib.cell_of_heap hk]; rfl
  have c1_4 : w3.cell? ⟨w.heap.size, 4, none⟩ = some (.slice ac t.ch.length cc) := by rw [Lib.cell_of_heap hk]; rfl
  have c1_5 : w3.cell? ⟨w.heap.size, 5, none⟩ = some (.int .i64 t.nd) := by rw [Lib.cell_of_heap hk]; rfl
  have c1_6 : w3.cell? ⟨w.heap.size, 6, none⟩ = some (.int .i64 t.lf) := by rw [Lib.cell_of_heap hk]; rfl
  have c1_7 : w3.cell? ⟨w.heap.size, 7, none⟩ = some (.int .i64 t.sq) := by rw [Lib.cell_of_heap hk]; rfl
  clear hk
  go_wp2_with fail
  clear c1_0 c1_1 c1_2 c1_3 c1_4 c1_5 c1_6 c1_7
  refine (HFi.out _ (bTS (bTS B1.out B2.out) B3.out)).mono ?_
  rintro e w4 ⟨rfl, hb⟩
  have B4 : Hid (Below w3.heap.size w3 w4) := hb
  clear hb 
  go_wp2_with fail
  refine wp_region_quiet (C := fun w' => Below w4.heap.size w4 w') (by kernel_rfl) (by kernel_rfl) ((Below.refl _ _).drew) ?_
  dsimp only
  repeat (first
    | go_big_quiet_skip
    | (go_big_quiet_want
       apply Exists.intro
       refine ⟨fun W' hW' => ?_, ?_⟩
       · have hw : Below w4.heap.size w4 W' := hW'
         go_simp
         first
           | done
           | rfl
           | (go_at_call 38; (with_reducible refine Calls.mono (HOr.out _ _ _ _ _ _ W') ?_); rintro e w'' ⟨rfl, hb⟩; exact ⟨rfl, hw.trans (hb.mono hw.size)⟩)
       go_big_quiet_on
       try simp only [Act.put, List.setIfInBounds_toArray, List.set_cons_zero, List.set_cons_succ]))
  refine wpQuiet_nil ?_
  intro wq hqw
  have Bq : Hid (Below w4.heap.size w4 wq) := hqw
  clear hqw
  have hk := C1.out wq (bTS (bTS (bTS B2.out B3.out) B4.out) Bq.out)
  have c1_0 : wq.cell? ⟨w.heap.size, 0, none⟩ = some (.string t.n) := by rw [Lib.cell_of_heap hk]; rfl
  have c1_1 : wq.cell? ⟨w.heap.size, 1, none⟩ = some (.string t.p) := by rw [Lib.cell_of_heap hk]; rfl
  have c1_2 : wq.cell? ⟨w.heap.size, 2, none⟩ = some (.slice ao t.own.length co) := by rw [Lib.cell_of_heap hk]; rfl
  have c1_3 : wq.cell? ⟨w.heap.size, 3, none⟩ = some (.slice aa t.all.length ca) := by rw [Lib.cell_of_heap hk]; rfl
  have c1_4 : wq.cell? ⟨w.heap.size, 4, none⟩ = some (.slice ac t.ch.length cc) := by rw [Lib.cell_of_heap hk]; rfl
  have c1_5 : wq.cell? ⟨w.heap.size, 5, none⟩ = some (.int .i64 t.nd) := by rw [Lib.cell_of_heap hk]; rfl
  have c1_6 : wq.cell? ⟨w.heap.size, 6, none⟩ = some (.int .i64 t.lf) := by rw [Lib.cell_of_heap hk]; rfl
  have c1_7 : wq.cell? ⟨w.heap.size, 7, none⟩ = some (.int .i64 t.sq) := by rw [Lib.cell_of_heap hk]; rfl
  clear hk
  go_wp2_with fail
  clear c1_0 c1_1 c1_2 c1_3 c1_4 c1_5 c1_6 c1_7
  refine (HKe.out _ (bTS (bTS (bTS (bTS B1.out B2.out) B3.out) B4.out) Bq.out)).mono ?_
  rintro e w5 ⟨rfl, hb⟩
  have B5 : Hid (Below wq.heap.size wq w5) := hb
  clear hb 
  obtain ⟨⟨e0, e1, e2, e3⟩, e4, e5, e6, e7⟩ := BxT.of (t := zT) (C2.out _ (bTS (bTS (bTS B3.out B4.out) Bq.out) B5.out))
  have f0 : ∀ j, w5.frozen? ⟨w.heap.size + 1, j, none⟩ = false := fun j => Lib.frozen_of_heap (C2.out _ (bTS (bTS (bTS B3.out B4.out) Bq.out) B5.out)) j
  have HB : Hid (Below w.heap.size w w5) := (bTS (bTS (bTS (bTS (bTS B1.out B2.out) B3.out) B4.out) Bq.out) B5.out)
  have HEnd : Hid (∀ u0 u1 u2 u3 u4 u5 u6 u7, Below w.heap.size w (st8 w5 (w.heap.size + 1) u0 u1 u2 u3 u4 u5 u6 u7)) := fun u0 u1 u2 u3 u4 u5 u6 u7 => below8 HB.out (Nat.le_add_right _ 1) u0 u1 u2 u3 u4 u5 u6 u7
  clear HB HCh HFi HOr HKe
  go_wp2_with fail
  try simp only [Exit.inBlock, Exit.then]
  refine bodyPost_ret (v := .tuple #[tyV zT (.slice none 0 0) (.slice none 0 0) (.slice none 0 0), .int .i64 6]) ?_ rfl ⟨rfl, HEnd.out _ _ _ _ _ _ _ _⟩
  rw [results_c2 rfl]; go_simp
  first | done | exact ⟨rfl, rfl, rfl, rfl, rfl⟩
/-- What Put hands out of one that is kept already. -/
def PoP (t0 : Ty) (w : World) (e : Ending) (w' : World) : Prop := ∃ v1 v2 v3, e = .returned (.tuple #[tyV t0 v1 v2 v3, .int .i64 0]) ∧ OwnTy w.heap.size w' t0 v1 v2 v3 ∧ Below w.heap.size w w'
set_option maxRecDepth 100000 in
set_option maxHeartbeats 4000000 in
theorem put_old {base : Nat} {w : World} {s m : Nat} {E : List (ByteArray × Nat)} {X : Nat → Kp} (h : StV base w s m E X) (t : Ty) (vo va vc : Value) (hr : IsTy w t vo va vc) (hnm : NmT t) (hT : UT w) (hM : ML w) (hc : chkT t = true) {g0 : Nat} (hL : lkS E (fldB t.n) = some g0) (hord : ¬ or3 (ordI t.nd (X g0).t.nd) (ordI t.lf (X g0).t.lf) (ordI t.sq (X g0).t.sq) < 0) (q1 : (X g0).t.own.length ≤ 1000) (q2 : (X g0).t.all.length ≤ 1000) (q3 : (X g0).t.ch.length ≤ 1000) :
    Calls Tryz.prog 12 #[stP s, tyV t vo va vc] w fun e w' => PoP (X g0).t w e w' := by
  have hn := hnm.n
  obtain ⟨ao, co, rfl⟩ := hr.1.form
  obtain ⟨aa, ca, rfl⟩ := hr.2.1.form
  obtain ⟨ac, cc, rfl⟩ := hr.2.2.form
  have HCh : Hid (∀ W, Below w.heap.size w W → Calls Tryz.prog 37 #[(tyV t (.slice ao t.own.length co) (.slice aa t.all.length ca) (.slice ac t.ch.length cc))] W fun e w' => e = .returned (.bool true) ∧ Below W.heap.size W w') := fun W hb => hc ▸ checkT_any t _ _ _ W (hr.below hb) hnm (Utf8Tabs_below hT hb) (ML_below hM hb)
  have HFi : Hid (∀ W, Below w.heap.size w W → Calls Tryz.prog 29 #[stP s, .string t.n] W fun e w' => e = .returned (.pointer (some ⟨g0, 0, none⟩)) ∧ Below W.heap.size W w') := fun W hb => by
    have := find_any (h.below hb) t.n hn (Utf8Tabs_below hT hb)
    rw [hL] at this
    exact this
  have HOr : Hid (∀ (a b c a' b' c' : Int) W, Calls Tryz.prog 38 #[idV a b c, idV a' b' c'] W fun e w' => e = .returned (.int .i64 (or3 (ordI a a') (ordI b b') (ordI c c'))) ∧ Below W.heap.size W w') := fun a b c a' b' c' W => order_any a b c a' b' c' W
  obtain ⟨-, wo, wa, wc, h0, ho⟩ := h.kp _ (lkS_mem hL)
  dsimp only at h0 ho
  obtain ⟨bo, do_, rfl⟩ := ho.is.1.form
  obtain ⟨ba, da, rfl⟩ := ho.is.2.1.form
  obtain ⟨bc, dc, rfl⟩ := ho.is.2.2.form
  obtain ⟨x, hX⟩ : ∃ x, x = X g0 := ⟨_, rfl⟩
  rw [← hX] at h0 ho hord q1 q2 q3 ⊢
  have HK : Hid (∀ W, Below w.heap.size w W → BxT g0 x.t (.slice bo x.t.own.length do_) (.slice ba x.t.all.length da) (.slice bc x.t.ch.length dc) W) := fun W hb => by
    have hk := (hb.block _ (Array.getElem?_eq_some_iff.1 h0).1).trans h0
    have c : ∀ j, W.cell? ⟨g0, j, none⟩ = (kpA x (.slice bo x.t.own.length do_) (.slice ba x.t.all.length da) (.slice bc x.t.ch.length dc))[j]? := fun j => by rw [Lib.cell_of_heap hk]
    exact ⟨⟨c 0, c 1, c 2, c 3⟩, c 4, c 5, c 6, c 7⟩
  have HCo : Hid (∀ W, Below w.heap.size w W → Calls Tryz.prog 30 #[tyV x.t (.slice bo x.t.own.length do_) (.slice ba x.t.all.length da) (.slice bc x.t.ch.length dc)] W fun e w' => CpT x.t W e w') := fun W hb => copyOf_any x.t _ _ _ W (ho.is.below hb) q1 q2 q3
  obtain ⟨o, hO⟩ : ∃ o, o = or3 (ordI t.nd x.t.nd) (ordI t.lf x.t.lf) (ordI t.sq x.t.sq) := ⟨_, rfl⟩
  have HOr : Hid (∀ W, Calls Tryz.prog 38 #[idV t.nd t.lf t.sq, idV x.t.nd x.t.lf x.t.sq] W fun e w' => e = .returned (.int .i64 o) ∧ Below W.heap.size W w') := fun W => by rw [hO]; exact HOr.out _ _ _ _ _ _ W
  rw [← hO] at hord
  have do1 : decide ((0 : Int) ≤ o) = true := decide_eq_true (by omega)
  have do2 : decide (o < 0) = false := decide_eq_false (by omega)
  obtain ⟨R, hR⟩ : ∃ R : Ending → World → Prop, R = PoP x.t w := ⟨_, rfl⟩
  have HRd : Hid (∀ e w', PoP x.t w e w' → R e w') := fun e w' hh => by rw [hR]; exact hh
  show Calls Tryz.prog 12 #[stP s, (tyV t (.slice ao t.own.length co) (.slice aa t.all.length ca) (.slice ac t.ch.length cc))] w fun e w' => PoP x.t w e w'
  rw [← hR]
  clear h hr hn hnm hT hM hc hL h0 ho hord q1 q2 q3 hX hO hR
  obtain ⟨w1, hw1⟩ : ∃ w1, w1 = w.alloc (.cells (tyA t (.slice ao t.own.length co) (.slice aa t.all.length ca) (.slice ac t.ch.length cc)) 35) := ⟨_, rfl⟩
  have B1 : Hid (Below w.heap.size w w1) := by show Below _ _ _; rw [hw1]; exact al_b _ _
  have hn1 : w1.heap[w.heap.size]? = some (.cells (tyA t (.slice ao t.own.length co) (.slice aa t.all.length ca) (.slice ac t.ch.length cc)) 35 (0, 0)) := by rw [hw1]; exact new_at _ _
  have C1 : Hid (∀ W, Below w1.heap.size w1 W → W.heap[w.heap.size]? = some (.cells (tyA t (.slice ao t.own.length co) (.slice aa t.all.length ca) (.slice ac t.ch.length cc)) 35 (0, 0))) := fun W h => (h.block _ (Array.getElem?_eq_some_iff.1 hn1).1).trans hn1
  clear hn1
  obtain ⟨w2, hw2⟩ : ∃ w2, w2 = w1.alloc (.cells zTyA 35) := ⟨_, rfl⟩
  have B2 : Hid (Below w1.heap.size w1 w2) := by show Below _ _ _; rw [hw2]; exact al_b _ _
  have hn2 : w2.heap[(w.heap.size + 1)]? = some (.cells zTyA 35 (0, 0)) := by rw [hw2]; rw [show w.heap.size + 1 = w1.heap.size by (rw [hw1]; simp)]; exact new_at _ _
  have C2 : Hid (∀ W, Below w2.heap.size w2 W → W.heap[(w.heap.size + 1)]? = some (.cells zTyA 35 (0, 0))) := fun W h => (h.block _ (Array.getElem?_eq_some_iff.1 hn2).1).trans hn2
  clear hn2
  have hk := C1.out w2 B2.out
  have c1_0 : w2.cell? ⟨w.heap.size, 0, none⟩ = some (.string t.n) := by rw [Lib.cell_of_heap hk]; rfl
  have c1_1 : w2.cell? ⟨w.heap.size, 1, none⟩ = some (.string t.p) := by rw [Lib.cell_of_heap hk]; rfl
  have c1_2 : w2.cell? ⟨w.heap.size, 2, none⟩ = some (.slice ao t.own.length co) := by rw [Lib.cell_of_heap hk]; rfl
  have c1_3 : w2.cell? ⟨w.heap.size, 3, none⟩ = some (.slice aa t.all.length ca) := by rw [Lib.cell_of_heap hk]; rfl
  have c1_4 : w2.cell? ⟨w.heap.size, 4, none⟩ = some (.slice ac t.ch.length cc) := by rw [Lib.cell_of_heap hk]; rfl
  have c1_5 : w2.cell? ⟨w.heap.size, 5, none⟩ = some (.int .i64 t.nd) := by rw [Lib.cell_of_heap hk]; rfl
  have c1_6 : w2.cell? ⟨w.heap.size, 6, none⟩ = some (.int .i64 t.lf) := by rw [Lib.cell_of_heap hk]; rfl
  have c1_7 : w2.cell? ⟨w.heap.size, 7, none⟩ = some (.int .i64 t.sq) := by rw [Lib.cell_of_heap hk]; rfl
  clear hk
  rw [hw2, hw1] at c1_0 c1_1 c1_2 c1_3 c1_4 c1_5 c1_6 c1_7
  go_enter Tryz.func12, Tryz.ntmps12
  go_wp2_with fail
  rw [← hw1, ← hw2]
  clear hw1 hw2
  clear c1_0 c1_1 c1_2 c1_3 c1_4 c1_5 c1_6 c1_7
  refine (HCh.out _ (bTS B1.out B2.out)).mono ?_
  rintro e w3 ⟨rfl, hb⟩
  have B3 : Hid (Below w2.heap.size w2 w3) := hb
  clear hb 
  have hk := C1.out w3 (bTS B2.out B3.out)
  have c1_0 : w3.cell? ⟨w.heap.size, 0, none⟩ = some (.string t.n) := by rw [Lib.cell_of_heap hk]; rfl
  have c1_1 : w3.cell? ⟨w.heap.size, 1, none⟩ = some (.string t.p) := by rw [Lib.cell_of_heap hk]; rfl
  have c1_2 : w3.cell? ⟨w.heap.size, 2, none⟩ = some (.slice ao t.own.length co) := by rw [Lib.cell_of_heap hk]; rfl
  have c1_3 : w3.cell? ⟨w.heap.size, 3, none⟩ = some (.slice aa t.all.length ca) := by rw [Lib.cell_of_heap hk]; rfl
  have c1_4 : w3.cell? ⟨w.heap.size, 4, none⟩ = some (.slice ac t.ch.length cc) := by rw [Lib.cell_of_heap hk]; rfl
  have c1_5 : w3.cell? ⟨w.heap.size, 5, none⟩ = some (.int .i64 t.nd) := by rw [Lib.cell_of_heap hk]; rfl
  have c1_6 : w3.cell? ⟨w.heap.size, 6, none⟩ = some (.int .i64 t.lf) := by rw [Lib.cell_of_heap hk]; rfl
  have c1_7 : w3.cell? ⟨w.heap.size, 7, none⟩ = some (.int .i64 t.sq) := by rw [Lib.cell_of_heap hk]; rfl
  clear hk
  go_wp2_with fail
  clear c1_0 c1_1 c1_2 c1_3 c1_4 c1_5 c1_6 c1_7
  refine (HFi.out _ (bTS (bTS B1.out B2.out) B3.out)).mono ?_
  rintro e w4 ⟨rfl, hb⟩
  have B4 : Hid (Below w3.heap.size w3 w4) := hb
  clear hb 
  go_wp2_with fail
  refine wp_region_quiet (C := fun w' => Below w4.heap.size w4 w') (by kernel_rfl) (by kernel_rfl) ((Below.refl _ _).drew) ?_
  dsimp only
  repeat (first
    | go_big_quiet_skip
    | (go_big_quiet_want
       apply Exists.intro
       refine ⟨fun W' hW' => ?_, ?_⟩
       · have hw : Below w4.heap.size w4 W' := hW'
         have hkT := C1.out W' (bTS (bTS (bTS B2.out B3.out) B4.out) hw)
         obtain ⟨⟨s0, s1, s2, s3⟩, s4, s5, s6, s7⟩ := BxT.of hkT
         obtain ⟨⟨r0, r1, r2, r3⟩, r4, r5, r6, r7⟩ := HK.out W' (bTS (bTS (bTS (bTS B1.out B2.out) B3.out) B4.out) hw)
         clear hkT
         go_simp
         first
           | done
           | rfl
           | (go_at_call 38; (with_reducible refine Calls.mono (HOr.out W') ?_); rintro e w'' ⟨rfl, hb⟩; exact ⟨rfl, hw.trans (hb.mono hw.size)⟩)
       go_big_quiet_on
       try simp only [Act.put, List.setIfInBounds_toArray, List.set_cons_zero, List.set_cons_succ]))
  refine wpQuiet_nil ?_
  intro wq hqw
  have Bq : Hid (Below w4.heap.size w4 wq) := hqw
  clear hqw
  obtain ⟨⟨r0, r1, r2, r3⟩, r4, r5, r6, r7⟩ := HK.out wq (bTS (bTS (bTS (bTS B1.out B2.out) B3.out) B4.out) Bq.out)
  go_wp2_with fail
  clear r0 r1 r2 r3 r4 r5 r6 r7
  refine (HCo.out wq (bTS (bTS (bTS (bTS B1.out B2.out) B3.out) B4.out) Bq.out)).mono ?_
  rintro e wb ⟨v1, v2, v3, rfl, ho, hb⟩
  obtain ⟨x1, y1, rfl⟩ := (IsRow.own ho.1).form
  obtain ⟨x2, y2, rfl⟩ := (IsRow.own ho.2.1).form
  obtain ⟨x3, y3, rfl⟩ := (IsRow.own ho.2.2).form
  have HZa : Hid (wq.heap[w.heap.size + 1]? = some (.cells zTyA 35 (0, 0))) := C2.out _ (bTS (bTS B3.out B4.out) Bq.out)
  have HZb : Hid (wb.heap[w.heap.size + 1]? = some (.cells zTyA 35 (0, 0))) := (hb.block _ (Array.getElem?_eq_some_iff.1 HZa.out).1).trans HZa.out
  have hlt : w.heap.size + 1 < wq.heap.size := (Array.getElem?_eq_some_iff.1 HZa.out).1
  have HBq : Hid (Below w.heap.size w wb) := Below.trans (bTS (bTS (bTS (bTS B1.out B2.out) B3.out) B4.out) Bq.out) (hb.mono (Below.size (bTS (bTS (bTS (bTS B1.out B2.out) B3.out) B4.out) Bq.out)))
  have HEnd : Hid (∀ u0 u1 u2 u3 u4 u5 u6 u7, R (.returned (.tuple #[tyV x.t (.slice x1 x.t.own.length y1) (.slice x2 x.t.all.length y2) (.slice x3 x.t.ch.length y3), .int .i64 0])) (st8 wb (w.heap.size + 1) u0 u1 u2 u3 u4 u5 u6 u7)) := fun u0 u1 u2 u3 u4 u5 u6 u7 => HRd.out _ _ ⟨_, _, _, rfl, ((((((((((ho.set hlt 0 u0).set hlt 1 u1).set hlt 2 u2).set hlt 3 u3).set hlt 4 u4).set hlt 5 u5).set hlt 6 u6).set hlt 7 u7).le (Nat.le_of_lt (Nat.lt_of_succ_lt hlt)))), below8 HBq.out (Nat.le_add_right _ 1) u0 u1 u2 u3 u4 u5 u6 u7⟩
  obtain ⟨⟨e0, e1, e2, e3⟩, e4, e5, e6, e7⟩ := BxT.of (t := zT) HZb.out
  have f0 : ∀ j, wb.frozen? ⟨w.heap.size + 1, j, none⟩ = false := fun j => Lib.frozen_of_heap HZb.out j
  clear ho hb HZa HRd HBq HK HCo hlt
  go_wp2_with fail
  try simp only [Exit.inBlock, Exit.then]
  refine bodyPost_ret (v := .tuple #[tyV x.t (.slice x1 x.t.own.length y1) (.slice x2 x.t.all.length y2) (.slice x3 x.t.ch.length y3), .int .i64 0]) ?_ rfl (HEnd.out _ _ _ _ _ _ _ _)
  rw [results_c2 rfl]; go_simp
  first | done | exact ⟨rfl, rfl, rfl, rfl, rfl⟩
end Go.Proofs.YtlndgepoekllkaaGreatDoor
/- Puts one behind the other, plainly: which type is kept of a name; two stores in memory. -/
namespace Go.Proofs.YtlndgepoekllkaaGreatDoor
open Go.RowKit Go.ChangeMaps

/-- Was the one made earlier than the other one? -/
def Earl (t u : Ty) : Prop := ordY t u < 0
/-- What is kept, key by key. -/
def cont (E : List (ByteArray × Nat)) (X : Nat → Kp) (k : ByteArray) : Option Ty := (lkS E k).map fun g => (X g).t
/-- What is kept at a key, of these types: the one made first. -/
def Good (l : List Ty) (k : ByteArray) : Option Ty → Prop
  | none => ∀ t ∈ l, chkT t = true → fldB t.n ≠ k
  | some u => u ∈ l ∧ chkT u = true ∧ fldB u.n = k ∧ ∀ t ∈ l, chkT t = true → fldB t.n = k → ¬ Earl t u
/-- A store into which these types have been put, one behind the other. -/
structure PuI (base : Nat) (w : World) (s m : Nat) (l : List Ty) (E : List (ByteArray × Nat)) (X : Nat → Kp) : Prop where
  st : StV base w s m E X
  le : E.length ≤ l.length
  gd : ∀ k, Good l k (cont E X k)
theorem PuI.below {base : Nat} {w w' : World} {s m : Nat} {l : List Ty} {E : List (ByteArray × Nat)} {X : Nat → Kp} (h : PuI base w s m l E X) (hb : Below w.heap.size w w') : PuI base w' s m l E X := ⟨h.st.below hb, h.le, h.gd⟩
theorem stS_len (E : List (ByteArray × Nat)) (k : ByteArray) (g : Nat) : (stS E k g).length ≤ E.length + 1 := by
  unfold stS
  split
  · rw [List.length_append]; exact Nat.le_refl _
  · rw [List.length_map]; exact Nat.le_succ _
theorem lkS_stS (E : List (ByteArray × Nat)) (k : ByteArray) (g : Nat) (k' : ByteArray) : lkS (stS E k g) k' = if k' = k then some g else lkS E k' := by
  by_cases hn : lkS E k = none
  · unfold stS
    rw [if_pos hn]
    unfold lkS at hn ⊢
    rw [Option.map_eq_none_iff] at hn
    rw [List.find?_append]
    by_cases e : k' = k
    · subst e
      rw [if_pos rfl, hn]
      simp
    · rw [if_neg e]
      have : (List.find? (fun p : ByteArray × Nat => decide (p.1 = k')) [(k, g)]) = none := by simp [Ne.symm e]
      rw [this, Option.or_none]
  · unfold stS
    rw [if_neg hn]
    unfold lkS at hn ⊢
    induction E with
    | nil => exact absurd rfl hn
    | cons p E ih =>
      rw [List.map_cons, List.find?_cons, List.find?_cons]
      by_cases hp : p.1 = k
      · rw [if_pos hp]
        by_cases e : k' = k
        · subst e
          simp
        · rw [if_neg e]
          have h1 : decide ((k, g).1 = k') = false := decide_eq_false (Ne.symm e)
          have h2 : decide (p.1 = k') = false := decide_eq_false (by rw [hp]; exact Ne.symm e)
          rw [h1, h2]
          clear ih hn
          dsimp only
          induction E with
          | nil => rfl
          | cons q E ih =>
            rw [List.map_cons, List.find?_cons, List.find?_cons]
            by_cases hq : q.1 = k
            · rw [if_pos hq]
              have h3 : decide (q.1 = k') = false := decide_eq_false (by rw [hq]; exact Ne.symm e)
              rw [h1, h3]
              exact ih
            · rw [if_neg hq]
              cases hd : decide (q.1 = k')
              · exact ih
              · rfl
      · rw [if_neg hp]
        rw [List.find?_cons, decide_eq_false hp] at hn
        cases hd : decide (p.1 = k')
        · exact ih hn
        · have e : k' ≠ k := fun e => hp ((of_decide_eq_true hd).trans e)
          rw [if_neg e]
theorem PuI.sm {base : Nat} {w : World} {s m : Nat} {l : List Ty} {E : List (ByteArray × Nat)} {X : Nat → Kp} (h : PuI base w s m l E X) (hl : l.length ≤ 100) (hsm : ∀ t ∈ l, SmT t ∧ t.n.size ≤ 200) : SmE E X := by
  refine ⟨fun p hp => ?_, by have := h.le; omega⟩
  obtain ⟨a, ha, ea⟩ := List.mem_iff_getElem.1 hp
  have hl' : lkS E p.1 = some p.2 := lkS_at (j := a) (by rw [List.getElem?_eq_getElem ha, ea]) h.st.mp.2
  have hg := h.gd p.1
  unfold cont at hg
  rw [hl'] at hg
  have h1 : (X p.2).t ∈ l := hg.1
  have h3 : fldB (X p.2).t.n = p.1 := hg.2.2.1
  obtain ⟨⟨s1, s2, s3⟩, s4⟩ := hsm _ h1
  refine ⟨?_, s1, s2, s3⟩
  rw [← h3]
  have := fold_size (X p.2).t.n
  unfold fldB
  omega
end Go.Proofs.YtlndgepoekllkaaGreatDoor
/- The calls of a nil store: walks. -/
namespace Go.Proofs.YtlndgepoekllkaaGreatDoor
open Go.RowKit Go.ChangeMaps

/-- A kept type that is none. -/
abbrev zKpV : Value := .agg #[.string ⟨#[]⟩, .string ⟨#[]⟩, .slice none 0 0, .slice none 0 0, .slice none 0 0, .int .i64 0, .int .i64 0, .int .i64 0, .bool false, .slice none 0 0]
end Go.Proofs.YtlndgepoekllkaaGreatDoor
/- For whom is waited, as a list: plainly. -/
namespace Go.Proofs.YtlndgepoekllkaaGreatDoor
open Go.RowKit Go.ChangeMaps

/-- The nodes below j for which is waited. -/
def nodK (f : Nat → Bool) (j : Nat) : List Int := ((List.range j).filter f).map fun (n : Nat) => (n : Int)
theorem nodK_yes {f : Nat → Bool} {j : Nat} (h : f j = true) : nodK f (j + 1) = nodK f j ++ [(j : Int)] := by
  unfold nodK
  rw [List.range_succ, List.filter_append, List.map_append, List.filter_cons, if_pos h]
  rfl
theorem nodK_no {f : Nat → Bool} {j : Nat} (h : f j = false) : nodK f (j + 1) = nodK f j := by
  unfold nodK
  rw [List.range_succ, List.filter_append, List.filter_cons, if_neg (by rw [h]; decide), List.filter_nil, List.append_nil]
theorem nodK_len (f : Nat → Bool) (j : Nat) : (nodK f j).length ≤ j := by
  unfold nodK
  rw [List.length_map]
  refine Nat.le_trans (List.length_filter_le _ _) ?_
  simp
theorem nodes_pw {l : List Int} (h : NodesP l) : l.Pairwise (· < ·) := by
  rw [List.pairwise_iff_getElem]
  intro i j hi hj hij
  exact nodes_rise h j i hj hij
theorem nodes_from {l : List Int} (h : l.Pairwise (· < ·)) (hm : ∀ x ∈ l, 1 ≤ x ∧ x ≤ 15) : NodesP l := fun k hk => by
  have := hm _ (List.getElem_mem hk)
  exact ⟨this.1, this.2, fun j e => List.pairwise_iff_getElem.1 h j k (by omega) hk (by omega)⟩
theorem nodes_filter {l : List Int} (h : NodesP l) (p : Int → Bool) : NodesP (l.filter p) :=
  nodes_from ((nodes_pw h).filter _) fun _ hx => nodes_mem h (List.mem_filter.1 hx).1
/-- For whom is waited, in order: just these. -/
theorem nodK_in {l : List Int} (h : NodesP l) : nodK (inW l) 16 = l := by
  refine List.Perm.eq_of_pairwise (le := (· ≤ ·)) (fun a b _ _ h1 h2 => Int.le_antisymm h1 h2) ?_ ((nodes_pw h).imp fun h => Int.le_of_lt h) ?_
  · unfold nodK
    rw [List.pairwise_map]
    refine (List.pairwise_lt_range.filter _).imp ?_
    intro a b hab
    omega
  · refine (List.perm_ext_iff_of_nodup ?_ (nodes_nodup h)).2 fun x => ?_
    · unfold nodK
      exact map_cast_nodup (List.nodup_range.filter _)
    · unfold nodK
      rw [List.mem_map]
      constructor
      · rintro ⟨n, hn, rfl⟩
        simpa [inW] using (List.mem_filter.1 hn).2
      · intro hx
        have := nodes_mem h hx
        refine ⟨x.toNat, List.mem_filter.2 ⟨List.mem_range.2 (by omega), ?_⟩, by omega⟩
        unfold inW
        rw [show ((x.toNat : Nat) : Int) = x by omega]
        simpa using hx
/-- What is left of nodes without one. -/
def witho (l : List Int) (x : Int) : List Int := l.filter fun y => !decide (y = x)
theorem witho_nodes {l : List Int} (h : NodesP l) (x : Int) : NodesP (witho l x) := nodes_filter h _
theorem updW_witho (l : List Int) (k : Nat) : updW (inW l) k false = inW (witho l (k : Int)) := by
  funext i
  unfold updW inW witho
  rw [Bool.eq_iff_iff]
  by_cases e : i = k
  · subst e; simp
  · rw [if_neg e]
    have : (i : Int) ≠ (k : Int) := by omega
    simp [this]
theorem nodes_len {l : List Int} (h : NodesP l) : l.length ≤ 15 := by
  rw [← rgL_len h]
  unfold rgL
  split
  · exact Nat.le_trans (List.length_filter_le _ _) (by decide)
  · exact Nat.zero_le _
end Go.Proofs.YtlndgepoekllkaaGreatDoor
/- store's nodes: its walk. -/
namespace Go.Proofs.YtlndgepoekllkaaGreatDoor
open Go.RowKit Go.ChangeMaps

set_option maxRecDepth 100000 in
theorem idxW (f : Nat → Bool) (k : Nat) (hk : k ≤ 15) (W : World) : (Instr.index 85 (.agg #[.bool (f 0), .bool (f 1), .bool (f 2), .bool (f 3), .bool (f 4), .bool (f 5), .bool (f 6), .bool (f 7), .bool (f 8), .bool (f 9), .bool (f 10), .bool (f 11), .bool (f 12), .bool (f 13), .bool (f 14), .bool (f 15)]) (.int .i64 (k : Int))).run Tryz.prog W = .ok (.bool (f k)) W := by
  have h16 : k = 0 ∨ k = 1 ∨ k = 2 ∨ k = 3 ∨ k = 4 ∨ k = 5 ∨ k = 6 ∨ k = 7 ∨ k = 8 ∨ k = 9 ∨ k = 10 ∨ k = 11 ∨ k = 12 ∨ k = 13 ∨ k = 14 ∨ k = 15 := by omega
  rcases h16 with rfl | rfl | rfl | rfl | rfl | rfl | rfl | rfl | rfl | rfl | rfl | rfl | rfl | rfl | rfl | rfl <;> (show _ = _; kernel_rfl)
theorem info_inS : (Tryz.prog.info? 3).map (fun i => (i.zero, i.size, i.bytes)) = some (some (.int .i64 0), 1, 8) := by kernel_rfl
/-- For whom is waited, in memory of its own. -/
def NdP (l : List Int) (w : World) (e : Ending) (w' : World) : Prop := ∃ v, e = .returned v ∧ w'.ownsRow w.heap.size 3 1 v l.length (iCells l) ∧ Below w.heap.size w w'
set_option maxRecDepth 100000 in
set_option maxHeartbeats 2000000 in
theorem nodesK_any (w : World) (g : Nat) (x : Kp) (vo va vc : Value) (hk : w.heap[g]? = some (.cells (kpA x vo va vc) 87 (0, 0))) :
    Calls Tryz.prog 31 #[.pointer (some ⟨g, 0, none⟩)] w fun e w' => NdP (nodK x.f 16) w e w' := by
  obtain ⟨t, s, f⟩ := x
  dsimp only
  have c0 : w.cell? ⟨g, 9, none⟩ = some (.bool (f 0)) := by rw [Lib.cell_of_heap hk]; rfl
  have c1 : w.cell? ⟨g, 10, none⟩ = some (.bool (f 1)) := by rw [Lib.cell_of_heap hk]; rfl
  have c2 : w.cell? ⟨g, 11, none⟩ = some (.bool (f 2)) := by rw [Lib.cell_of_heap hk]; rfl
  have c3 : w.cell? ⟨g, 12, none⟩ = some (.bool (f 3)) := by rw [Lib.cell_of_heap hk]; rfl
  have c4 : w.cell? ⟨g, 13, none⟩ = some (.bool (f 4)) := by rw [Lib.cell_of_heap hk]; rfl
  have c5 : w.cell? ⟨g, 14, none⟩ = some (.bool (f 5)) := by rw [Lib.cell_of_heap hk]; rfl
  have c6 : w.cell? ⟨g, 15, none⟩ = some (.bool (f 6)) := by rw [Lib.cell_of_heap hk]; rfl
  have c7 : w.cell? ⟨g, 16, none⟩ = some (.bool (f 7)) := by rw [Lib.cell_of_heap hk]; rfl
  have c8 : w.cell? ⟨g, 17, none⟩ = some (.bool (f 8)) := by rw [Lib.cell_of_heap hk]; rfl
  have c9 : w.cell? ⟨g, 18, none⟩ = some (.bool (f 9)) := by rw [Lib.cell_of_heap hk]; rfl
  have c10 : w.cell? ⟨g, 19, none⟩ = some (.bool (f 10)) := by rw [Lib.cell_of_heap hk]; rfl
  have c11 : w.cell? ⟨g, 20, none⟩ = some (.bool (f 11)) := by rw [Lib.cell_of_heap hk]; rfl
  have c12 : w.cell? ⟨g, 21, none⟩ = some (.bool (f 12)) := by rw [Lib.cell_of_heap hk]; rfl
  have c13 : w.cell? ⟨g, 22, none⟩ = some (.bool (f 13)) := by rw [Lib.cell_of_heap hk]; rfl
  have c14 : w.cell? ⟨g, 23, none⟩ = some (.bool (f 14)) := by rw [Lib.cell_of_heap hk]; rfl
  have c15 : w.cell? ⟨g, 24, none⟩ = some (.bool (f 15)) := by rw [Lib.cell_of_heap hk]; rfl
  have HIx : Hid (∀ (k : Nat), k ≤ 15 → ∀ W, (Instr.index 85 (.agg #[.bool (f 0), .bool (f 1), .bool (f 2), .bool (f 3), .bool (f 4), .bool (f 5), .bool (f 6), .bool (f 7), .bool (f 8), .bool (f 9), .bool (f 10), .bool (f 11), .bool (f 12), .bool (f 13), .bool (f 14), .bool (f 15)]) (.int .i64 (k : Int))).run Tryz.prog W = .ok (.bool (f k)) W) := fun k h W => idxW f k h W
  clear hk
  obtain ⟨i0, hi0, hz0, hz1, hz2⟩ := info_parts info_inS
  go_enter Tryz.func31, Tryz.ntmps31
  go_wp2_with fail
  clear c0 c1 c2 c3 c4 c5 c6 c7 c8 c9 c10 c11 c12 c13 c14 c15
  go_loopw [2, 9] (fun o i wr => ∃ (k : Nat) (va : Option Addr) (vc : Nat), k ≤ 16 ∧ i = .int .i64 (k : Int) ∧ o = .slice va (nodK f k).length vc ∧ Hid (wr.ownsRow w.heap.size 3 1 (.slice va (nodK f k).length vc) (nodK f k).length (iCells (nodK f k))) ∧ Hid (Below w.heap.size w wr)) (fun _ i _ => 16 - (intOf i).toNat)
  case atStart => exact ⟨0, none, 0, Nat.zero_le _, rfl, rfl, World.ownsRow_nil _ _ _ _, Below.refl _ _⟩
  case round =>
    obtain ⟨k, va, vc, hk, rfl, rfl, HO, HB⟩ := hrel
    have hsz := HB.out.size
    by_cases hlk : k ≤ 15
    · have dk : decide ((k : Int) < 16) = true := by simp; omega
      have hix := HIx.out k hlk
      have hln := nodK_len f k
      cases hf : f k
      · have HE : Hid (nodK f (k + 1) = nodK f k) := nodK_no hf
        rw [hf] at hix
        clear hf HIx
        go_wp2
        go_roundw
        case rel => exact ⟨k + 1, va, vc, by omega, by simp, by rw [HE.out], by rw [HE.out]; exact HO, HB⟩
        case measure => simp [intOf]; omega
      · have HE : Hid (nodK f (k + 1) = nodK f k ++ [(k : Int)]) := nodK_yes hf
        rw [hf] at hix
        clear hf HIx
        obtain ⟨L, hL⟩ : ∃ L, L = nodK f k := ⟨_, rfl⟩
        rw [← hL] at HE HO hln ⊢
        clear hL
        go_wp2_with (at_builtin; go_loud (refine wpl_appE wr rfl (.tmp 14) (.tmp 16) 36 3 rfl i0 _ 1 8 Tryz.underlying36 hi0 hz0 hz1 hz2 rfl (by decide) w.heap.size (.slice va L.length vc) L.length (iCells L) rfl HO.out [.int .i64 (k : Int)] rfl _ rfl rfl (by simp [Value.oneCell']) (by omega) (by unfold maxLen; omega) hsz ?_; intro v4 w4 ho4 hb4; obtain ⟨va4, vc4, rfl⟩ := (IsRow.own ho4).form))
        have HB4 : Hid (Below w.heap.size w w4) := HB.out.trans hb4
        have HO4 : Hid (w4.ownsRow w.heap.size 3 1 (.slice va4 (L.length + 1) vc4) (L.length + 1) (iCells L ++ [.int .i64 (k : Int)])) := ho4
        clear ho4 hb4 HO
        go_wp2
        go_roundw
        case rel => exact ⟨k + 1, va4, vc4, by omega, by simp, by rw [HE.out, List.length_append, List.length_singleton], by show World.ownsRow _ _ _ _ _ _ _; rw [HE.out, List.length_append, List.length_singleton, iCells, List.map_append]; exact HO4.out, HB4⟩
        case measure => simp [intOf]; omega
    · obtain rfl : k = 16 := by omega
      have dk : decide ((16 : Int) < 16) = false := by simp
      clear HIx
      go_wp2
      go_ret
      exact ⟨_, rfl, HO.out, HB.out⟩
end Go.Proofs.YtlndgepoekllkaaGreatDoor
