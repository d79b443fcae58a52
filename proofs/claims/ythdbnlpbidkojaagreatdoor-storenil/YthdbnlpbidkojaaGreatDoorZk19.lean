/- Put and keep where there is no room; Put of what may not be, and of what was made no earlier: walks. -/
import Derived.Test.YthdbnlpbidkojaaGreatDoorZk14
import Derived.Test.YthdbnlpbidkojaaGreatDoorZk18
import Derived.Test.YthdbnlpbidkojaaGreatDoorZk9
namespace Go.Proofs.YthdbnlpbidkojaaGreatDoor
open Go.RowKit Go.ChangeMaps

set_option maxRecDepth 100000 in
set_option maxHeartbeats 4000000 in
theorem keep_full {base : Nat} {w : World} {s m : Nat} {E : List (ByteArray × Nat)} {X : Nat → Kp} (h : StV base w s m E X) (t : Ty) (vo va vc : Value) (hr : IsTy w t vo va vc) (hn : t.n.size ≤ 1000000) (hT : UT w) (hL : lkS E (fldB t.n) = none) (hf : 200 ≤ E.length) :
    Calls Tryz.prog 42 #[stP s, tyV t vo va vc] w fun e w' => e = .returned (.int .i64 6) ∧ Below w.heap.size w w' := by
  obtain ⟨ao, co, rfl⟩ := hr.1.form
  obtain ⟨aa, ca, rfl⟩ := hr.2.1.form
  obtain ⟨ac, cc, rfl⟩ := hr.2.2.form
  have HFi : Hid (∀ W, Below w.heap.size w W → Calls Tryz.prog 35 #[stP s, .string t.n] W fun e w' => e = .returned (.pointer none) ∧ Below W.heap.size W w') := fun W hb => by
    have := find_any (h.below hb) t.n hn (Utf8Tabs_below hT hb)
    rw [hL] at this
    exact this
  have HC : Hid (∀ W, Below w.heap.size w W → W.cell? ⟨s, 0, none⟩ = some (.map (some m)) ∧ ∀ ty, (Builtin.len_ #[63] ty #[.map (some m)]).run Tryz.prog W = .ok (.int .i64 E.length) W) := fun W hb => ⟨(h.below hb).cell, fun ty => (h.below hb).mp.len ty⟩
  have d1 : decide ((200 : Int) ≤ (E.length : Int)) = true := decide_eq_true (by omega)
  clear h hr hn hT hL hf
  obtain ⟨w1, hw1⟩ : ∃ w1, w1 = w.alloc (.cells (tyA t (.slice ao t.own.length co) (.slice aa t.all.length ca) (.slice ac t.ch.length cc)) 35) := ⟨_, rfl⟩
  have B1 : Hid (Below w.heap.size w w1) := by show Below _ _ _; rw [hw1]; exact al_b _ _
  have hn1 : w1.heap[w.heap.size]? = some (.cells (tyA t (.slice ao t.own.length co) (.slice aa t.all.length ca) (.slice ac t.ch.length cc)) 35 (0, 0)) := by rw [hw1]; exact new_at _ _
  have C1 : Hid (∀ W, Below w1.heap.size w1 W → W.heap[w.heap.size]? = some (.cells (tyA t (.slice ao t.own.length co) (.slice aa t.all.length ca) (.slice ac t.ch.length cc)) 35 (0, 0))) := fun W h => (h.block _ (Array.getElem?_eq_some_iff.1 hn1).1).trans hn1
  clear hn1
  have hk := C1.out w1 (Below.refl _ _)
  have c1_0 : w1.cell? ⟨w.heap.size, 0, none⟩ = some (.string t.n) := by rw [Lib.cell_of_heap hk]; rfl
  have c1_1 : w1.cell? ⟨w.heap.size, 1, none⟩ = some (.string t.p) := by rw [Lib.cell_of_heap hk]; rfl
  have c1_2 : w1.cell? ⟨w.heap.size, 2, none⟩ = some (.slice ao t.own.length co) := by rw [Lib.cell_of_heap hk]; rfl
  have c1_3 : w1.cell? ⟨w.heap.size, 3, none⟩ = some (.slice aa t.all.length ca) := by rw [Lib.cell_of_heap hk]; rfl
  have c1_4 : w1.cell? ⟨w.heap.size, 4, none⟩ = some (.slice ac t.ch.length cc) := by rw [Lib.cell_of_heap hk]; rfl
  have c1_5 : w1.cell? ⟨w.heap.size, 5, none⟩ = some (.int .i64 t.nd) := by rw [Lib.cell_of_heap hk]; rfl
  have c1_6 : w1.cell? ⟨w.heap.size, 6, none⟩ = some (.int .i64 t.lf) := by rw [Lib.cell_of_heap hk]; rfl
  have c1_7 : w1.cell? ⟨w.heap.size, 7, none⟩ = some (.int .i64 t.sq) := by rw [Lib.cell_of_heap hk]; rfl
  clear hk
  rw [hw1] at c1_0 c1_1 c1_2 c1_3 c1_4 c1_5 c1_6 c1_7
  go_enter Tryz.func42, Tryz.ntmps42
  go_wp2_with fail
  rw [← hw1]
  clear hw1
  clear c1_0 c1_1 c1_2 c1_3 c1_4 c1_5 c1_6 c1_7
  refine (HFi.out _ B1.out).mono ?_
  rintro e w2 ⟨rfl, hb⟩
  have B2 : Hid (Below w1.heap.size w1 w2) := hb
  clear hb 
  obtain ⟨cs, hlen⟩ := HC.out _ (bTS B1.out B2.out)
  have HBz : Hid (Below w.heap.size w w2) := (bTS B1.out B2.out)
  go_wp2
  go_ret
  exact ⟨rfl, HBz.out⟩
set_option maxRecDepth 100000 in
set_option maxHeartbeats 4000000 in
theorem put_bad (s : Nat) (t : Ty) (vo va vc : Value) (w : World) (hr : IsTy w t vo va vc) (hn : NmT t) (hT : UT w) (hM : ML w) (hc : chkT t = false) :
    Calls Tryz.prog 15 #[stP s, tyV t vo va vc] w fun e w' => e = .returned (.tuple #[tyV zT (.slice none 0 0) (.slice none 0 0) (.slice none 0 0), .int .i64 1]) ∧ Below w.heap.size w w' := by
  obtain ⟨ao, co, rfl⟩ := hr.1.form
  obtain ⟨aa, ca, rfl⟩ := hr.2.1.form
  obtain ⟨ac, cc, rfl⟩ := hr.2.2.form
  have HCh : Hid (∀ W, Below w.heap.size w W → Calls Tryz.prog 17 #[(tyV t (.slice ao t.own.length co) (.slice aa t.all.length ca) (.slice ac t.ch.length cc))] W fun e w' => e = .returned (.bool false) ∧ Below W.heap.size W w') := fun W hb => hc ▸ checkT_any t _ _ _ W (hr.below hb) hn (Utf8Tabs_below hT hb) (ML_below hM hb)
  clear hr hn hT hM hc
  obtain ⟨w1, hw1⟩ : ∃ w1, w1 = w.alloc (.cells (tyA t (.slice ao t.own.length co) (.slice aa t.all.length ca) (.slice ac t.ch.length cc)) 35) := ⟨_, rfl⟩
  have B1 : Hid (Below w.heap.size w w1) := by show Below _ _ _; rw [hw1]; exact al_b _ _
  have hn1 : w1.heap[w.heap.size]? = some (.cells (tyA t (.slice ao t.own.length co) (.slice aa t.all.length ca) (.slice ac t.ch.length cc)) 35 (0, 0)) := by rw [hw1]; exact new_at _ _
  have C1 : Hid (∀ W, Below w1.heap.size w1 W → W.heap[w.heap.size]? = some (.cells (tyA t (.slice ao t.own.length co) (.slice aa t.all.length ca) (.slice ac t.ch.length cc)) 35 (0, 0))) := fun W h => (h.block _ (Array.getElem?_eq_some_iff.1 hn1).1).trans hn1
  clear hn1
  obtain ⟨w2, hw2⟩ : ∃ w2, w2 = w1.alloc (.cells zTyA 35) := ⟨_, rfl⟩
  have B2 : Hid (Below w1.heap.size w1 w2) := by show Below _ _ _; rw [hw2]; exact al_b _ _
  have hn2 : w2.heap[(w.heap.size + 1)]? = some (.cells zTyA 35 (0, 0)) := by rw [hw2]; rw [show w.heap.size + 1 = w1.heap.size by (rw [hw1]; simp)]; exact new_at _ _
  have C2 : Hid (∀ W, Below w2.heap.size w2 W → W.heap[(w.heap.size + 1)]? = some (.cells zTyA 35 (0, 0))) := fun W h => (h.block _ (Array.getElem?_eq_some_iff.1 hn2).1).trans hn2
  clear hn2
  have hk := C1.out w2 B2.out
  have c1_0 : w2.cell? ⟨w.heap.size, 0, none⟩ = some (.string t.n) := by rw [Lib.cell_of_heap hk]; rfl
  have c1_1 : w2.cell? ⟨w.heap.size, 1, none⟩ = some (.string t.p) := by rw [Lib.cell_of_heap hk]; rfl
  have c1_2 : w2.cell? ⟨w.heap.size, 2, none⟩ = some (.slice ao t.own.length co) := by rw [Lib.cell_of_heap hk]; rfl
  have c1_3 : w2.cell? ⟨w.heap.size, 3, none⟩ = some (.slice aa t.all.length ca) := by rw [Lib.cell_of_heap hk]; rfl
  have c1_4 : w2.cell? ⟨w.heap.size, 4, none⟩ = some (.slice ac t.ch.length cc) := by rw [Lib.cell_of_heap hk]; rfl
  have c1_5 : w2.cell? ⟨w.heap.size, 5, none⟩ = some (.int .i64 t.nd) := by rw [Lib.cell_of_heap hk]; rfl
  have c1_6 : w2.cell? ⟨w.heap.size, 6, none⟩ = some (.int .i64 t.lf) := by rw [Lib.cell_of_heap hk]; rfl
  have c1_7 : w2.cell? ⟨w.heap.size, 7, none⟩ = some (.int .i64 t.sq) := by rw [Lib.cell_of_heap hk]; rfl
  clear hk
  rw [hw2, hw1] at c1_0 c1_1 c1_2 c1_3 c1_4 c1_5 c1_6 c1_7
  go_enter Tryz.func15, Tryz.ntmps15
  go_wp2_with fail
  rw [← hw1, ← hw2]
  clear hw1 hw2
  clear c1_0 c1_1 c1_2 c1_3 c1_4 c1_5 c1_6 c1_7
  refine (HCh.out _ (bTS B1.out B2.out)).mono ?_
  rintro e w3 ⟨rfl, hb⟩
  have B3 : Hid (Below w2.heap.size w2 w3) := hb
  clear hb 
  obtain ⟨⟨e0, e1, e2, e3⟩, e4, e5, e6, e7⟩ := BxT.of (t := zT) (C2.out _ B3.out)
  have f0 : ∀ j, w3.frozen? ⟨w.heap.size + 1, j, none⟩ = false := fun j => Lib.frozen_of_heap (C2.out _ B3.out) j
  have HB : Hid (Below w.heap.size w w3) := (bTS (bTS B1.out B2.out) B3.out)
  have HEnd : Hid (∀ u0 u1 u2 u3 u4 u5 u6 u7, Below w.heap.size w (st8 w3 (w.heap.size + 1) u0 u1 u2 u3 u4 u5 u6 u7)) := fun u0 u1 u2 u3 u4 u5 u6 u7 => below8 HB.out (Nat.le_add_right _ 1) u0 u1 u2 u3 u4 u5 u6 u7
  clear HB HCh
  go_wp2_with fail
  try simp only [Exit.inBlock, Exit.then]
  refine bodyPost_ret (v := .tuple #[tyV zT (.slice none 0 0) (.slice none 0 0) (.slice none 0 0), .int .i64 1]) ?_ rfl ⟨rfl, HEnd.out _ _ _ _ _ _ _ _⟩
  rw [results_c2 rfl]; go_simp
  first | done | exact ⟨rfl, rfl, rfl, rfl, rfl⟩
set_option maxRecDepth 100000 in
set_option maxHeartbeats 4000000 in
theorem put_full {base : Nat} {w : World} {s m : Nat} {E : List (ByteArray × Nat)} {X : Nat → Kp} (h : StV base w s m E X) (t : Ty) (vo va vc : Value) (hr : IsTy w t vo va vc) (hnm : NmT t) (hT : UT w) (hM : ML w) (hc : chkT t = true) (hL : lkS E (fldB t.n) = none) (hf : 200 ≤ E.length) :
    Calls Tryz.prog 15 #[stP s, tyV t vo va vc] w fun e w' => e = .returned (.tuple #[tyV zT (.slice none 0 0) (.slice none 0 0) (.slice none 0 0), .int .i64 6]) ∧ Below w.heap.size w w' := by
  have hn := hnm.n
  obtain ⟨ao, co, rfl⟩ := hr.1.form
  obtain ⟨aa, ca, rfl⟩ := hr.2.1.form
  obtain ⟨ac, cc, rfl⟩ := hr.2.2.form
  have HCh : Hid (∀ W, Below w.heap.size w W → Calls Tryz.prog 17 #[(tyV t (.slice ao t.own.length co) (.slice aa t.all.length ca) (.slice ac t.ch.length cc))] W fun e w' => e = .returned (.bool true) ∧ Below W.heap.size W w') := fun W hb => hc ▸ checkT_any t _ _ _ W (hr.below hb) hnm (Utf8Tabs_below hT hb) (ML_below hM hb)
  have HFi : Hid (∀ W, Below w.heap.size w W → Calls Tryz.prog 35 #[stP s, .string t.n] W fun e w' => e = .returned (.pointer none) ∧ Below W.heap.size W w') := fun W hb => by
    have := find_any (h.below hb) t.n hn (Utf8Tabs_below hT hb)
    rw [hL] at this
    exact this
  have HOr : Hid (∀ (a b c a' b' c' : Int) W, Calls Tryz.prog 19 #[idV a b c, idV a' b' c'] W fun e w' => e = .returned (.int .i64 (or3 (ordI a a') (ordI b b') (ordI c c'))) ∧ Below W.heap.size W w') := fun a b c a' b' c' W => order_any a b c a' b' c' W
  have HKe : Hid (∀ W, Below w.heap.size w W → Calls Tryz.prog 42 #[stP s, (tyV t (.slice ao t.own.length co) (.slice aa t.all.length ca) (.slice ac t.ch.length cc))] W fun e w' => e = .returned (.int .i64 6) ∧ Below W.heap.size W w') := fun W hb => keep_full (h.below hb) t _ _ _ (hr.below hb) hn (Utf8Tabs_below hT hb) hL hf
  clear h hr hn hnm hT hM hc hL hf
  obtain ⟨w1, hw1⟩ : ∃ w1, w1 = w.alloc (.cells (tyA t (.slice ao t.own.length co) (.slice aa t.all.length ca) (.slice ac t.ch.length cc)) 35) := ⟨_, rfl⟩
  have B1 : Hid (Below w.heap.size w w1) := by show Below _ _ _; rw [hw1]; exact al_b _ _
  have hn1 : w1.heap[w.heap.size]? = some (.cells (tyA t (.slice ao t.own.length co) (.slice aa t.all.length ca) (.slice ac t.ch.length cc)) 35 (0, 0)) := by rw [hw1]; exact new_at _ _
  have C1 : Hid (∀ W, Below w1.heap.size w1 W → W.heap[w.heap.size]? = some (.cells (tyA t (.slice ao t.own.length co) (.slice aa t.all.length ca) (.slice ac t.ch.length cc)) 35 (0, 0))) := fun W h => (h.block _ (Array.getElem?_eq_some_iff.1 hn1).1).trans hn1
  clear hn1
  obtain ⟨w2, hw2⟩ : ∃ w2, w2 = w1.alloc (.cells zTyA 35) := ⟨_, rfl⟩
  have B2 : Hid (Below w1.heap.size w1 w2) := by show Below _ _ _; rw [hw2]; exact al_b _ _
  have hn2 : w2.heap[(w.heap.size + 1)]? = some (.cells zTyA 35 (0, 0)) := by rw [hw2]; rw [show w.heap.size + 1 = w1.heap.size by (rw [hw1]; simp)]; exact new_at _ _
  have C2 : Hid (∀ W, Below w2.heap.size w2 W → W.heap[(w.heap.size + 1)]? = some (.cells zTyA 35 (0, 0))) := fun W h => (h.block _ (Array.getElem?_eq_some_iff.1 hn2).1).trans hn2
  clear hn2
  have hk := C1.out w2 B2.out
  have c1_0 : w2.cell? ⟨w.heap.size, 0, none⟩ = some (.string t.n) := by rw [Lib.cell_of_heap hk]; rfl
  have c1_1 : w2.cell? ⟨w.heap.size, 1, none⟩ = some (.string t.p) := by rw [Lib.cell_of_heap hk]; rfl
  have c1_2 : w2.cell? ⟨w.heap.size, 2, none⟩ = some (.slice ao t.own.length co) := by rw [Lib.cell_of_heap hk]; rfl
  have c1_3 : w2.cell? ⟨w.heap.size, 3, none⟩ = some (.slice aa t.all.length ca) := by rw [Lib.cell_of_heap hk]; rfl
  have c1_4 : w2.cell? ⟨w.heap.size, 4, none⟩ = some (.slice ac t.ch.length cc) := by rw [Lib.cell_of_heap hk]; rfl
  have c1_5 : w2.cell? ⟨w.heap.size, 5, none⟩ = some (.int .i64 t.nd) := by rw [Lib.cell_of_heap hk]; rfl
  have c1_6 : w2.cell? ⟨w.heap.size, 6, none⟩ = some (.int .i64 t.lf) := by rw [Lib.cell_of_heap hk]; rfl
  have c1_7 : w2.cell? ⟨w.heap.size, 7, none⟩ = some (.int .i64 t.sq) := by rw [Lib.cell_of_heap hk]; rfl
  clear hk
  rw [hw2, hw1] at c1_0 c1_1 c1_2 c1_3 c1_4 c1_5 c1_6 c1_7
  go_enter Tryz.func15, Tryz.ntmps15
  go_wp2_with fail
  rw [← hw1, ← hw2]
  clear hw1 hw2
  clear c1_0 c1_1 c1_2 c1_3 c1_4 c1_5 c1_6 c1_7
  refine (HCh.out _ (bTS B1.out B2.out)).mono ?_
  rintro e w3 ⟨rfl, hb⟩
  have B3 : Hid (Below w2.heap.size w2 w3) := hb
  clear hb 
  have hk := C1.out w3 (bTS B2.out B3.out)
  have c1_0 : w3.cell? ⟨w.heap.size, 0, none⟩ = some (.string t.n) := by rw [Lib.cell_of_heap hk]; rfl
  have c1_1 : w3.cell? ⟨w.heap.size, 1, none⟩ = some (.string t.p) := by rw [Lib.cell_of_heap hk]; rfl
  have c1_2 : w3.cell? ⟨w.heap.size, 2, none⟩ = some (.slice ao t.own.length co) := by rw [Lib.cell_of_heap hk]; rfl
  have c1_3 : w3.cell? ⟨w.heap.size, 3, none⟩ = some (.slice aa t.all.length ca) := by rw [Lib.cell_of_heap hk]; rfl
  have c1_4 : w3.cell? ⟨w.heap.size, 4, none⟩ = some (.slice ac t.ch.length cc) := by rw [Lib.cell_of_heap hk]; rfl
  have c1_5 : w3.cell? ⟨w.heap.size, 5, none⟩ = some (.int .i64 t.nd) := by rw [Lib.cell_of_heap hk]; rfl
  have c1_6 : w3.cell? ⟨w.heap.size, 6, none⟩ = some (.int .i64 t.lf) := by rw [Lib.cell_of_heap hk]; rfl
  have c1_7 : w3.cell? ⟨w.heap.size, 7, none⟩ = some (.int .i64 t.sq) := by rw [Lib.cell_of_heap hk]; rfl
  clear hk
  go_wp2_with fail
  clear c1_0 c1_1 c1_2 c1_3 c1_4 c1_5 c1_6 c1_7
  refine (HFi.out _ (bTS (bTS B1.out B2.out) B3.out)).mono ?_
  rintro e w4 ⟨rfl, hb⟩
  have B4 : Hid (Below w3.heap.size w3 w4) := hb
  clear hb 
  go_wp2_with fail
  refine wp_region_quiet (C := fun w' => Below w4.heap.size w4 w') (by kernel_rfl) (by kernel_rfl) ((Below.refl _ _).drew) ?_
  dsimp only
  repeat (first
    | go_big_quiet_skip
    | (go_big_quiet_want
       apply Exists.intro
       refine ⟨fun W' hW' => ?_, ?_⟩
       · have hw : Below w4.heap.size w4 W' := hW'
         go_simp
         first
           | done
           | rfl
           | (go_at_call 19; (with_reducible refine Calls.mono (HOr.out _ _ _ _ _ _ W') ?_); rintro e w'' ⟨rfl, hb⟩; exact ⟨rfl, hw.trans (hb.mono hw.size)⟩)
       go_big_quiet_on
       try simp only [Act.put, List.setIfInBounds_toArray, List.set_cons_zero, List.set_cons_succ]))
  refine wpQuiet_nil ?_
  intro wq hqw
  have Bq : Hid (Below w4.heap.size w4 wq) := hqw
  clear hqw
  have hk := C1.out wq (bTS (bTS (bTS B2.out B3.out) B4.out) Bq.out)
  have c1_0 : wq.cell? ⟨w.heap.size, 0, none⟩ = some (.string t.n) := by rw [Lib.cell_of_heap hk]; rfl
  have c1_1 : wq.cell? ⟨w.heap.size, 1, none⟩ = some (.string t.p) := by rw [Lib.cell_of_heap hk]; rfl
  have c1_2 : wq.cell? ⟨w.heap.size, 2, none⟩ = some (.slice ao t.own.length co) := by rw [Lib.cell_of_heap hk]; rfl
  have c1_3 : wq.cell? ⟨w.heap.size, 3, none⟩ = some (.slice aa t.all.length ca) := by rw [Lib.cell_of_heap hk]; rfl
  have c1_4 : wq.cell? ⟨w.heap.size, 4, none⟩ = some (.slice ac t.ch.length cc) := by rw [Lib.cell_of_heap hk]; rfl
  have c1_5 : wq.cell? ⟨w.heap.size, 5, none⟩ = some (.int .i64 t.nd) := by rw [Lib.cell_of_heap hk]; rfl
  have c1_6 : wq.cell? ⟨w.heap.size, 6, none⟩ = some (.int .i64 t.lf) := by rw [Lib.cell_of_heap hk]; rfl
  have c1_7 : wq.cell? ⟨w.heap.size, 7, none⟩ = some (.int .i64 t.sq) := by rw [Lib.cell_of_heap hk]; rfl
  clear hk
  go_wp2_with fail
  clear c1_0 c1_1 c1_2 c1_3 c1_4 c1_5 c1_6 c1_7
  refine (HKe.out _ (bTS (bTS (bTS (bTS B1.out B2.out) B3.out) B4.out) Bq.out)).mono ?_
  rintro e w5 ⟨rfl, hb⟩
  have B5 : Hid (Below wq.heap.size wq w5) := hb
  clear hb 
  obtain ⟨⟨e0, e1, e2, e3⟩, e4, e5, e6, e7⟩ := BxT.of (t := zT) (C2.out _ (bTS (bTS (bTS B3.out B4.out) Bq.out) B5.out))
  have f0 : ∀ j, w5.frozen? ⟨w.heap.size + 1, j, none⟩ = false := fun j => Lib.frozen_of_heap (C2.out _ (bTS (bTS (bTS B3.out B4.out) Bq.out) B5.out)) j
  have HB : Hid (Below w.heap.size w w5) := (bTS (bTS (bTS (bTS (bTS B1.out B2.out) B3.out) B4.out) Bq.out) B5.out)
  have HEnd : Hid (∀ u0 u1 u2 u3 u4 u5 u6 u7, Below w.heap.size w (st8 w5 (w.heap.size + 1) u0 u1 u2 u3 u4 u5 u6 u7)) := fun u0 u1 u2 u3 u4 u5 u6 u7 => below8 HB.out (Nat.le_add_right _ 1) u0 u1 u2 u3 u4 u5 u6 u7
  clear HB HCh HFi HOr HKe
  go_wp2_with fail
  try simp only [Exit.inBlock, Exit.then]
  refine bodyPost_ret (v := .tuple #[tyV zT (.slice none 0 0) (.slice none 0 0) (.slice none 0 0), .int .i64 6]) ?_ rfl ⟨rfl, HEnd.out _ _ _ _ _ _ _ _⟩
  rw [results_c2 rfl]; go_simp
  first | done | exact ⟨rfl, rfl, rfl, rfl, rfl⟩
/-- What Put hands out of one that is kept already. -/
def PoP (t0 : Ty) (w : World) (e : Ending) (w' : World) : Prop := ∃ v1 v2 v3, e = .returned (.tuple #[tyV t0 v1 v2 v3, .int .i64 0]) ∧ OwnTy w.heap.size w' t0 v1 v2 v3 ∧ Below w.heap.size w w'
set_option maxRecDepth 100000 in
set_option maxHeartbeats 4000000 in
theorem put_old {base : Nat} {w : World} {s m : Nat} {E : List (ByteArray × Nat)} {X : Nat → Kp} (h : StV base w s m E X) (t : Ty) (vo va vc : Value) (hr : IsTy w t vo va vc) (hnm : NmT t) (hT : UT w) (hM : ML w) (hc : chkT t = true) {g0 : Nat} (hL : lkS E (fldB t.n) = some g0) (hord : ¬ or3 (ordI t.nd (X g0).t.nd) (ordI t.lf (X g0).t.lf) (ordI t.sq (X g0).t.sq) < 0) (q1 : (X g0).t.own.length ≤ 1000) (q2 : (X g0).t.all.length ≤ 1000) (q3 : (X g0).t.ch.length ≤ 1000) :
    Calls Tryz.prog 15 #[stP s, tyV t vo va vc] w fun e w' => PoP (X g0).t w e w' := by
  have hn := hnm.n
  obtain ⟨ao, co, rfl⟩ := hr.1.form
  obtain ⟨aa, ca, rfl⟩ := hr.2.1.form
  obtain ⟨ac, cc, rfl⟩ := hr.2.2.form
  have HCh : Hid (∀ W, Below w.heap.size w W → Calls Tryz.prog 17 #[(tyV t (.slice ao t.own.length co) (.slice aa t.all.length ca) (.slice ac t.ch.length cc))] W fun e w' => e = .returned (.bool true) ∧ Below W.heap.size W w') := fun W hb => hc ▸ checkT_any t _ _ _ W (hr.below hb) hnm (Utf8Tabs_below hT hb) (ML_below hM hb)
  have HFi : Hid (∀ W, Below w.heap.size w W → Calls Tryz.prog 35 #[stP s, .string t.n] W fun e w' => e = .returned (.pointer (some ⟨g0, 0, none⟩)) ∧ Below W.heap.size W w') := fun W hb => by
    have := find_any (h.below hb) t.n hn (Utf8Tabs_below hT hb)
    rw [hL] at this
    exact this
  have HOr : Hid (∀ (a b c a' b' c' : Int) W, Calls Tryz.prog 19 #[idV a b c, idV a' b' c'] W fun e w' => e = .returned (.int .i64 (or3 (ordI a a') (ordI b b') (ordI c c'))) ∧ Below W.heap.size W w') := fun a b c a' b' c' W => order_any a b c a' b' c' W
  obtain ⟨-, wo, wa, wc, h0, ho⟩ := h.kp _ (lkS_mem hL)
  dsimp only at h0 ho
  obtain ⟨bo, do_, rfl⟩ := ho.is.1.form
  obtain ⟨ba, da, rfl⟩ := ho.is.2.1.form
  obtain ⟨bc, dc, rfl⟩ := ho.is.2.2.form
  obtain ⟨x, hX⟩ : ∃ x, x = X g0 := ⟨_, rfl⟩
  rw [← hX] at h0 ho hord q1 q2 q3 ⊢
  have HK : Hid (∀ W, Below w.heap.size w W → BxT g0 x.t (.slice bo x.t.own.length do_) (.slice ba x.t.all.length da) (.slice bc x.t.ch.length dc) W) := fun W hb => by
    have hk := (hb.block _ (Array.getElem?_eq_some_iff.1 h0).1).trans h0
    have c : ∀ j, W.cell? ⟨g0, j, none⟩ = (kpA x (.slice bo x.t.own.length do_) (.slice ba x.t.all.length da) (.slice bc x.t.ch.length dc))[j]? := fun j => by rw [Lib.cell_of_heap hk]
    exact ⟨⟨c 0, c 1, c 2, c 3⟩, c 4, c 5, c 6, c 7⟩
  have HCo : Hid (∀ W, Below w.heap.size w W → Calls Tryz.prog 36 #[tyV x.t (.slice bo x.t.own.length do_) (.slice ba x.t.all.length da) (.slice bc x.t.ch.length dc)] W fun e w' => CpT x.t W e w') := fun W hb => copyOf_any x.t _ _ _ W (ho.is.below hb) q1 q2 q3
  obtain ⟨o, hO⟩ : ∃ o, o = or3 (ordI t.nd x.t.nd) (ordI t.lf x.t.lf) (ordI t.sq x.t.sq) := ⟨_, rfl⟩
  have HOr : Hid (∀ W, Calls Tryz.prog 19 #[idV t.nd t.lf t.sq, idV x.t.nd x.t.lf x.t.sq] W fun e w' => e = .returned (.int .i64 o) ∧ Below W.heap.size W w') := fun W => by rw [hO]; exact HOr.out _ _ _ _ _ _ W
  rw [← hO] at hord
  have do1 : decide ((0 : Int) ≤ o) = true := decide_eq_true (by omega)
  have do2 : decide (o < 0) = false := decide_eq_false (by omega)
  obtain ⟨R, hR⟩ : ∃ R : Ending → World → Prop, R = PoP x.t w := ⟨_, rfl⟩
  have HRd : Hid (∀ e w', PoP x.t w e w' → R e w') := fun e w' hh => by rw [hR]; exact hh
  show Calls Tryz.prog 15 #[stP s, (tyV t (.slice ao t.own.length co) (.slice aa t.all.length ca) (.slice ac t.ch.length cc))] w fun e w' => PoP x.t w e w'
  rw [← hR]
  clear h hr hn hnm hT hM hc hL h0 ho hord q1 q2 q3 hX hO hR
  obtain ⟨w1, hw1⟩ : ∃ w1, w1 = w.alloc (.cells (tyA t (.slice ao t.own.length co) (.slice aa t.all.length ca) (.slice ac t.ch.length cc)) 35) := ⟨_, rfl⟩
  have B1 : Hid (Below w.heap.size w w1) := by show Below _ _ _; rw [hw1]; exact al_b _ _
  have hn1 : w1.heap[w.heap.size]? = some (.cells (tyA t (.slice ao t.own.length co) (.slice aa t.all.length ca) (.slice ac t.ch.length cc)) 35 (0, 0)) := by rw [hw1]; exact new_at _ _
  have C1 : Hid (∀ W, Below w1.heap.size w1 W → W.heap[w.heap.size]? = some (.cells (tyA t (.slice ao t.own.length co) (.slice aa t.all.length ca) (.slice ac t.ch.length cc)) 35 (0, 0))) := fun W h => (h.block _ (Array.getElem?_eq_some_iff.1 hn1).1).trans hn1
  clear hn1
  obtain ⟨w2, hw2⟩ : ∃ w2, w2 = w1.alloc (.cells zTyA 35) := ⟨_, rfl⟩
  have B2 : Hid (Below w1.heap.size w1 w2) := by show Below _ _ _; rw [hw2]; exact al_b _ _
  have hn2 : w2.heap[(w.heap.size + 1)]? = some (.cells zTyA 35 (0, 0)) := by rw [hw2]; rw [show w.heap.size + 1 = w1.heap.size by (rw [hw1]; simp)]; exact new_at _ _
  have C2 : Hid (∀ W, Below w2.heap.size w2 W → W.heap[(w.heap.size + 1)]? = some (.cells zTyA 35 (0, 0))) := fun W h => (h.block _ (Array.getElem?_eq_some_iff.1 hn2).1).trans hn2
  clear hn2
  have hk := C1.out w2 B2.out
  have c1_0 : w2.cell? ⟨w.heap.size, 0, none⟩ = some (.string t.n) := by rw [Lib.cell_of_heap hk]; rfl
  have c1_1 : w2.cell? ⟨w.heap.size, 1, none⟩ = some (.string t.p) := by rw [Lib.cell_of_heap hk]; rfl
  have c1_2 : w2.cell? ⟨w.heap.size, 2, none⟩ = some (.slice ao t.own.length co) := by rw [Lib.cell_of_heap hk]; rfl
  have c1_3 : w2.cell? ⟨w.heap.size, 3, none⟩ = some (.slice aa t.all.length ca) := by rw [Lib.cell_of_heap hk]; rfl
  have c1_4 : w2.cell? ⟨w.heap.size, 4, none⟩ = some (.slice ac t.ch.length cc) := by rw [Lib.cell_of_heap hk]; rfl
  have c1_5 : w2.cell? ⟨w.heap.size, 5, none⟩ = some (.int .i64 t.nd) := by rw [Lib.cell_of_heap hk]; rfl
  have c1_6 : w2.cell? ⟨w.heap.size, 6, none⟩ = some (.int .i64 t.lf) := by rw [Lib.cell_of_heap hk]; rfl
  have c1_7 : w2.cell? ⟨w.heap.size, 7, none⟩ = some (.int .i64 t.sq) := by rw [Lib.cell_of_heap hk]; rfl
  clear hk
  rw [hw2, hw1] at c1_0 c1_1 c1_2 c1_3 c1_4 c1_5 c1_6 c1_7
  go_enter Tryz.func15, Tryz.ntmps15
  go_wp2_with fail
  rw [← hw1, ← hw2]
  clear hw1 hw2
  clear c1_0 c1_1 c1_2 c1_3 c1_4 c1_5 c1_6 c1_7
  refine (HCh.out _ (bTS B1.out B2.out)).mono ?_
  rintro e w3 ⟨rfl, hb⟩
  have B3 : Hid (Below w2.heap.size w2 w3) := hb
  clear hb 
  have hk := C1.out w3 (bTS B2.out B3.out)
  have c1_0 : w3.cell? ⟨w.heap.size, 0, none⟩ = some (.string t.n) := by rw [Lib.cell_of_heap hk]; rfl
  have c1_1 : w3.cell? ⟨w.heap.size, 1, none⟩ = some (.string t.p) := by rw [Lib.cell_of_heap hk]; rfl
  have c1_2 : w3.cell? ⟨w.heap.size, 2, none⟩ = some (.slice ao t.own.length co) := by rw [Lib.cell_of_heap hk]; rfl
  have c1_3 : w3.cell? ⟨w.heap.size, 3, none⟩ = some (.slice aa t.all.length ca) := by rw [Lib.cell_of_heap hk]; rfl
  have c1_4 : w3.cell? ⟨w.heap.size, 4, none⟩ = some (.slice ac t.ch.length cc) := by rw [Lib.cell_of_heap hk]; rfl
  have c1_5 : w3.cell? ⟨w.heap.size, 5, none⟩ = some (.int .i64 t.nd) := by rw [Lib.cell_of_heap hk]; rfl
  have c1_6 : w3.cell? ⟨w.heap.size, 6, none⟩ = some (.int .i64 t.lf) := by rw [Lib.cell_of_heap hk]; rfl
  have c1_7 : w3.cell? ⟨w.heap.size, 7, none⟩ = some (.int .i64 t.sq) := by rw [Lib.cell_of_heap hk]; rfl
  clear hk
  go_wp2_with fail
  clear c1_0 c1_1 c1_2 c1_3 c1_4 c1_5 c1_6 c1_7
  refine (HFi.out _ (bTS (bTS B1.out B2.out) B3.out)).mono ?_
  rintro e w4 ⟨rfl, hb⟩
  have B4 : Hid (Below w3.heap.size w3 w4) := hb
  clear hb 
  go_wp2_with fail
  refine wp_region_quiet (C := fun w' => Below w4.heap.size w4 w') (by kernel_rfl) (by kernel_rfl) ((Below.refl _ _).drew) ?_
  dsimp only
  repeat (first
    | go_big_quiet_skip
    | (go_big_quiet_want
       apply Exists.intro
       refine ⟨fun W' hW' => ?_, ?_⟩
       · have hw : Below w4.heap.size w4 W' := hW'
         have hkT := C1.out W' (bTS (bTS (bTS B2.out B3.out) B4.out) hw)
         obtain ⟨⟨s0, s1, s2, s3⟩, s4, s5, s6, s7⟩ := BxT.of hkT
         obtain ⟨⟨r0, r1, r2, r3⟩, r4, r5, r6, r7⟩ := HK.out W' (bTS (bTS (bTS (bTS B1.out B2.out) B3.out) B4.out) hw)
         clear hkT
         go_simp
         first
           | done
           | rfl
           | (go_at_call 19; (with_reducible refine Calls.mono (HOr.out W') ?_); rintro e w'' ⟨rfl, hb⟩; exact ⟨rfl, hw.trans (hb.mono hw.size)⟩)
       go_big_quiet_on
       try simp only [Act.put, List.setIfInBounds_toArray, List.set_cons_zero, List.set_cons_succ]))
  refine wpQuiet_nil ?_
  intro wq hqw
  have Bq : Hid (Below w4.heap.size w4 wq) := hqw
  clear hqw
  obtain ⟨⟨r0, r1, r2, r3⟩, r4, r5, r6, r7⟩ := HK.out wq (bTS (bTS (bTS (bTS B1.out B2.out) B3.out) B4.out) Bq.out)
  go_wp2_with fail
  clear r0 r1 r2 r3 r4 r5 r6 r7
  refine (HCo.out wq (bTS (bTS (bTS (bTS B1.out B2.out) B3.out) B4.out) Bq.out)).mono ?_
  rintro e wb ⟨v1, v2, v3, rfl, ho, hb⟩
  obtain ⟨x1, y1, rfl⟩ := (IsRow.own ho.1).form
  obtain ⟨x2, y2, rfl⟩ := (IsRow.own ho.2.1).form
  obtain ⟨x3, y3, rfl⟩ := (IsRow.own ho.2.2).form
  have HZa : Hid (wq.heap[w.heap.size + 1]? = some (.cells zTyA 35 (0, 0))) := C2.out _ (bTS (bTS B3.out B4.out) Bq.out)
  have HZb : Hid (wb.heap[w.heap.size + 1]? = some (.cells zTyA 35 (0, 0))) := (hb.block _ (Array.getElem?_eq_some_iff.1 HZa.out).1).trans HZa.out
  have hlt : w.heap.size + 1 < wq.heap.size := (Array.getElem?_eq_some_iff.1 HZa.out).1
  have HBq : Hid (Below w.heap.size w wb) := Below.trans (bTS (bTS (bTS (bTS B1.out B2.out) B3.out) B4.out) Bq.out) (hb.mono (Below.size (bTS (bTS (bTS (bTS B1.out B2.out) B3.out) B4.out) Bq.out)))
  have HEnd : Hid (∀ u0 u1 u2 u3 u4 u5 u6 u7, R (.returned (.tuple #[tyV x.t (.slice x1 x.t.own.length y1) (.slice x2 x.t.all.length y2) (.slice x3 x.t.ch.length y3), .int .i64 0])) (st8 wb (w.heap.size + 1) u0 u1 u2 u3 u4 u5 u6 u7)) := fun u0 u1 u2 u3 u4 u5 u6 u7 => HRd.out _ _ ⟨_, _, _, rfl, ((((((((((ho.set hlt 0 u0).set hlt 1 u1).set hlt 2 u2).set hlt 3 u3).set hlt 4 u4).set hlt 5 u5).set hlt 6 u6).set hlt 7 u7).le (Nat.le_of_lt (Nat.lt_of_succ_lt hlt)))), below8 HBq.out (Nat.le_add_right _ 1) u0 u1 u2 u3 u4 u5 u6 u7⟩
  obtain ⟨⟨e0, e1, e2, e3⟩, e4, e5, e6, e7⟩ := BxT.of (t := zT) HZb.out
  have f0 : ∀ j, wb.frozen? ⟨w.heap.size + 1, j, none⟩ = false := fun j => Lib.frozen_of_heap HZb.out j
  clear ho hb HZa HRd HBq HK HCo hlt
  go_wp2_with fail
  try simp only [Exit.inBlock, Exit.then]
  refine bodyPost_ret (v := .tuple #[tyV x.t (.slice x1 x.t.own.length y1) (.slice x2 x.t.all.length y2) (.slice x3 x.t.ch.length y3), .int .i64 0]) ?_ rfl (HEnd.out _ _ _ _ _ _ _ _)
  rw [results_c2 rfl]; go_simp
  first | done | exact ⟨rfl, rfl, rfl, rfl, rfl⟩
end Go.Proofs.YthdbnlpbidkojaaGreatDoor
/- Puts one behind the other, plainly: which type is kept of a name; two stores in memory. -/
namespace Go.Proofs.YthdbnlpbidkojaaGreatDoor
open Go.RowKit Go.ChangeMaps

/-- Was the one made earlier than the other one? -/
def Earl (t u : Ty) : Prop := ordY t u < 0
theorem ordI_cases (a b : Int) : (a < b ∧ ordI a b = -1) ∨ (a = b ∧ ordI a b = 0) ∨ (b < a ∧ ordI a b = 1) := by
  unfold ordI
  by_cases h1 : a < b
  · exact .inl ⟨h1, by rw [if_pos h1]⟩
  · by_cases h2 : b < a
    · exact .inr (.inr ⟨h2, by rw [if_neg h1, if_pos h2]⟩)
    · exact .inr (.inl ⟨by omega, by rw [if_neg h1, if_neg h2]⟩)
theorem earl_iff {t u : Ty} : Earl t u ↔ t.nd < u.nd ∨ (t.nd = u.nd ∧ (t.lf < u.lf ∨ (t.lf = u.lf ∧ t.sq < u.sq))) := by
  unfold Earl ordY or3
  rcases ordI_cases t.nd u.nd with ⟨h, e⟩ | ⟨h, e⟩ | ⟨h, e⟩ <;> rw [e]
  · simp; omega
  · rcases ordI_cases t.lf u.lf with ⟨h2, e2⟩ | ⟨h2, e2⟩ | ⟨h2, e2⟩ <;> rw [e2]
    · simp; omega
    · rcases ordI_cases t.sq u.sq with ⟨h3, e3⟩ | ⟨h3, e3⟩ | ⟨h3, e3⟩ <;> rw [e3] <;> simp <;> omega
    · simp; omega
  · simp; omega
/-- Were both made by one? -/
def ByE (t u : Ty) : Prop := t.nd = u.nd ∧ t.lf = u.lf ∧ t.sq = u.sq
theorem earl_trans {s t u : Ty} (h1 : Earl s t) (h2 : Earl t u) : Earl s u := by
  rw [earl_iff] at *
  omega
theorem earl_irr (t : Ty) : ¬ Earl t t := by
  rw [earl_iff]
  omega
theorem earl_neither {t u : Ty} (h1 : ¬ Earl t u) (h2 : ¬ Earl u t) : ByE t u := by
  rw [earl_iff] at *
  unfold ByE
  omega
/-- What is kept, key by key. -/
def cont (E : List (ByteArray × Nat)) (X : Nat → Kp) (k : ByteArray) : Option Ty := (lkS E k).map fun g => (X g).t
/-- What is kept at a key, of these types: the one made first. -/
def Good (l : List Ty) (k : ByteArray) : Option Ty → Prop
  | none => ∀ t ∈ l, chkT t = true → fldB t.n ≠ k
  | some u => u ∈ l ∧ chkT u = true ∧ fldB u.n = k ∧ ∀ t ∈ l, chkT t = true → fldB t.n = k → ¬ Earl t u
theorem good_nil (k : ByteArray) : Good [] k none := fun _ ht => nomatch ht
theorem good_uniq {l l' : List Ty} {k : ByteArray} {o o' : Option Ty} (hm : ∀ t, t ∈ l ↔ t ∈ l') (hb : ∀ t ∈ l, ∀ u ∈ l, ByE t u → t = u) (h : Good l k o) (h' : Good l' k o') : o = o' := by
  cases o with
  | none =>
    cases o' with
    | none => rfl
    | some u => exact absurd h'.2.2.1 (h u ((hm u).2 h'.1) h'.2.1)
  | some u =>
    cases o' with
    | none => exact absurd h.2.2.1 (h' u ((hm u).1 h.1) h.2.1)
    | some v =>
      have e1 := h.2.2.2 v ((hm v).2 h'.1) h'.2.1 h'.2.2.1
      have e2 := h'.2.2.2 u ((hm u).1 h.1) h.2.1 h.2.2.1
      rw [hb u h.1 v ((hm v).2 h'.1) (earl_neither e2 e1)]
theorem good_skip {l : List Ty} {t : Ty} {k : ByteArray} {o : Option Ty} (h : Good l k o) (ht : chkT t = true → fldB t.n = k → ∃ u, o = some u ∧ ¬ Earl t u) : Good (l ++ [t]) k o := by
  cases o with
  | none =>
    intro s hs hc e
    rcases List.mem_append.1 hs with hs | hs
    · exact h s hs hc e
    · obtain rfl := List.mem_singleton.1 hs
      obtain ⟨u, hu, -⟩ := ht hc e
      cases hu
  | some u =>
    refine ⟨List.mem_append.2 (.inl h.1), h.2.1, h.2.2.1, fun s hs hc e => ?_⟩
    rcases List.mem_append.1 hs with hs | hs
    · exact h.2.2.2 s hs hc e
    · obtain rfl := List.mem_singleton.1 hs
      obtain ⟨v, hv, hn⟩ := ht hc e
      obtain rfl := Option.some.inj hv
      exact hn
theorem good_take {l : List Ty} {t : Ty} {o : Option Ty} (h : Good l (fldB t.n) o) (hc : chkT t = true) (he : ∀ u, o = some u → Earl t u) : Good (l ++ [t]) (fldB t.n) (some t) := by
  refine ⟨List.mem_append.2 (.inr (List.mem_singleton.2 rfl)), hc, rfl, fun s hs hcs e => ?_⟩
  rcases List.mem_append.1 hs with hs | hs
  · cases o with
    | none => exact absurd e (h s hs hcs)
    | some u => exact fun hst => h.2.2.2 s hs hcs e (earl_trans hst (he u rfl))
  · obtain rfl := List.mem_singleton.1 hs
    exact earl_irr _
/-- A store into which these types have been put, one behind the other. -/
structure PuI (base : Nat) (w : World) (s m : Nat) (l : List Ty) (E : List (ByteArray × Nat)) (X : Nat → Kp) : Prop where
  st : StV base w s m E X
  le : E.length ≤ l.length
  gd : ∀ k, Good l k (cont E X k)
theorem PuI.below {base : Nat} {w w' : World} {s m : Nat} {l : List Ty} {E : List (ByteArray × Nat)} {X : Nat → Kp} (h : PuI base w s m l E X) (hb : Below w.heap.size w w') : PuI base w' s m l E X := ⟨h.st.below hb, h.le, h.gd⟩
theorem stS_len (E : List (ByteArray × Nat)) (k : ByteArray) (g : Nat) : (stS E k g).length ≤ E.length + 1 := by
  unfold stS
  split
  · rw [List.length_append]; exact Nat.le_refl _
  · rw [List.length_map]; exact Nat.le_succ _
theorem lkS_stS (E : List (ByteArray × Nat)) (k : ByteArray) (g : Nat) (k' : ByteArray) : lkS (stS E k g) k' = if k' = k then some g else lkS E k' := by
  by_cases hn : lkS E k = none
  · unfold stS
    rw [if_pos hn]
    unfold lkS at hn ⊢
    rw [Option.map_eq_none_iff] at hn
    rw [List.find?_append]
    by_cases e : k' = k
    · subst e
      rw [if_pos rfl, hn]
      simp
    · rw [if_neg e]
      have : (List.find? (fun p : ByteArray × Nat => decide (p.1 = k')) [(k, g)]) = none := by simp [Ne.symm e]
      rw [this, Option.or_none]
  · unfold stS
    rw [if_neg hn]
    unfold lkS at hn ⊢
    induction E with
    | nil => exact absurd rfl hn
    | cons p E ih =>
      rw [List.map_cons, List.find?_cons, List.find?_cons]
      by_cases hp : p.1 = k
      · rw [if_pos hp]
        by_cases e : k' = k
        · subst e
          simp
        · rw [if_neg e]
          have h1 : decide ((k, g).1 = k') = false := decide_eq_false (Ne.symm e)
          have h2 : decide (p.1 = k') = false := decide_eq_false (by rw [hp]; exact Ne.symm e)
          rw [h1, h2]
          clear ih hn
          dsimp only
          induction E with
          | nil => rfl
          | cons q E ih =>
            rw [List.map_cons, List.find?_cons, List.find?_cons]
            by_cases hq : q.1 = k
            · rw [if_pos hq]
              have h3 : decide (q.1 = k') = false := decide_eq_false (by rw [hq]; exact Ne.symm e)
              rw [h1, h3]
              exact ih
            · rw [if_neg hq]
              cases hd : decide (q.1 = k')
              · exact ih
              · rfl
      · rw [if_neg hp]
        rw [List.find?_cons, decide_eq_false hp] at hn
        cases hd : decide (p.1 = k')
        · exact ih hn
        · have e : k' ≠ k := fun e => hp ((of_decide_eq_true hd).trans e)
          rw [if_neg e]
theorem cont_put {base : Nat} {w : World} {s m g : Nat} {E : List (ByteArray × Nat)} {X : Nat → Kp} (h : StV base w s m E X) (hg : w.heap.size ≤ g) (k : ByteArray) (x : Kp) (k' : ByteArray) : cont (stS E k g) (upX X g x) k' = if k' = k then some x.t else cont E X k' := by
  unfold cont
  rw [lkS_stS]
  by_cases e : k' = k
  · rw [if_pos e, if_pos e]
    show some (upX X g x g).t = _
    unfold upX
    rw [if_pos rfl]
  · rw [if_neg e, if_neg e]
    cases hl : lkS E k' with
    | none => rfl
    | some g0 =>
      have hlt := (h.lt (.inr (List.mem_map.2 ⟨_, lkS_memB hl, rfl⟩))).2
      show some (upX X g x g0).t = some (X g0).t
      unfold upX
      rw [if_neg (by dsimp only at hlt; omega)]
/-- Whatever is put: what is kept then. -/
def PgP (base : Nat) (w : World) (s m : Nat) (l : List Ty) (t : Ty) (e : Ending) (w' : World) : Prop :=
  (∃ v, e = .returned v) ∧ (∃ E X, PuI base w' s m (l ++ [t]) E X) ∧ Stp w (fun k => k = m) (fun k => k = m) w' ∧ CKp w w'
theorem putG_any {base : Nat} {w : World} {s m : Nat} {l : List Ty} {E : List (ByteArray × Nat)} {X : Nat → Kp} (h : PuI base w s m l E X) (hb0 : base ≤ w.heap.size) (hl : l.length ≤ 100) (hsm : ∀ t ∈ l, SmT t) (t : Ty) (vo va vc : Value) (hr : IsTy w t vo va vc) (hq : SmT t) (hn : NmT t) (hT : UT w) (hM : ML w) :
    Calls Tryz.prog 15 #[stP s, tyV t vo va vc] w fun e w' => PgP base w s m l t e w' := by
  cases hc : chkT t
  · refine (put_bad s t vo va vc w hr hn hT hM hc).mono ?_
    rintro e w' ⟨rfl, hb⟩
    exact ⟨⟨_, rfl⟩, ⟨E, X, h.st.below hb, by rw [List.length_append]; exact Nat.le_trans h.le (Nat.le_add_right _ _), fun k => good_skip (h.gd k) fun hh => by rw [hc] at hh; cases hh⟩, Stp.of _ hb, CKp.of hb⟩
  · have hnew : (∀ g0, lkS E (fldB t.n) = some g0 → or3 (ordI t.nd (X g0).t.nd) (ordI t.lf (X g0).t.lf) (ordI t.sq (X g0).t.sq) < 0) → Calls Tryz.prog 15 #[stP s, tyV t vo va vc] w fun e w' => PgP base w s m l t e w' := fun hord => by
      refine (put_new h.st hb0 t vo va vc hr hq.1 hq.2.1 hq.2.2 hn hT hM hc (fun _ => by have := h.le; omega) hord).mono ?_
      rintro e w' ⟨g, v1, v2, v3, rfl, hS, hg, hs, -⟩
      refine ⟨⟨_, rfl⟩, ⟨_, _, hS, ?_, fun k => ?_⟩, hs, CKp.stp h.st hs⟩
      · rw [List.length_append, List.length_singleton]
        exact Nat.le_trans (stS_len E _ g) (Nat.succ_le_succ h.le)
      · rw [cont_put h.st hg]
        by_cases e : k = fldB t.n
        · rw [if_pos e, e]
          refine good_take (h.gd _) hc fun u hu => ?_
          unfold cont at hu
          obtain ⟨g0, hg0, rfl⟩ := Option.map_eq_some_iff.1 hu
          exact hord g0 hg0
        · rw [if_neg e]
          exact good_skip (h.gd k) fun _ ee => absurd ee.symm e
    cases hL : lkS E (fldB t.n) with
    | none => exact hnew fun g0 hh => by rw [hL] at hh; cases hh
    | some g0 =>
      by_cases ho : or3 (ordI t.nd (X g0).t.nd) (ordI t.lf (X g0).t.lf) (ordI t.sq (X g0).t.sq) < 0
      · exact hnew fun g1 hh => by
          rw [hL] at hh
          obtain rfl := Option.some.inj hh
          exact ho
      · have hgd := h.gd (fldB t.n)
        unfold cont at hgd
        rw [hL] at hgd
        have hmem : (X g0).t ∈ l := hgd.1
        obtain ⟨s1, s2, s3⟩ := hsm _ hmem
        refine (put_old h.st t vo va vc hr hn hT hM hc hL ho s1 s2 s3).mono ?_
        rintro e w' ⟨v1, v2, v3, rfl, -, hb⟩
        refine ⟨⟨_, rfl⟩, ⟨E, X, h.st.below hb, by rw [List.length_append]; exact Nat.le_trans h.le (Nat.le_add_right _ _), fun k => good_skip (h.gd k) fun _ ee => ?_⟩, Stp.of _ hb, CKp.of hb⟩
        refine ⟨(X g0).t, ?_, ho⟩
        unfold cont
        rw [← ee, hL]
        rfl
/-- A store beside one into which something is put stays what it is. -/
theorem PuI.beside {base : Nat} {w w' : World} {s m m2 : Nat} {l : List Ty} {E : List (ByteArray × Nat)} {X : Nat → Kp} (h : PuI base w s m l E X) (hne : m ≠ m2) (hs : Stp w (fun k => k = m2) (fun k => k = m2) w') (hc : CKp w w') : PuI base w' s m l E X := by
  refine ⟨⟨h.st.lo, h.st.lm, (hc.2 _ _ _ _ h.st.blk).trans h.st.blk, h.st.mp.keep (hs.block m h.st.mp.lt hne), fun p hp => ?_, h.st.nd⟩, h.le, h.gd⟩
  refine (h.st.kp p hp).keep ?_ fun j C z hj => by
    rcases hj with hj | hj
    · exact hc.2 _ _ _ _ hj
    · exact hc.2 _ _ _ _ hj
  obtain ⟨-, v1, v2, v3, hb, -⟩ := h.st.kp p hp
  exact hc.2 _ _ _ _ hb
theorem cont_key {E : List (ByteArray × Nat)} {X : Nat → Kp} {k : ByteArray} : k ∈ E.map (·.1) ↔ cont E X k ≠ none := by
  unfold cont
  constructor
  · intro h
    obtain ⟨g, hg, -⟩ := lkS_key h
    rw [hg]
    simp
  · intro h
    cases hl : lkS E k with
    | none => rw [hl] at h; exact absurd rfl h
    | some g => exact List.mem_map.2 ⟨_, lkS_memB hl, rfl⟩
theorem cont_tyK {E : List (ByteArray × Nat)} {X : Nat → Kp} {k : ByteArray} (h : k ∈ E.map (·.1)) : cont E X k = some (tyK E X k) := by
  obtain ⟨g, hg, -⟩ := lkS_key h
  unfold cont tyK
  rw [hg]
  rfl
theorem PuI.sm {base : Nat} {w : World} {s m : Nat} {l : List Ty} {E : List (ByteArray × Nat)} {X : Nat → Kp} (h : PuI base w s m l E X) (hl : l.length ≤ 100) (hsm : ∀ t ∈ l, SmT t ∧ t.n.size ≤ 200) : SmE E X := by
  refine ⟨fun p hp => ?_, by have := h.le; omega⟩
  obtain ⟨a, ha, ea⟩ := List.mem_iff_getElem.1 hp
  have hl' : lkS E p.1 = some p.2 := lkS_at (j := a) (by rw [List.getElem?_eq_getElem ha, ea]) h.st.mp.2
  have hg := h.gd p.1
  unfold cont at hg
  rw [hl'] at hg
  have h1 : (X p.2).t ∈ l := hg.1
  have h3 : fldB (X p.2).t.n = p.1 := hg.2.2.1
  obtain ⟨⟨s1, s2, s3⟩, s4⟩ := hsm _ h1
  refine ⟨?_, s1, s2, s3⟩
  rw [← h3]
  have := fold_size (X p.2).t.n
  unfold fldB
  omega
/-- Two stores of the same types hand out the same ones, in the same order. -/
theorem all_same {l l' : List Ty} {E E' : List (ByteArray × Nat)} {X X' : Nat → Kp} (hm : ∀ t, t ∈ l ↔ t ∈ l') (hb : ∀ t ∈ l, ∀ u ∈ l, ByE t u → t = u) (h : ∀ k, Good l k (cont E X k)) (h' : ∀ k, Good l' k (cont E' X' k)) (hn : (E.map (·.1)).Nodup) (hn' : (E'.map (·.1)).Nodup) {D D' : List ByteArray} (hD : SrtK E D) (hD' : SrtK E' D') : D.map (tyK E X) = D'.map (tyK E' X') := by
  have hc : ∀ k, cont E X k = cont E' X' k := fun k => good_uniq hm hb (h k) (h' k)
  have hk : ∀ k, k ∈ E.map (·.1) ↔ k ∈ E'.map (·.1) := fun k => by rw [cont_key (X := X), cont_key (X := X'), hc k]
  have hp : (E.map (·.1)).Perm (E'.map (·.1)) := (List.perm_ext_iff_of_nodup hn hn').2 hk
  have hDD : D = D' := by
    refine List.Perm.eq_of_pairwise (le := fun a b => ¬ cmpL b.data.toList a.data.toList < 0) (fun a b ha hb' h1 h2 => ?_) (show D.Pairwise (fun a b => ¬ cmpL b.data.toList a.data.toList < 0) from hD.2) (show D'.Pairwise (fun a b => ¬ cmpL b.data.toList a.data.toList < 0) from hD'.2) ((hD.1.trans hp).trans hD'.1.symm)
    have fix : ∀ k, k ∈ E.map (·.1) → ∃ u : Ty, fldB u.n = k := fun k hk' => by
      have hg := h k
      rw [cont_tyK hk'] at hg
      exact ⟨_, hg.2.2.1⟩
    obtain ⟨u, rfl⟩ := fix a (hD.1.mem_iff.1 ha)
    obtain ⟨v, rfl⟩ := fix b ((hk b).2 (hD'.1.mem_iff.1 hb'))
    have e0 : cmpL (fldB u.n).data.toList (fldB v.n).data.toList = 0 := by
      have an := cmp_anti (foldL (fldB u.n).data.toList) (foldL (fldB v.n).data.toList)
      unfold cmpL at *
      omega
    have e1 := cmpL_zero.1 e0
    unfold fldB at e1 ⊢
    rw [str_data, str_data, foldL_idem, foldL_idem] at e1
    rw [e1]
  subst hDD
  refine List.map_congr_left fun k hk' => ?_
  have h1 := hD.1.mem_iff.1 hk'
  have h2 := (hk k).1 h1
  have := (cont_tyK (X := X) h1).symm.trans ((hc k).trans (cont_tyK (X := X') h2))
  exact Option.some.inj this
end Go.Proofs.YthdbnlpbidkojaaGreatDoor
