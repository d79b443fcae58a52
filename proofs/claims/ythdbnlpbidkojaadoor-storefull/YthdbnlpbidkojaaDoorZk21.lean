/- Put and keep where there is no room; Put of what may not be, and of what was made no earlier: walks. -/
import Derived.Test.YthdbnlpbidkojaaDoorZk14
import Derived.Test.YthdbnlpbidkojaaDoorZk20
import Derived.Test.YthdbnlpbidkojaaDoorZk9
namespace Go.Proofs.YthdbnlpbidkojaaDoor
open Go.RowKit Go.ChangeMaps

set_option maxRecDepth 100000 in
set_option maxHeartbeats 4000000 in
theorem keep_full {base : Nat} {w : World} {s m : Nat} {E : List (ByteArray × Nat)} {X : Nat → Kp} (h : StV base w s m E X) (t : Ty) (vo va vc : Value) (hr : IsTy w t vo va vc) (hn : t.n.size ≤ 1000000) (hT : UT w) (hL : lkS E (fldB t.n) = none) (hf : 200 ≤ E.length) :
    Calls Tryd.prog 26 #[stP s, tyV t vo va vc] w fun e w' => e = .returned (.int .i64 6) ∧ Below w.heap.size w w' := by
  obtain ⟨ao, co, rfl⟩ := hr.1.form
  obtain ⟨aa, ca, rfl⟩ := hr.2.1.form
  obtain ⟨ac, cc, rfl⟩ := hr.2.2.form
  have HFi : Hid (∀ W, Below w.heap.size w W → Calls Tryd.prog 23 #[stP s, .string t.n] W fun e w' => e = .returned (.pointer none) ∧ Below W.heap.size W w') := fun W hb => by
    have := find_any (h.below hb) t.n hn (Utf8Tabs_below hT hb)
    rw [hL] at this
    exact this
  have HC : Hid (∀ W, Below w.heap.size w W → W.cell? ⟨s, 0, none⟩ = some (.map (some m)) ∧ ∀ ty, (Builtin.len_ #[62] ty #[.map (some m)]).run Tryd.prog W = .ok (.int .i64 E.length) W) := fun W hb => ⟨(h.below hb).cell, fun ty => (h.below hb).mp.len ty⟩
  have d1 : decide ((200 : Int) ≤ (E.length : Int)) = true := decide_eq_true (by omega)
  clear h hr hn hT hL hf
  obtain ⟨w1, hw1⟩ : ∃ w1, w1 = w.alloc (.cells (tyA t (.slice ao t.own.length co) (.slice aa t.all.length ca) (.slice ac t.ch.length cc)) 29) := ⟨_, rfl⟩
  have B1 : Hid (Below w.heap.size w w1) := by show Below _ _ _; rw [hw1]; exact al_b _ _
  have hn1 : w1.heap[w.heap.size]? = some (.cells (tyA t (.slice ao t.own.length co) (.slice aa t.all.length ca) (.slice ac t.ch.length cc)) 29 (0, 0)) := by rw [hw1]; exact new_at _ _
  have C1 : Hid (∀ W, Below w1.heap.size w1 W → W.heap[w.heap.size]? = some (.cells (tyA t (.slice ao t.own.length co) (.slice aa t.all.length ca) (.slice ac t.ch.length cc)) 29 (0, 0))) := fun W h => (h.block _ (Array.getElem?_eq_some_iff.1 hn1).1).trans hn1
  clear hn1
  have hk := C1.out w1 (Below.refl _ _)
  have c1_0 : w1.cell? ⟨w.heap.size, 0, none⟩ = some (.string t.n) := by rw [Lib.cell_of_heap hk]; rfl
  have c1_1 : w1.cell? ⟨w.heap.size, 1, none⟩ = some (.string t.p) := by rw [Lib.cell_of_heap hk]; rfl
  have c1_2 : w1.cell? ⟨w.heap.size, 2, none⟩ = some (.slice ao t.own.length co) := by rw [Lib.cell_of_heap hk]; rfl
  have c1_3 : w1.cell? ⟨w.heap.size, 3, none⟩ = some (.slice aa t.all.length ca) := by rw [Lib.cell_of_heap hk]; rfl
  have c1_4 : w1.cell? ⟨w.heap.size, 4, none⟩ = some (.slice ac t.ch.length cc) := by rw [Lib.cell_of_heap hk]; rfl
  have c1_5 : w1.cell? ⟨w.heap.size, 5, none⟩ = some (.int .i64 t.nd) := by rw [Lib.cell_of_heap hk]; rfl
  have c1_6 : w1.cell? ⟨w.heap.size, 6, none⟩ = some (.int .i64 t.lf) := by rw [Lib.cell_of_heap hk]; rfl
  have c1_7 : w1.cell? ⟨w.heap.size, 7, none⟩ = some (.int .i64 t.sq) := by rw [Lib.cell_of_heap hk]; rfl
  clear hk
  rw [hw1] at c1_0 c1_1 c1_2 c1_3 c1_4 c1_5 c1_6 c1_7
  go_enter Tryd.func26, Tryd.ntmps26
  go_wp2_with fail
  rw [← hw1]
  clear hw1
  clear c1_0 c1_1 c1_2 c1_3 c1_4 c1_5 c1_6 c1_7
  refine (HFi.out _ B1.out).mono ?_
  rintro e w2 ⟨rfl, hb⟩
  have B2 : Hid (Below w1.heap.size w1 w2) := hb
  clear hb 
  obtain ⟨cs, hlen⟩ := HC.out _ (bTS B1.out B2.out)
  have HBz : Hid (Below w.heap.size w w2) := (bTS B1.out B2.out)
  go_wp2
  go_ret
  exact ⟨rfl, HBz.out⟩
set_option maxRecDepth 100000 in
set_option maxHeartbeats 4000000 in
theorem put_bad (s : Nat) (t : Ty) (vo va vc : Value) (w : World) (hr : IsTy w t vo va vc) (hn : NmT t) (hT : UT w) (hM : ML w) (hc : chkT t = false) :
    Calls Tryd.prog 8 #[stP s, tyV t vo va vc] w fun e w' => e = .returned (.tuple #[tyV zT (.slice none 0 0) (.slice none 0 0) (.slice none 0 0), .int .i64 1]) ∧ Below w.heap.size w w' := by
  obtain ⟨ao, co, rfl⟩ := hr.1.form
  obtain ⟨aa, ca, rfl⟩ := hr.2.1.form
  obtain ⟨ac, cc, rfl⟩ := hr.2.2.form
  have HCh : Hid (∀ W, Below w.heap.size w W → Calls Tryd.prog 22 #[(tyV t (.slice ao t.own.length co) (.slice aa t.all.length ca) (.slice ac t.ch.length cc))] W fun e w' => e = .returned (.bool false) ∧ Below W.heap.size W w') := fun W hb => hc ▸ checkT_any t _ _ _ W (hr.below hb) hn (Utf8Tabs_below hT hb) (ML_below hM hb)
  clear hr hn hT hM hc
  obtain ⟨w1, hw1⟩ : ∃ w1, w1 = w.alloc (.cells (tyA t (.slice ao t.own.length co) (.slice aa t.all.length ca) (.slice ac t.ch.length cc)) 29) := ⟨_, rfl⟩
  have B1 : Hid (Below w.heap.size w w1) := by show Below _ _ _; rw [hw1]; exact al_b _ _
  have hn1 : w1.heap[w.heap.size]? = some (.cells (tyA t (.slice ao t.own.length co) (.slice aa t.all.length ca) (.slice ac t.ch.length cc)) 29 (0, 0)) := by rw [hw1]; exact new_at _ _
  have C1 : Hid (∀ W, Below w1.heap.size w1 W → W.heap[w.heap.size]? = some (.cells (tyA t (.slice ao t.own.length co) (.slice aa t.all.length ca) (.slice ac t.ch.length cc)) 29 (0, 0))) := fun W h => (h.block _ (Array.getElem?_eq_some_iff.1 hn1).1).trans hn1
  clear hn1
  obtain ⟨w2, hw2⟩ : ∃ w2, w2 = w1.alloc (.cells zTyA 29) := ⟨_, rfl⟩
  have B2 : Hid (Below w1.heap.size w1 w2) := by show Below _ _ _; rw [hw2]; exact al_b _ _
  have hn2 : w2.heap[(w.heap.size + 1)]? = some (.cells zTyA 29 (0, 0)) := by rw [hw2]; rw [show w.heap.size + 1 = w1.heap.size by (rw [hw1]; simp)]; exact new_at _ _
  have C2 : Hid (∀ W, Below w2.heap.size w2 W → W.heap[(w.heap.size + 1)]? = some (.cells zTyA 29 (0, 0))) := fun W h => (h.block _ (Array.getElem?_eq_some_iff.1 hn2).1).trans hn2
  clear hn2
  have hk := C1.out w2 B2.out
  have c1_0 : w2.cell? ⟨w.heap.size, 0, none⟩ = some (.string t.n) := by rw [Lib.cell_of_heap hk]; rfl
  have c1_1 : w2.cell? ⟨w.heap.size, 1, none⟩ = some (.string t.p) := by rw [Lib.cell_of_heap hk]; rfl
  have c1_2 : w2.cell? ⟨w.heap.size, 2, none⟩ = some (.slice ao t.own.length co) := by rw [Lib.cell_of_heap hk]; rfl
  have c1_3 : w2.cell? ⟨w.heap.size, 3, none⟩ = some (.slice aa t.all.length ca) := by rw [Lib.cell_of_heap hk]; rfl
  have c1_4 : w2.cell? ⟨w.heap.size, 4, none⟩ = some (.slice ac t.ch.length cc) := by rw [Lib.cell_of_heap hk]; rfl
  have c1_5 : w2.cell? ⟨w.heap.size, 5, none⟩ = some (.int .i64 t.nd) := by rw [Lib.cell_of_heap hk]; rfl
  have c1_6 : w2.cell? ⟨w.heap.size, 6, none⟩ = some (.int .i64 t.lf) := by rw [Lib.cell_of_heap hk]; rfl
  have c1_7 : w2.cell? ⟨w.heap.size, 7, none⟩ = some (.int .i64 t.sq) := by rw [Lib.cell_of_heap hk]; rfl
  clear hk
  rw [hw2, hw1] at c1_0 c1_1 c1_2 c1_3 c1_4 c1_5 c1_6 c1_7
  go_enter Tryd.func8, Tryd.ntmps8
  go_wp2_with fail
  rw [← hw1, ← hw2]
  clear hw1 hw2
  clear c1_0 c1_1 c1_2 c1_3 c1_4 c1_5 c1_6 c1_7
  refine (HCh.out _ (bTS B1.out B2.out)).mono ?_
  rintro e w3 ⟨rfl, hb⟩
  have B3 : Hid (Below w2.heap.size w2 w3) := hb
  clear hb 
  obtain ⟨⟨e0, e1, e2, e3⟩, e4, e5, e6, e7⟩ := BxT.of (t := zT) (C2.out _ B3.out)
  have f0 : ∀ j, w3.frozen? ⟨w.heap.size + 1, j, none⟩ = false := fun j => Lib.frozen_of_heap (C2.out _ B3.out) j
  have HB : Hid (Below w.heap.size w w3) := (bTS (bTS B1.out B2.out) B3.out)
  have HEnd : Hid (∀ u0 u1 u2 u3 u4 u5 u6 u7, Below w.heap.size w (st8 w3 (w.heap.size + 1) u0 u1 u2 u3 u4 u5 u6 u7)) := fun u0 u1 u2 u3 u4 u5 u6 u7 => below8 HB.out (Nat.le_add_right _ 1) u0 u1 u2 u3 u4 u5 u6 u7
  clear HB HCh
  go_wp2_with fail
  try simp only [Exit.inBlock, Exit.then]
  refine bodyPost_ret (v := .tuple #[tyV zT (.slice none 0 0) (.slice none 0 0) (.slice none 0 0), .int .i64 1]) ?_ rfl ⟨rfl, HEnd.out _ _ _ _ _ _ _ _⟩
  rw [results_c2 rfl]; go_simp
  first | done | exact ⟨rfl, rfl, rfl, rfl, rfl⟩
set_option maxRecDepth 100000 in
set_option maxHeartbeats 4000000 in
theorem put_full {base : Nat} {w : World} {s m : Nat} {E : List (ByteArray × Nat)} {X : Nat → Kp} (h : StV base w s m E X) (t : Ty) (vo va vc : Value) (hr : IsTy w t vo va vc) (hnm : NmT t) (hT : UT w) (hM : ML w) (hc : chkT t = true) (hL : lkS E (fldB t.n) = none) (hf : 200 ≤ E.length) :
    Calls Tryd.prog 8 #[stP s, tyV t vo va vc] w fun e w' => e = .returned (.tuple #[tyV zT (.slice none 0 0) (.slice none 0 0) (.slice none 0 0), .int .i64 6]) ∧ Below w.heap.size w w' := by
  have hn := hnm.n
  obtain ⟨ao, co, rfl⟩ := hr.1.form
  obtain ⟨aa, ca, rfl⟩ := hr.2.1.form
  obtain ⟨ac, cc, rfl⟩ := hr.2.2.form
  have HCh : Hid (∀ W, Below w.heap.size w W → Calls Tryd.prog 22 #[(tyV t (.slice ao t.own.length co) (.slice aa t.all.length ca) (.slice ac t.ch.length cc))] W fun e w' => e = .returned (.bool true) ∧ Below W.heap.size W w') := fun W hb => hc ▸ checkT_any t _ _ _ W (hr.below hb) hnm (Utf8Tabs_below hT hb) (ML_below hM hb)
  have HFi : Hid (∀ W, Below w.heap.size w W → Calls Tryd.prog 23 #[stP s, .string t.n] W fun e w' => e = .returned (.pointer none) ∧ Below W.heap.size W w') := fun W hb => by
    have := find_any (h.below hb) t.n hn (Utf8Tabs_below hT hb)
    rw [hL] at this
    exact this
  have HOr : Hid (∀ (a b c a' b' c' : Int) W, Calls Tryd.prog 24 #[idV a b c, idV a' b' c'] W fun e w' => e = .returned (.int .i64 (or3 (ordI a a') (ordI b b') (ordI c c'))) ∧ Below W.heap.size W w') := fun a b c a' b' c' W => order_any a b c a' b' c' W
  have HKe : Hid (∀ W, Below w.heap.size w W → Calls Tryd.prog 26 #[stP s, (tyV t (.slice ao t.own.length co) (.slice aa t.all.length ca) (.slice ac t.ch.length cc))] W fun e w' => e = .returned (.int .i64 6) ∧ Below W.heap.size W w') := fun W hb => keep_full (h.below hb) t _ _ _ (hr.below hb) hn (Utf8Tabs_below hT hb) hL hf
  clear h hr hn hnm hT hM hc hL hf
  obtain ⟨w1, hw1⟩ : ∃ w1, w1 = w.alloc (.cells (tyA t (.slice ao t.own.length co) (.slice aa t.all.length ca) (.slice ac t.ch.length cc)) 29) := ⟨_, rfl⟩
  have B1 : Hid (Below w.heap.size w w1) := by show Below _ _ _; rw [hw1]; exact al_b _ _
  have hn1 : w1.heap[w.heap.size]? = some (.cells (tyA t (.slice ao t.own.length co) (.slice aa t.all.length ca) (.slice ac t.ch.length cc)) 29 (0, 0)) := by rw [hw1]; exact new_at _ _
  have C1 : Hid (∀ W, Below w1.heap.size w1 W → W.heap[w.heap.size]? = some (.cells (tyA t (.slice ao t.own.length co) (.slice aa t.all.length ca) (.slice ac t.ch.length cc)) 29 (0, 0))) := fun W h => (h.block _ (Array.getElem?_eq_some_iff.1 hn1).1).trans hn1
  clear hn1
  obtain ⟨w2, hw2⟩ : ∃ w2, w2 = w1.alloc (.cells zTyA 29) := ⟨_, rfl⟩
  have B2 : Hid (Below w1.heap.size w1 w2) := by show Below _ _ _; rw [hw2]; exact al_b _ _
  have hn2 : w2.heap[(w.heap.size + 1)]? = some (.cells zTyA 29 (0, 0)) := by rw [hw2]; rw [show w.heap.size + 1 = w1.heap.size by (rw [hw1]; simp)]; exact new_at _ _
  have C2 : Hid (∀ W, Below w2.heap.size w2 W → W.heap[(w.heap.size + 1)]? = some (.cells zTyA 29 (0, 0))) := fun W h => (h.block _ (Array.getElem?_eq_some_iff.1 hn2).1).trans hn2
  clear hn2
  have hk := C1.out w2 B2.out
  have c1_0 : w2.cell? ⟨w.heap.size, 0, none⟩ = some (.string t.n) := by rw [Lib.cell_of_heap hk]; rfl
  have c1_1 : w2.cell? ⟨w.heap.size, 1, none⟩ = some (.string t.p) := by rw [Lib.cell_of_heap hk]; rfl
  have c1_2 : w2.cell? ⟨w.heap.size, 2, none⟩ = some (.slice ao t.own.length co) := by rw [Lib.cell_of_heap hk]; rfl
  have c1_3 : w2.cell? ⟨w.heap.size, 3, none⟩ = some (.slice aa t.all.length ca) := by rw [Lib.cell_of_heap hk]; rfl
  have c1_4 : w2.cell? ⟨w.heap.size, 4, none⟩ = some (.slice ac t.ch.length cc) := by rw [Lib.cell_of_heap hk]; rfl
  have c1_5 : w2.cell? ⟨w.heap.size, 5, none⟩ = some (.int .i64 t.nd) := by rw [Lib.cell_of_heap hk]; rfl
  have c1_6 : w2.cell? ⟨w.heap.size, 6, none⟩ = some (.int .i64 t.lf) := by rw [Lib.cell_of_heap hk]; rfl
  have c1_7 : w2.cell? ⟨w.heap.size, 7, none⟩ = some (.int .i64 t.sq) := by rw [Lib.cell_of_heap hk]; rfl
  clear hk
  rw [hw2, hw1] at c1_0 c1_1 c1_2 c1_3 c1_4 c1_5 c1_6 c1_7
  go_enter Tryd.func8, Tryd.ntmps8
  go_wp2_with fail
  rw [← hw1, ← hw2]
  clear hw1 hw2
  clear c1_0 c1_1 c1_2 c1_3 c1_4 c1_5 c1_6 c1_7
  refine (HCh.out _ (bTS B1.out B2.out)).mono ?_
  rintro e w3 ⟨rfl, hb⟩
  have B3 : Hid (Below w2.heap.size w2 w3) := hb
  clear hb 
  have hk := C1.out w3 (bTS B2.out B3.out)
  have c1_0 : w3.cell? ⟨w.heap.size, 0, none⟩ = some (.string t.n) := by rw [Lib.cell_of_heap hk]; rfl
  have c1_1 : w3.cell? ⟨w.heap.size, 1, none⟩ = some (.string t.p) := by rw [Lib.cell_of_heap hk]; rfl
  have c1_2 : w3.cell? ⟨w.heap.size, 2, none⟩ = some (.slice ao t.own.length co) := by rw [Lib.cell_of_heap hk]; rfl
  have c1_3 : w3.cell? ⟨w.heap.size, 3, none⟩ = some (.slice aa t.all.length ca) := by rw [Lib.cell_of_heap hk]; rfl
  have c1_4 : w3.cell? ⟨w.heap.size, 4, none⟩ = some (.slice ac t.ch.length cc) := by rw [Lib.cell_of_heap hk]; rfl
  have c1_5 : w3.cell? ⟨w.heap.size, 5, none⟩ = some (.int .i64 t.nd) := by rw [Lib.cell_of_heap hk]; rfl
  have c1_6 : w3.cell? ⟨w.heap.size, 6, none⟩ = some (.int .i64 t.lf) := by rw [Lib.cell_of_heap hk]; rfl
  have c1_7 : w3.cell? ⟨w.heap.size, 7, none⟩ = some (.int .i64 t.sq) := by rw [Lib.cell_of_heap hk]; rfl
  clear hk
  go_wp2_with fail
  clear c1_0 c1_1 c1_2 c1_3 c1_4 c1_5 c1_6 c1_7
  refine (HFi.out _ (bTS (bTS B1.out B2.out) B3.out)).mono ?_
  rintro e w4 ⟨rfl, hb⟩
  have B4 : Hid (Below w3.heap.size w3 w4) := hb
  clear hb 
  go_wp2_with fail
  refine wp_region_quiet (C := fun w' => Below w4.heap.size w4 w') (by kernel_rfl) (by kernel_rfl) ((Below.refl _ _).drew) ?_
  dsimp only
  repeat (first
    | go_big_quiet_skip
    | (go_big_quiet_want
       apply Exists.intro
       refine ⟨fun W' hW' => ?_, ?_⟩
       · have hw : Below w4.heap.size w4 W' := hW'
         go_simp
         first
           | done
           | rfl
           | (go_at_call 24; (with_reducible refine Calls.mono (HOr.out _ _ _ _ _ _ W') ?_); rintro e w'' ⟨rfl, hb⟩; exact ⟨rfl, hw.trans (hb.mono hw.size)⟩)
       go_big_quiet_on
       try simp only [Act.put, List.setIfInBounds_toArray, List.set_cons_zero, List.set_cons_succ]))
  refine wpQuiet_nil ?_
  intro wq hqw
  have Bq : Hid (Below w4.heap.size w4 wq) := hqw
  clear hqw
  have hk := C1.out wq (bTS (bTS (bTS B2.out B3.out) B4.out) Bq.out)
  have c1_0 : wq.cell? ⟨w.heap.size, 0, none⟩ = some (.string t.n) := by rw [Lib.cell_of_heap hk]; rfl
  have c1_1 : wq.cell? ⟨w.heap.size, 1, none⟩ = some (.string t.p) := by rw [Lib.cell_of_heap hk]; rfl
  have c1_2 : wq.cell? ⟨w.heap.size, 2, none⟩ = some (.slice ao t.own.length co) := by rw [Lib.cell_of_heap hk]; rfl
  have c1_3 : wq.cell? ⟨w.heap.size, 3, none⟩ = some (.slice aa t.all.length ca) := by rw [Lib.cell_of_heap hk]; rfl
  have c1_4 : wq.cell? ⟨w.heap.size, 4, none⟩ = some (.slice ac t.ch.length cc) := by rw [Lib.cell_of_heap hk]; rfl
  have c1_5 : wq.cell? ⟨w.heap.size, 5, none⟩ = some (.int .i64 t.nd) := by rw [Lib.cell_of_heap hk]; rfl
  have c1_6 : wq.cell? ⟨w.heap.size, 6, none⟩ = some (.int .i64 t.lf) := by rw [Lib.cell_of_heap hk]; rfl
  have c1_7 : wq.cell? ⟨w.heap.size, 7, none⟩ = some (.int .i64 t.sq) := by rw [Lib.cell_of_heap hk]; rfl
  clear hk
  go_wp2_with fail
  clear c1_0 c1_1 c1_2 c1_3 c1_4 c1_5 c1_6 c1_7
  refine (HKe.out _ (bTS (bTS (bTS (bTS B1.out B2.out) B3.out) B4.out) Bq.out)).mono ?_
  rintro e w5 ⟨rfl, hb⟩
  have B5 : Hid (Below wq.heap.size wq w5) := hb
  clear hb 
  obtain ⟨⟨e0, e1, e2, e3⟩, e4, e5, e6, e7⟩ := BxT.of (t := zT) (C2.out _ (bTS (bTS (bTS B3.out B4.out) Bq.out) B5.out))
  have f0 : ∀ j, w5.frozen? ⟨w.heap.size + 1, j, none⟩ = false := fun j => Lib.frozen_of_heap (C2.out _ (bTS (bTS (bTS B3.out B4.out) Bq.out) B5.out)) j
  have HB : Hid (Below w.heap.size w w5) := (bTS (bTS (bTS (bTS (bTS B1.out B2.out) B3.out) B4.out) Bq.out) B5.out)
  have HEnd : Hid (∀ u0 u1 u2 u3 u4 u5 u6 u7, Below w.heap.size w (st8 w5 (w.heap.size + 1) u0 u1 u2 u3 u4 u5 u6 u7)) := fun u0 u1 u2 u3 u4 u5 u6 u7 => below8 HB.out (Nat.le_add_right _ 1) u0 u1 u2 u3 u4 u5 u6 u7
  clear HB HCh HFi HOr HKe
  go_wp2_with fail
  try simp only [Exit.inBlock, Exit.then]
  refine bodyPost_ret (v := .tuple #[tyV zT (.slice none 0 0) (.slice none 0 0) (.slice none 0 0), .int .i64 6]) ?_ rfl ⟨rfl, HEnd.out _ _ _ _ _ _ _ _⟩
  rw [results_c2 rfl]; go_simp
  first | done | exact ⟨rfl, rfl, rfl, rfl, rfl⟩
/-- What Put hands out of one that is kept already. -/
def PoP (t0 : Ty) (w : World) (e : Ending) (w' : World) : Prop := ∃ v1 v2 v3, e = .returned (.tuple #[tyV t0 v1 v2 v3, .int .i64 0]) ∧ OwnTy w.heap.size w' t0 v1 v2 v3 ∧ Below w.heap.size w w'
set_option maxRecDepth 100000 in
set_option maxHeartbeats 4000000 in
theorem put_old {base : Nat} {w : World} {s m : Nat} {E : List (ByteArray × Nat)} {X : Nat → Kp} (h : StV base w s m E X) (t : Ty) (vo va vc : Value) (hr : IsTy w t vo va vc) (hnm : NmT t) (hT : UT w) (hM : ML w) (hc : chkT t = true) {g0 : Nat} (hL : lkS E (fldB t.n) = some g0) (hord : ¬ or3 (ordI t.nd (X g0).t.nd) (ordI t.lf (X g0).t.lf) (ordI t.sq (X g0).t.sq) < 0) (q1 : (X g0).t.own.length ≤ 1000) (q2 : (X g0).t.all.length ≤ 1000) (q3 : (X g0).t.ch.length ≤ 1000) :
    Calls Tryd.prog 8 #[stP s, tyV t vo va vc] w fun e w' => PoP (X g0).t w e w' := by
  have hn := hnm.n
  obtain ⟨ao, co, rfl⟩ := hr.1.form
  obtain ⟨aa, ca, rfl⟩ := hr.2.1.form
  obtain ⟨ac, cc, rfl⟩ := hr.2.2.form
  have HCh : Hid (∀ W, Below w.heap.size w W → Calls Tryd.prog 22 #[(tyV t (.slice ao t.own.length co) (.slice aa t.all.length ca) (.slice ac t.ch.length cc))] W fun e w' => e = .returned (.bool true) ∧ Below W.heap.size W w') := fun W hb => hc ▸ checkT_any t _ _ _ W (hr.below hb) hnm (Utf8Tabs_below hT hb) (ML_below hM hb)
  have HFi : Hid (∀ W, Below w.heap.size w W → Calls Tryd.prog 23 #[stP s, .string t.n] W fun e w' => e = .returned (.pointer (some ⟨g0, 0, none⟩)) ∧ Below W.heap.size W w') := fun W hb => by
    have := find_any (h.below hb) t.n hn (Utf8Tabs_below hT hb)
    rw [hL] at this
    exact this
  have HOr : Hid (∀ (a b c a' b' c' : Int) W, Calls Tryd.prog 24 #[idV a b c, idV a' b' c'] W fun e w' => e = .returned (.int .i64 (or3 (ordI a a') (ordI b b') (ordI c c'))) ∧ Below W.heap.size W w') := fun a b c a' b' c' W => order_any a b c a' b' c' W
  obtain ⟨-, wo, wa, wc, h0, ho⟩ := h.kp _ (lkS_mem hL)
  dsimp only at h0 ho
  obtain ⟨bo, do_, rfl⟩ := ho.is.1.form
  obtain ⟨ba, da, rfl⟩ := ho.is.2.1.form
  obtain ⟨bc, dc, rfl⟩ := ho.is.2.2.form
  obtain ⟨x, hX⟩ : ∃ x, x = X g0 := ⟨_, rfl⟩
  rw [← hX] at h0 ho hord q1 q2 q3 ⊢
  have HK : Hid (∀ W, Below w.heap.size w W → BxT g0 x.t (.slice bo x.t.own.length do_) (.slice ba x.t.all.length da) (.slice bc x.t.ch.length dc) W) := fun W hb => by
    have hk := (hb.block _ (Array.getElem?_eq_some_iff.1 h0).1).trans h0
    have c : ∀ j, W.cell? ⟨g0, j, none⟩ = (kpA x (.slice bo x.t.own.length do_) (.slice ba x.t.all.length da) (.slice bc x.t.ch.length dc))[j]? := fun j => by rw [Lib.cell_of_heap hk]
    exact ⟨⟨c 0, c 1, c 2, c 3⟩, c 4, c 5, c 6, c 7⟩
  have HCo : Hid (∀ W, Below w.heap.size w W → Calls Tryd.prog 25 #[tyV x.t (.slice bo x.t.own.length do_) (.slice ba x.t.all.length da) (.slice bc x.t.ch.length dc)] W fun e w' => CpT x.t W e w') := fun W hb => copyOf_any x.t _ _ _ W (ho.is.below hb) q1 q2 q3
  obtain ⟨o, hO⟩ : ∃ o, o = or3 (ordI t.nd x.t.nd) (ordI t.lf x.t.lf) (ordI t.sq x.t.sq) := ⟨_, rfl⟩
  have HOr : Hid (∀ W, Calls Tryd.prog 24 #[idV t.nd t.lf t.sq, idV x.t.nd x.t.lf x.t.sq] W fun e w' => e = .returned (.int .i64 o) ∧ Below W.heap.size W w') := fun W => by rw [hO]; exact HOr.out _ _ _ _ _ _ W
  rw [← hO] at hord
  have do1 : decide ((0 : Int) ≤ o) = true := decide_eq_true (by omega)
  have do2 : decide (o < 0) = false := decide_eq_false (by omega)
  obtain ⟨R, hR⟩ : ∃ R : Ending → World → Prop, R = PoP x.t w := ⟨_, rfl⟩
  have HRd : Hid (∀ e w', PoP x.t w e w' → R e w') := fun e w' hh => by rw [hR]; exact hh
  show Calls Tryd.prog 8 #[stP s, (tyV t (.slice ao t.own.length co) (.slice aa t.all.length ca) (.slice ac t.ch.length cc))] w fun e w' => PoP x.t w e w'
  rw [← hR]
  clear h hr hn hnm hT hM hc hL h0 ho hord q1 q2 q3 hX hO hR
  obtain ⟨w1, hw1⟩ : ∃ w1, w1 = w.alloc (.cells (tyA t (.slice ao t.own.length co) (.slice aa t.all.length ca) (.slice ac t.ch.length cc)) 29) := ⟨_, rfl⟩
  have B1 : Hid (Below w.heap.size w w1) := by show Below _ _ _; rw [hw1]; exact al_b _ _
  have hn1 : w1.heap[w.heap.size]? = some (.cells (tyA t (.slice ao t.own.length co) (.slice aa t.all.length ca) (.slice ac t.ch.length cc)) 29 (0, 0)) := by rw [hw1]; exact new_at _ _
  have C1 : Hid (∀ W, Below w1.heap.size w1 W → W.heap[w.heap.size]? = some (.cells (tyA t (.slice ao t.own.length co) (.slice aa t.all.length ca) (.slice ac t.ch.length cc)) 29 (0, 0))) := fun W h => (h.block _ (Array.getElem?_eq_some_iff.1 hn1).1).trans hn1
  clear hn1
  obtain ⟨w2, hw2⟩ : ∃ w2, w2 = w1.alloc (.cells zTyA 29) := ⟨_, rfl⟩
  have B2 : Hid (Below w1.heap.size w1 w2) := by show Below _ _ _; rw [hw2]; exact al_b _ _
  have hn2 : w2.heap[(w.heap.size + 1)]? = some (.cells zTyA 29 (0, 0)) := by rw [hw2]; rw [show w.heap.size + 1 = w1.heap.size by (rw [hw1]; simp)]; exact new_at _ _
  have C2 : Hid (∀ W, Below w2.heap.size w2 W → W.heap[(w.heap.size + 1)]? = some (.cells zTyA 29 (0, 0))) := fun W h => (h.block _ (Array.getElem?_eq_some_iff.1 hn2).1).trans hn2
  clear hn2
  have hk := C1.out w2 B2.out
  have c1_0 : w2.cell? ⟨w.heap.size, 0, none⟩ = some (.string t.n) := by rw [Lib.cell_of_heap hk]; rfl
  have c1_1 : w2.cell? ⟨w.heap.size, 1, none⟩ = some (.string t.p) := by rw [Lib.cell_of_heap hk]; rfl
  have c1_2 : w2.cell? ⟨w.heap.size, 2, none⟩ = some (.slice ao t.own.length co) := by rw [Lib.cell_of_heap hk]; rfl
  have c1_3 : w2.cell? ⟨w.heap.size, 3, none⟩ = some (.slice aa t.all.length ca) := by rw [Lib.cell_of_heap hk]; rfl
  have c1_4 : w2.cell? ⟨w.heap.size, 4, none⟩ = some (.slice ac t.ch.length cc) := by rw [Lib.cell_of_heap hk]; rfl
  have c1_5 : w2.cell? ⟨w.heap.size, 5, none⟩ = some (.int .i64 t.nd) := by rw [Lib.cell_of_heap hk]; rfl
  have c1_6 : w2.cell? ⟨w.heap.size, 6, none⟩ = some (.int .i64 t.lf) := by rw [Lib.cell_of_heap hk]; rfl
  have c1_7 : w2.cell? ⟨w.heap.size, 7, none⟩ = some (.int .i64 t.sq) := by rw [Lib.cell_of_heap hk]; rfl
  clear hk
  rw [hw2, hw1] at c1_0 c1_1 c1_2 c1_3 c1_4 c1_5 c1_6 c1_7
  go_enter Tryd.func8, Tryd.ntmps8
  go_wp2_with fail
  rw [← hw1, ← hw2]
  clear hw1 hw2
  clear c1_0 c1_1 c1_2 c1_3 c1_4 c1_5 c1_6 c1_7
  refine (HCh.out _ (bTS B1.out B2.out)).mono ?_
  rintro e w3 ⟨rfl, hb⟩
  have B3 : Hid (Below w2.heap.size w2 w3) := hb
  clear hb 
  have hk := C1.out w3 (bTS B2.out B3.out)
  have c1_0 : w3.cell? ⟨w.heap.size, 0, none⟩ = some (.string t.n) := by rw [Lib.cell_of_heap hk]; rfl
  have c1_1 : w3.cell? ⟨w.heap.size, 1, none⟩ = some (.string t.p) := by rw [Lib.cell_of_heap hk]; rfl
  have c1_2 : w3.cell? ⟨w.heap.size, 2, none⟩ = some (.slice ao t.own.length co) := by rw [Lib.cell_of_heap hk]; rfl
  have c1_3 : w3.cell? ⟨w.heap.size, 3, none⟩ = some (.slice aa t.all.length ca) := by rw [Lib.cell_of_heap hk]; rfl
  have c1_4 : w3.cell? ⟨w.heap.size, 4, none⟩ = some (.slice ac t.ch.length cc) := by rw [Lib.cell_of_heap hk]; rfl
  have c1_5 : w3.cell? ⟨w.heap.size, 5, none⟩ = some (.int .i64 t.nd) := by rw [Lib.cell_of_heap hk]; rfl
  have c1_6 : w3.cell? ⟨w.heap.size, 6, none⟩ = some (.int .i64 t.lf) := by rw [Lib.cell_of_heap hk]; rfl
  have c1_7 : w3.cell? ⟨w.heap.size, 7, none⟩ = some (.int .i64 t.sq) := by rw [Lib.cell_of_heap hk]; rfl
  clear hk
  go_wp2_with fail
  clear c1_0 c1_1 c1_2 c1_3 c1_4 c1_5 c1_6 c1_7
  refine (HFi.out _ (bTS (bTS B1.out B2.out) B3.out)).mono ?_
  rintro e w4 ⟨rfl, hb⟩
  have B4 : Hid (Below w3.heap.size w3 w4) := hb
  clear hb 
  go_wp2_with fail
  refine wp_region_quiet (C := fun w' => Below w4.heap.size w4 w') (by kernel_rfl) (by kernel_rfl) ((Below.refl _ _).drew) ?_
  dsimp only
  repeat (first
    | go_big_quiet_skip
    | (go_big_quiet_want
       apply Exists.intro
       refine ⟨fun W' hW' => ?_, ?_⟩
       · have hw : Below w4.heap.size w4 W' := hW'
         have hkT := C1.out W' (bTS (bTS (bTS B2.out B3.out) B4.out) hw)
         obtain ⟨⟨s0, s1, s2, s3⟩, s4, s5, s6, s7⟩ := BxT.of hkT
         obtain ⟨⟨r0, r1, r2, r3⟩, r4, r5, r6, r7⟩ := HK.out W' (bTS (bTS (bTS (bTS B1.out B2.out) B3.out) B4.out) hw)
         clear hkT
         go_simp
         first
           | done
           | rfl
           | (go_at_call 24; (with_reducible refine Calls.mono (HOr.out W') ?_); rintro e w'' ⟨rfl, hb⟩; exact ⟨rfl, hw.trans (hb.mono hw.size)⟩)
       go_big_quiet_on
       try simp only [Act.put, List.setIfInBounds_toArray, List.set_cons_zero, List.set_cons_succ]))
  refine wpQuiet_nil ?_
  intro wq hqw
  have Bq : Hid (Below w4.heap.size w4 wq) := hqw
  clear hqw
  obtain ⟨⟨r0, r1, r2, r3⟩, r4, r5, r6, r7⟩ := HK.out wq (bTS (bTS (bTS (bTS B1.out B2.out) B3.out) B4.out) Bq.out)
  go_wp2_with fail
  clear r0 r1 r2 r3 r4 r5 r6 r7
  refine (HCo.out wq (bTS (bTS (bTS (bTS B1.out B2.out) B3.out) B4.out) Bq.out)).mono ?_
  rintro e wb ⟨v1, v2, v3, rfl, ho, hb⟩
  obtain ⟨x1, y1, rfl⟩ := (IsRow.own ho.1).form
  obtain ⟨x2, y2, rfl⟩ := (IsRow.own ho.2.1).form
  obtain ⟨x3, y3, rfl⟩ := (IsRow.own ho.2.2).form
  have HZa : Hid (wq.heap[w.heap.size + 1]? = some (.cells zTyA 29 (0, 0))) := C2.out _ (bTS (bTS B3.out B4.out) Bq.out)
  have HZb : Hid (wb.heap[w.heap.size + 1]? = some (.cells zTyA 29 (0, 0))) := (hb.block _ (Array.getElem?_eq_some_iff.1 HZa.out).1).trans HZa.out
  have hlt : w.heap.size + 1 < wq.heap.size := (Array.getElem?_eq_some_iff.1 HZa.out).1
  have HBq : Hid (Below w.heap.size w wb) := Below.trans (bTS (bTS (bTS (bTS B1.out B2.out) B3.out) B4.out) Bq.out) (hb.mono (Below.size (bTS (bTS (bTS (bTS B1.out B2.out) B3.out) B4.out) Bq.out)))
  have HEnd : Hid (∀ u0 u1 u2 u3 u4 u5 u6 u7, R (.returned (.tuple #[tyV x.t (.slice x1 x.t.own.length y1) (.slice x2 x.t.all.length y2) (.slice x3 x.t.ch.length y3), .int .i64 0])) (st8 wb (w.heap.size + 1) u0 u1 u2 u3 u4 u5 u6 u7)) := fun u0 u1 u2 u3 u4 u5 u6 u7 => HRd.out _ _ ⟨_, _, _, rfl, ((((((((((ho.set hlt 0 u0).set hlt 1 u1).set hlt 2 u2).set hlt 3 u3).set hlt 4 u4).set hlt 5 u5).set hlt 6 u6).set hlt 7 u7).le (Nat.le_of_lt (Nat.lt_of_succ_lt hlt)))), below8 HBq.out (Nat.le_add_right _ 1) u0 u1 u2 u3 u4 u5 u6 u7⟩
  obtain ⟨⟨e0, e1, e2, e3⟩, e4, e5, e6, e7⟩ := BxT.of (t := zT) HZb.out
  have f0 : ∀ j, wb.frozen? ⟨w.heap.size + 1, j, none⟩ = false := fun j => Lib.frozen_of_heap HZb.out j
  clear ho hb HZa HRd HBq HK HCo hlt
  go_wp2_with fail
  try simp only [Exit.inBlock, Exit.then]
  refine bodyPost_ret (v := .tuple #[tyV x.t (.slice x1 x.t.own.length y1) (.slice x2 x.t.all.length y2) (.slice x3 x.t.ch.length y3), .int .i64 0]) ?_ rfl (HEnd.out _ _ _ _ _ _ _ _)
  rw [results_c2 rfl]; go_simp
  first | done | exact ⟨rfl, rfl, rfl, rfl, rfl⟩
end Go.Proofs.YthdbnlpbidkojaaDoor
/- StoreFull's types, plainly; a store that holds so many of them. -/
namespace Go.Proofs.YthdbnlpbidkojaaDoor
open Go.RowKit Go.ChangeMaps

/-- The j-th name. -/
def nmF (j : Nat) : ByteArray := ⟨#[116, UInt8.ofNat (97 + j / 26), UInt8.ofNat (97 + j % 26)]⟩
/-- The j-th type, of a maker. -/
def tyF (j : Nat) (a b c : Int) : Ty := ⟨nmF j, ⟨#[]⟩, [], [], [nmF j], a, b, c⟩
theorem nmF_inj {i j : Nat} (hi : i < 204) (hj : j < 204) (h : nmF i = nmF j) : i = j := by
  unfold nmF at h
  simp only [ByteArray.mk.injEq, Array.mk.injEq, List.cons.injEq, and_true, true_and] at h
  obtain ⟨h1, h2⟩ := h
  have e1 := congrArg UInt8.toNat h1
  have e2 := congrArg UInt8.toNat h2
  simp only [UInt8.toNat_ofNat'] at e1 e2
  omega
theorem nmF_chk : ∀ j : Fin 204, checkL (nmF j).data.toList = 0 ∧ fldB (nmF j) = nmF j := by decide +kernel
theorem nmF_root {j : Nat} (hj : j < 204) {a b c : Int} (hid : idB a b c = true) : rootR (nmF j) [] a b c = (tyF j a b c, 0) := by
  unfold rootR
  rw [if_pos (nmF_chk ⟨j, hj⟩).1, hid, if_pos (by kernel_rfl)]
  rfl
theorem nmF_nm (j : Nat) (a b c : Int) : NmT (tyF j a b c) := ⟨(by decide : 3 ≤ 1000000), (by decide : 0 ≤ 1000000), fun s hs => by
  simp [tyF] at hs
  subst hs
  show 3 ≤ 1000000
  decide, fun x hx => by simp [tyF] at hx, fun x hx => by simp [tyF] at hx, by simp [tyF], by simp [tyF], by simp [tyF]⟩
theorem nmF_ok {j : Nat} (hj : j < 204) {a b c : Int} (hid : idB a b c = true) : chkT (tyF j a b c) = true := by
  have h1 : clm [] [nmF j] = [foldL (nmF j).data.toList] := by
    unfold clm
    rw [if_pos ⟨(nmF_chk ⟨j, hj⟩).1, by simp⟩]
    rfl
  unfold chkT chkR
  show (decide (1 ≤ [nmF j].length) && (decide ([nmF j].length ≤ 8) && (decide ([nmF j][0]? = some (nmF j)) && (decide ([nmF j].length ≤ (clm [] [nmF j]).length) && (idB a b c && (chkF [] && (chkF [] && (if [nmF j].length = 1 then decide ((⟨#[]⟩ : ByteArray).size = 0) && sameR [] [] else decide ([nmF j][1]? = some ⟨#[]⟩) && withinL [] [])))))))) = true
  rw [h1, hid]
  have h2 : chkF [] = true := by kernel_rfl
  have h3 : sameR [] [] = true := by kernel_rfl
  rw [h2, h3]
  simp
  try rfl
/-- A store in which the first so many of them are kept. -/
structure FuI (base : Nat) (w : World) (s m n : Nat) (E : List (ByteArray × Nat)) (X : Nat → Kp) : Prop where
  st : StV base w s m E X
  le : n ≤ 200
  ks : E.map (·.1) = (List.range n).map nmF
  ty : ∀ j, j < n → ∃ g, lkS E (nmF j) = some g ∧ (X g).t = tyF j 2 1 ((j : Int) + 1)
theorem FuI.len {base : Nat} {w : World} {s m n : Nat} {E : List (ByteArray × Nat)} {X : Nat → Kp} (h : FuI base w s m n E X) : E.length = n := by
  have := congrArg List.length h.ks
  simpa using this
theorem FuI.below {base : Nat} {w w' : World} {s m n : Nat} {E : List (ByteArray × Nat)} {X : Nat → Kp} (h : FuI base w s m n E X) (hb : Below w.heap.size w w') : FuI base w' s m n E X := ⟨h.st.below hb, h.le, h.ks, h.ty⟩
theorem FuI.none {base : Nat} {w : World} {s m n : Nat} {E : List (ByteArray × Nat)} {X : Nat → Kp} (h : FuI base w s m n E X) {j : Nat} (hj : n ≤ j) (hj2 : j < 204) : lkS E (fldB (nmF j)) = none := by
  rw [(nmF_chk ⟨j, hj2⟩).2]
  refine lkS_none.2 fun p hp e => ?_
  have hm : p.1 ∈ (List.range n).map nmF := by rw [← h.ks]; exact List.mem_map.2 ⟨p, hp, rfl⟩
  obtain ⟨i, hi, hq⟩ := List.mem_map.1 hm
  rw [List.mem_range] at hi
  have hle := h.le
  have := nmF_inj (by omega) hj2 (hq.trans e)
  omega
theorem lkS_app {E : List (ByteArray × Nat)} {k k' : ByteArray} {g g' : Nat} (h : lkS E k = some g) : lkS (E ++ [(k', g')]) k = some g := by
  unfold lkS at h ⊢
  obtain ⟨p, hp, rfl⟩ := Option.map_eq_some_iff.1 h
  rw [List.find?_append, hp]
  rfl
theorem lkS_new {E : List (ByteArray × Nat)} {k : ByteArray} {g : Nat} (h : lkS E k = none) : lkS (E ++ [(k, g)]) k = some g := by
  unfold lkS at h ⊢
  rw [Option.map_eq_none_iff] at h
  rw [List.find?_append, h]
  simp
theorem FuI.next {base : Nat} {w w' : World} {s m n g : Nat} {E : List (ByteArray × Nat)} {X : Nat → Kp} (h : FuI base w s m n E X) (hn : n < 200) (hst : StV base w' s m (stS E (fldB (nmF n)) g) (upX X g ⟨tyF n 2 1 ((n : Int) + 1), false, zW⟩)) (hg : w.heap.size ≤ g) :
    FuI base w' s m (n + 1) (stS E (fldB (nmF n)) g) (upX X g ⟨tyF n 2 1 ((n : Int) + 1), false, zW⟩) := by
  have hno := h.none (Nat.le_refl n) (by omega)
  have hE : stS E (fldB (nmF n)) g = E ++ [(nmF n, g)] := by
    unfold stS
    rw [if_pos hno, (nmF_chk ⟨n, by omega⟩).2]
  rw [(nmF_chk ⟨n, by omega⟩).2] at hno
  rw [hE] at hst ⊢
  refine ⟨hst, by omega, ?_, fun j hj => ?_⟩
  · rw [List.map_append, h.ks, List.range_succ, List.map_append]
    rfl
  · by_cases e : j = n
    · subst e
      exact ⟨g, lkS_new hno, by unfold upX; rw [if_pos rfl]⟩
    · obtain ⟨g0, h0, h1⟩ := h.ty j (by omega)
      refine ⟨g0, lkS_app h0, ?_⟩
      have hlt := (h.st.lt (.inr (List.mem_map.2 ⟨_, lkS_memB h0, rfl⟩))).2
      unfold upX
      rw [if_neg (by omega)]
      exact h1
/-- What is kept is not too great. -/
theorem FuI.sm {base : Nat} {w : World} {s m n : Nat} {E : List (ByteArray × Nat)} {X : Nat → Kp} (h : FuI base w s m n E X) : SmE E X := by
  refine ⟨fun p hp => ?_, by rw [h.len]; have := h.le; omega⟩
  have hm : p.1 ∈ (List.range n).map nmF := by rw [← h.ks]; exact List.mem_map.2 ⟨p, hp, rfl⟩
  obtain ⟨j, hj, hq⟩ := List.mem_map.1 hm
  rw [List.mem_range] at hj
  obtain ⟨g, h1, h2⟩ := h.ty j hj
  have hmem := lkS_memB h1
  have he : p = (nmF j, g) := by
    obtain ⟨a, ha, ea⟩ := List.mem_iff_getElem.1 hp
    obtain ⟨b, hb, eb⟩ := List.mem_iff_getElem.1 hmem
    have hnd := h.st.mp.2
    have : a = b := by
      refine (List.getElem_inj (h₀ := by simpa using ha) (h₁ := by simpa using hb) hnd).1 ?_
      simp [ea, eb, hq]
    subst this
    rw [← ea, ← eb]
  subst he
  rw [h2]
  exact ⟨by show 3 ≤ 1000000; decide, by simp [tyF], by simp [tyF], by simp [tyF]⟩
theorem many_natS (x : Int) : ∃ N : Nat, 195 ≤ N ∧ N ≤ 204 ∧ 195 + x.tmod 10 % 10 = (N : Int) ∧ -9 ≤ x.tmod 10 ∧ x.tmod 10 ≤ 9 := by
  have h1 : -9 ≤ x.tmod 10 ∧ x.tmod 10 ≤ 9 := by
    have a := Int.tmod_lt_of_pos x (show (0 : Int) < 10 by omega)
    have b := Int.tmod_lt_of_pos (-x) (show (0 : Int) < 10 by omega)
    rw [Int.neg_tmod] at b
    omega
  exact ⟨(195 + x.tmod 10 % 10).toNat, by omega, by omega, by omega, h1.1, h1.2⟩
theorem nmF_str {j : Nat} (hj : j < 204) : (⟨#[116]⟩ : ByteArray) ++ strOfNums [97 + ((j / 26 : Nat) : Int), 97 + ((j % 26 : Nat) : Int)] = nmF j := by
  have h : ∀ j : Fin 204, (⟨#[116]⟩ : ByteArray) ++ strOfNums [97 + ((j.val / 26 : Nat) : Int), 97 + ((j.val % 26 : Nat) : Int)] = nmF j.val := by decide +kernel
  exact h ⟨j, hj⟩
end Go.Proofs.YthdbnlpbidkojaaDoor
/- forest.Same: its walk. -/
namespace Go.Proofs.YthdbnlpbidkojaaDoor
open Go.RowKit Go.ChangeMaps

def eqI (t u : Ty) : Bool := decide (t.nd = u.nd ∧ t.lf = u.lf ∧ t.sq = u.sq)
/-- Are two types the same in all? -/
def sameT (t u : Ty) : Bool := decide (t.n = u.n) && (decide (t.p = u.p) && (eqI t u && (sameR t.own u.own && (sameR t.all u.all && sameS t.ch u.ch))))
theorem sameT_iff (t u : Ty) : sameT t u = true ↔ t = u := by
  unfold sameT eqI sameS
  simp only [Bool.and_eq_true, decide_eq_true_eq, sameR_iff]
  obtain ⟨n, p, o, a, c, nd, lf, sq⟩ := t
  obtain ⟨n', p', o', a', c', nd', lf', sq'⟩ := u
  simp only [Ty.mk.injEq]
  constructor
  · rintro ⟨rfl, rfl, ⟨rfl, rfl, rfl⟩, rfl, rfl, rfl⟩
    exact ⟨rfl, rfl, rfl, rfl, rfl, rfl, rfl, rfl⟩
  · rintro ⟨rfl, rfl, rfl, rfl, rfl, rfl, rfl, rfl⟩
    exact ⟨rfl, rfl, ⟨rfl, rfl, rfl⟩, rfl, rfl, rfl⟩
set_option maxRecDepth 100000 in
set_option maxHeartbeats 4000000 in
theorem sameT_any (x o : LT) (w : World) (hx : IsTy w x.t x.vo x.va x.vc) (ho : IsTy w o.t o.vo o.va o.vc) (mx : x.t.own.length ≤ 1000000 ∧ x.t.all.length ≤ 1000000 ∧ x.t.ch.length ≤ 1000000) (mo : o.t.own.length ≤ 1000000 ∧ o.t.all.length ≤ 1000000 ∧ o.t.ch.length ≤ 1000000) :
    Calls Tryd.prog 17 #[ltV x, ltV o] w fun e w' => e = .returned (.bool (sameT x.t o.t)) ∧ Below w.heap.size w w' := by
  obtain ⟨W0, hW0⟩ : ∃ W0, W0 = (w.alloc (.cells (tyA x.t x.vo x.va x.vc) 29)).alloc (.cells (tyA o.t o.vo o.va o.vc) 29) := ⟨_, rfl⟩
  have hA : Below w.heap.size w W0 := by rw [hW0]; exact (al_b w _).trans ((al_b _ _).mono (by simp))
  have hz : W0.heap.size = w.heap.size + 2 := by rw [hW0]; simp
  have hn0 : W0.heap[w.heap.size]? = some (.cells (tyA x.t x.vo x.va x.vc) 29 (0, 0)) := by
    rw [hW0]
    show ((w.heap.push _).push _)[w.heap.size]? = _
    rw [Array.getElem?_push, if_neg (by simp), Array.getElem?_push, if_pos rfl]
  have hn1 : W0.heap[w.heap.size + 1]? = some (.cells (tyA o.t o.vo o.va o.vc) 29 (0, 0)) := by
    rw [hW0]
    show ((w.heap.push _).push _)[w.heap.size + 1]? = _
    rw [Array.getElem?_push, if_pos (by simp)]
  have HX : Hid (∀ W, Below W0.heap.size W0 W → BxT w.heap.size x.t x.vo x.va x.vc W) := fun W h => BxT.of ((h.block _ (by omega)).trans hn0)
  have HY : Hid (∀ W, Below W0.heap.size W0 W → BxT (w.heap.size + 1) o.t o.vo o.va o.vc W) := fun W h => BxT.of ((h.block _ (by omega)).trans hn1)
  have HBw : Hid (∀ W, Below W0.heap.size W0 W → Below w.heap.size w W) := fun W h => hA.trans (h.mono hA.size)
  have HE1 : Hid (∀ W, Below W0.heap.size W0 W → Calls Tryd.prog 35 #[x.vo, o.vo] W fun e w' => e = .returned (.bool (sameR x.t.own o.t.own)) ∧ Below W.heap.size W w') := fun W h => equalF_any _ _ x.t.own o.t.own W (hx.1.below (HBw.out W h)) (ho.1.below (HBw.out W h)) mx.1 mo.1
  have HE2 : Hid (∀ W, Below W0.heap.size W0 W → Calls Tryd.prog 35 #[x.va, o.va] W fun e w' => e = .returned (.bool (sameR x.t.all o.t.all)) ∧ Below W.heap.size W w') := fun W h => equalF_any _ _ x.t.all o.t.all W (hx.2.1.below (HBw.out W h)) (ho.2.1.below (HBw.out W h)) mx.2.1 mo.2.1
  have HE3 : Hid (∀ W, Below W0.heap.size W0 W → Calls Tryd.prog 36 #[x.vc, o.vc] W fun e w' => e = .returned (.bool (sameS x.t.ch o.t.ch)) ∧ Below W.heap.size W w') := fun W h => equalS_any _ _ x.t.ch o.t.ch W (hx.2.2.below (HBw.out W h)) (ho.2.2.below (HBw.out W h)) mx.2.2 mo.2.2
  have HD : Hid (sameT x.t o.t = (decide (x.t.n = o.t.n) && (decide (x.t.p = o.t.p) && (eqI x.t o.t && (sameR x.t.own o.t.own && (sameR x.t.all o.t.all && sameS x.t.ch o.t.ch)))))) := rfl
  have eN := strEqB x.t.n o.t.n
  have eP := strEqB x.t.p o.t.p
  clear hx ho mx mo hA hn0 hn1
  generalize sameT x.t o.t = BB at *
  generalize sameR x.t.own o.t.own = B1 at *
  generalize sameR x.t.all o.t.all = B2 at *
  generalize sameS x.t.ch o.t.ch = B3 at *
  have HB0 : Hid (Below w.heap.size w W0) := HBw.out _ (Below.refl _ _)
  obtain ⟨⟨a0, a1, a2, a3⟩, a4, a5, a6, a7⟩ := HX.out W0 (Below.refl _ _)
  obtain ⟨⟨b0, b1, b2, b3⟩, b4, b5, b6, b7⟩ := HY.out W0 (Below.refl _ _)
  by_cases h1 : x.t.n = o.t.n
  rotate_left
  · have hB : BB = false := by rw [HD.out, decide_eq_false h1, Bool.false_and]
    subst hB
    rw [decide_eq_false h1] at eN
    clear HD h1 HE1 HE2 HE3
    go_enter Tryd.func17, Tryd.ntmps17
    go_wp2_with fail
    rw [← hW0]
    clear hW0
    go_wp2
    go_ret
    exact ⟨rfl, HB0.out⟩
  rw [decide_eq_true h1] at eN
  by_cases h2 : x.t.p = o.t.p
  rotate_left
  · have hB : BB = false := by rw [HD.out, decide_eq_false h2, Bool.false_and, Bool.and_false]
    subst hB
    rw [decide_eq_false h2] at eP
    clear HD h1 h2 HE1 HE2 HE3
    go_enter Tryd.func17, Tryd.ntmps17
    go_wp2_with fail
    rw [← hW0]
    clear hW0
    go_wp2
    go_ret
    exact ⟨rfl, HB0.out⟩
  rw [decide_eq_true h2] at eP
  by_cases h3 : x.t.nd = o.t.nd ∧ x.t.lf = o.t.lf ∧ x.t.sq = o.t.sq
  rotate_left
  · have hB : BB = false := by rw [HD.out]; unfold eqI; rw [decide_eq_false h3, Bool.false_and, Bool.and_false, Bool.and_false]
    subst hB
    clear HD h1 h2 HE1 HE2 HE3
    by_cases e1 : x.t.nd = o.t.nd
    rotate_left
    · clear h3
      go_enter Tryd.func17, Tryd.ntmps17
      go_wp2_with fail
      rw [← hW0]
      clear hW0
      go_wp2
      go_ret
      exact ⟨rfl, HB0.out⟩
    by_cases e2 : x.t.lf = o.t.lf
    rotate_left
    · clear h3
      go_enter Tryd.func17, Tryd.ntmps17
      go_wp2_with fail
      rw [← hW0]
      clear hW0
      go_wp2
      go_ret
      exact ⟨rfl, HB0.out⟩
    have e3 : ¬ x.t.sq = o.t.sq := fun e3 => h3 ⟨e1, e2, e3⟩
    clear h3
    go_enter Tryd.func17, Tryd.ntmps17
    go_wp2_with fail
    rw [← hW0]
    clear hW0
    go_wp2
    go_ret
    exact ⟨rfl, HB0.out⟩
  have hI : eqI x.t o.t = true := by unfold eqI; exact decide_eq_true h3
  obtain ⟨j1, j2, j3⟩ := h3
  have HD2 : Hid (BB = (B1 && (B2 && B3))) := by show _ = _; rw [HD.out, decide_eq_true h1, decide_eq_true h2, hI, Bool.true_and, Bool.true_and, Bool.true_and]
  clear HD h1 h2 hI
  go_enter Tryd.func17, Tryd.ntmps17
  go_wp2_with fail
  rw [← hW0]
  clear hW0
  go_wp2_with fail
  refine (HE1.out W0 (Below.refl _ _)).mono ?_
  rintro e w1 ⟨rfl, hbw1⟩
  have Hw1 : Hid (Below W0.heap.size W0 w1) := hbw1
  have HBw1 : Hid (Below w.heap.size w w1) := HBw.out _ Hw1.out
  clear hbw1 a0 a1 a2 a3 a4 a5 a6 a7 b0 b1 b2 b3 b4 b5 b6 b7
  obtain ⟨⟨a0, a1, a2, a3⟩, a4, a5, a6, a7⟩ := HX.out w1 Hw1.out
  obtain ⟨⟨b0, b1, b2, b3⟩, b4, b5, b6, b7⟩ := HY.out w1 Hw1.out
  cases B1
  · have hB : BB = false := by rw [HD2.out, Bool.false_and]
    subst hB
    go_wp2
    go_ret
    exact ⟨rfl, HBw1.out⟩
  go_wp2_with fail
  refine (HE2.out w1 Hw1.out).mono ?_
  rintro e w2 ⟨rfl, hbw2⟩
  have Hw2 : Hid (Below W0.heap.size W0 w2) := Hw1.out.trans (hbw2.mono Hw1.out.size)
  have HBw2 : Hid (Below w.heap.size w w2) := HBw.out _ Hw2.out
  clear hbw2 a0 a1 a2 a3 a4 a5 a6 a7 b0 b1 b2 b3 b4 b5 b6 b7
  obtain ⟨⟨a0, a1, a2, a3⟩, a4, a5, a6, a7⟩ := HX.out w2 Hw2.out
  obtain ⟨⟨b0, b1, b2, b3⟩, b4, b5, b6, b7⟩ := HY.out w2 Hw2.out
  cases B2
  · have hB : BB = false := by rw [HD2.out, Bool.false_and, Bool.and_false]
    subst hB
    go_wp2
    go_ret
    exact ⟨rfl, HBw2.out⟩
  go_wp2_with fail
  refine (HE3.out w2 Hw2.out).mono ?_
  rintro e w3 ⟨rfl, hbw3⟩
  have Hw3 : Hid (Below W0.heap.size W0 w3) := Hw2.out.trans (hbw3.mono Hw2.out.size)
  have HBw3 : Hid (Below w.heap.size w w3) := HBw.out _ Hw3.out
  clear hbw3 a0 a1 a2 a3 a4 a5 a6 a7 b0 b1 b2 b3 b4 b5 b6 b7
  obtain ⟨⟨a0, a1, a2, a3⟩, a4, a5, a6, a7⟩ := HX.out w3 Hw3.out
  obtain ⟨⟨b0, b1, b2, b3⟩, b4, b5, b6, b7⟩ := HY.out w3 Hw3.out
  have hB : BB = B3 := by rw [HD2.out, Bool.true_and, Bool.true_and]
  subst hB
  go_wp2
  go_ret
  exact ⟨rfl, HBw3.out⟩
end Go.Proofs.YthdbnlpbidkojaaDoor
