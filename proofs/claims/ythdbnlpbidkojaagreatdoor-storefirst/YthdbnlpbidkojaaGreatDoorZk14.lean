/- store's Put of a type that is kept: its walk. -/
import Derived.Test.YthdbnlpbidkojaaGreatDoorZk12
import Derived.Test.YthdbnlpbidkojaaGreatDoorZk8
import Derived.Test.YthdbnlpbidkojaaGreatDoorZk13
import Derived.Test.YthdbnlpbidkojaaGreatDoorZk11
namespace Go.Proofs.YthdbnlpbidkojaaGreatDoor
open Go.RowKit Go.ChangeMaps

abbrev st8 (W : World) (g : Nat) (u0 u1 u2 u3 u4 u5 u6 u7 : Value) : World := ((((((((W.setCell ⟨g, 0, none⟩ u0).setCell ⟨g, 1, none⟩ u1).setCell ⟨g, 2, none⟩ u2).setCell ⟨g, 3, none⟩ u3).setCell ⟨g, 4, none⟩ u4).setCell ⟨g, 5, none⟩ u5).setCell ⟨g, 6, none⟩ u6).setCell ⟨g, 7, none⟩ u7)
theorem st8_other {W : World} {g h : Nat} (hne : h ≠ g) (u0 u1 u2 u3 u4 u5 u6 u7 : Value) : (st8 W g u0 u1 u2 u3 u4 u5 u6 u7).heap[h]? = W.heap[h]? := by
  unfold st8
  rw [Below.heap_setCell _ _ _ _ hne, Below.heap_setCell _ _ _ _ hne, Below.heap_setCell _ _ _ _ hne, Below.heap_setCell _ _ _ _ hne, Below.heap_setCell _ _ _ _ hne, Below.heap_setCell _ _ _ _ hne, Below.heap_setCell _ _ _ _ hne, Below.heap_setCell _ _ _ _ hne]
theorem Stp.set1 {w W : World} {F F' : Nat → Prop} {g : Nat} (h : Stp w F F' W) (hg : w.heap.size ≤ g) (j : Nat) (v : Value) : Stp w F F' (W.setCell ⟨g, j, none⟩ v) := by
  refine ⟨h.os, h.tape, h.output, Nat.le_trans h.size ?_, fun k hk hn => (Below.heap_setCell _ _ _ _ (by show k ≠ g; omega)).trans (h.block k hk hn), h.fp⟩
  show W.heap.size ≤ (W.heap.modify g _).size
  simp
theorem Stp.st8 {w W : World} {F F' : Nat → Prop} {g : Nat} (h : Stp w F F' W) (hg : w.heap.size ≤ g) (u0 u1 u2 u3 u4 u5 u6 u7 : Value) : Stp w F F' (Go.Proofs.YthdbnlpbidkojaaGreatDoor.st8 W g u0 u1 u2 u3 u4 u5 u6 u7) :=
  (((((((h.set1 hg 0 u0).set1 hg 1 u1).set1 hg 2 u2).set1 hg 3 u3).set1 hg 4 u4).set1 hg 5 u5).set1 hg 6 u6).set1 hg 7 u7
theorem lkS_mem {E : List (ByteArray × Nat)} {k : ByteArray} {g : Nat} (h : lkS E k = some g) : (k, g) ∈ E := by
  unfold lkS at h
  obtain ⟨p, hp, rfl⟩ := Option.map_eq_some_iff.1 h
  have h1 := List.mem_of_find?_eq_some hp
  have h2 : p.1 = k := by simpa using List.find?_some hp
  rw [← h2]
  exact h1
/-- What Put leaves of a type that is kept. -/
def PuP (base : Nat) (w : World) (s m : Nat) (E : List (ByteArray × Nat)) (X : Nat → Kp) (t : Ty) (e : Ending) (w' : World) : Prop :=
  ∃ g v1 v2 v3, e = .returned (.tuple #[tyV t v1 v2 v3, .int .i64 0]) ∧ StV base w' s m (stS E (fldB t.n) g) (upX X g ⟨t, false, zW⟩) ∧ w.heap.size ≤ g ∧ Stp w (fun k => k = m) (fun k => k = m) w' ∧ OwnTy w.heap.size w' t v1 v2 v3
set_option maxRecDepth 100000 in
set_option maxHeartbeats 4000000 in
theorem put_new {base : Nat} {w : World} {s m : Nat} {E : List (ByteArray × Nat)} {X : Nat → Kp} (h : StV base w s m E X) (hb0 : base ≤ w.heap.size) (t : Ty) (vo va vc : Value) (hr : IsTy w t vo va vc) (h1 : t.own.length ≤ 1000) (h2 : t.all.length ≤ 1000) (h3 : t.ch.length ≤ 1000) (hn : NmT t) (hT : UT w) (hM : ML w) (hc : chkT t = true) (hfree : lkS E (fldB t.n) = none → E.length < 200) (hord : ∀ g0, lkS E (fldB t.n) = some g0 → or3 (ordI t.nd (X g0).t.nd) (ordI t.lf (X g0).t.lf) (ordI t.sq (X g0).t.sq) < 0) :
    Calls Tryz.prog 15 #[stP s, tyV t vo va vc] w fun e w' => PuP base w s m E X t e w' := by
  obtain ⟨ao, co, rfl⟩ := hr.1.form
  obtain ⟨aa, ca, rfl⟩ := hr.2.1.form
  obtain ⟨ac, cc, rfl⟩ := hr.2.2.form
  have HCh : Hid (∀ W, Below w.heap.size w W → Calls Tryz.prog 17 #[(tyV t (.slice ao t.own.length co) (.slice aa t.all.length ca) (.slice ac t.ch.length cc))] W fun e w' => e = .returned (.bool true) ∧ Below W.heap.size W w') := fun W hb => hc ▸ checkT_any t _ _ _ W (hr.below hb) hn (Utf8Tabs_below hT hb) (ML_below hM hb)
  have HFi : Hid (∀ W, Below w.heap.size w W → Calls Tryz.prog 35 #[stP s, .string t.n] W fun e w' => e = .returned (ptS (lkS E (fldB t.n))) ∧ Below W.heap.size W w') := fun W hb => find_any (h.below hb) t.n hn.n (Utf8Tabs_below hT hb)
  have HKe : Hid (∀ W, Below w.heap.size w W → Calls Tryz.prog 42 #[stP s, (tyV t (.slice ao t.own.length co) (.slice aa t.all.length ca) (.slice ac t.ch.length cc))] W fun e w' => KeP base W s m E X t e w') := fun W hb => keep_any (h.below hb) (Nat.le_trans hb0 hb.size) t _ _ _ (hr.below hb) h1 h2 h3 hn.n (Utf8Tabs_below hT hb) hfree
  have HCo : Hid (∀ W, CKp w W → Calls Tryz.prog 36 #[(tyV t (.slice ao t.own.length co) (.slice aa t.all.length ca) (.slice ac t.ch.length cc))] W fun e w' => CpT t W e w') := fun W hb => copyOf_any t _ _ _ W (hb.ty hr) h1 h2 h3
  have HOr : Hid (∀ (a b c a' b' c' : Int) W, Calls Tryz.prog 19 #[idV a b c, idV a' b' c'] W fun e w' => e = .returned (.int .i64 (or3 (ordI a a') (ordI b b') (ordI c c'))) ∧ Below W.heap.size W w') := fun a b c a' b' c' W => order_any a b c a' b' c' W
  have HS : Hid (∀ W, Below w.heap.size w W → StV base W s m E X) := fun W hb => h.below hb
  obtain ⟨ky, hky⟩ : ∃ ky, ky = fldB t.n := ⟨_, rfl⟩
  have HR : Hid (∀ g v1 v2 v3 w', StV base w' s m (stS E ky g) (upX X g ⟨t, false, zW⟩) → w.heap.size ≤ g → Stp w (fun k => k = m) (fun k => k = m) w' → OwnTy w.heap.size w' t v1 v2 v3 → PuP base w s m E X t (.returned (.tuple #[tyV t v1 v2 v3, .int .i64 0])) w') := fun g v1 v2 v3 w' a b c d => ⟨g, v1, v2, v3, rfl, hky ▸ a, b, c, d⟩
  unfold KeP at HKe
  rw [← hky] at HFi HKe hfree hord
  obtain ⟨R, hR⟩ : ∃ R : Ending → World → Prop, R = PuP base w s m E X t := ⟨_, rfl⟩
  show Calls Tryz.prog 15 #[stP s, (tyV t (.slice ao t.own.length co) (.slice aa t.all.length ca) (.slice ac t.ch.length cc))] w fun e w' => PuP base w s m E X t e w'
  rw [← hR] at HR ⊢
  clear hky hR h1 h2 h3 hn hT hM hc hb0 hfree hr
  cases hL : lkS E ky
  case none =>
    rw [hL] at HFi
    have HFi : Hid (∀ W, Below w.heap.size w W → Calls Tryz.prog 35 #[stP s, .string t.n] W fun e w' => e = .returned (.pointer none) ∧ Below W.heap.size W w') := HFi
    clear hL hord h
    obtain ⟨w1, hw1⟩ : ∃ w1, w1 = w.alloc (.cells (tyA t (.slice ao t.own.length co) (.slice aa t.all.length ca) (.slice ac t.ch.length cc)) 35) := ⟨_, rfl⟩
    have B1 : Hid (Below w.heap.size w w1) := by show Below _ _ _; rw [hw1]; exact al_b _ _
    have hn1 : w1.heap[w.heap.size]? = some (.cells (tyA t (.slice ao t.own.length co) (.slice aa t.all.length ca) (.slice ac t.ch.length cc)) 35 (0, 0)) := by rw [hw1]; exact new_at _ _
    have C1 : Hid (∀ W, Below w1.heap.size w1 W → W.heap[w.heap.size]? = some (.cells (tyA t (.slice ao t.own.length co) (.slice aa t.all.length ca) (.slice ac t.ch.length cc)) 35 (0, 0))) := fun W h => (h.block _ (Array.getElem?_eq_some_iff.1 hn1).1).trans hn1
    clear hn1
    obtain ⟨w2, hw2⟩ : ∃ w2, w2 = w1.alloc (.cells zTyA 35) := ⟨_, rfl⟩
    have B2 : Hid (Below w1.heap.size w1 w2) := by show Below _ _ _; rw [hw2]; exact al_b _ _
    have hn2 : w2.heap[(w.heap.size + 1)]? = some (.cells zTyA 35 (0, 0)) := by rw [hw2]; rw [show w.heap.size + 1 = w1.heap.size by (rw [hw1]; simp)]; exact new_at _ _
    have C2 : Hid (∀ W, Below w2.heap.size w2 W → W.heap[(w.heap.size + 1)]? = some (.cells zTyA 35 (0, 0))) := fun W h => (h.block _ (Array.getElem?_eq_some_iff.1 hn2).1).trans hn2
    clear hn2
    have hk := C1.out w2 B2.out
    have c1_0 : w2.cell? ⟨w.heap.size, 0, none⟩ = some (.string t.n) := by rw [Lib.cell_of_heap hk]; rfl
    have c1_1 : w2.cell? ⟨w.heap.size, 1, none⟩ = some (.string t.p) := by rw [Lib.cell_of_heap hk]; rfl
    have c1_2 : w2.cell? ⟨w.heap.size, 2, none⟩ = some (.slice ao t.own.length co) := by rw [Lib.cell_of_heap hk]; rfl
    have c1_3 : w2.cell? ⟨w.heap.size, 3, none⟩ = some (.slice aa t.all.length ca) := by rw [Lib.cell_of_heap hk]; rfl
    have c1_4 : w2.cell? ⟨w.heap.size, 4, none⟩ = some (.slice ac t.ch.length cc) := by rw [Lib.cell_of_heap hk]; rfl
    have c1_5 : w2.cell? ⟨w.heap.size, 5, none⟩ = some (.int .i64 t.nd) := by rw [Lib.cell_of_heap hk]; rfl
    have c1_6 : w2.cell? ⟨w.heap.size, 6, none⟩ = some (.int .i64 t.lf) := by rw [Lib.cell_of_heap hk]; rfl
    have c1_7 : w2.cell? ⟨w.heap.size, 7, none⟩ = some (.int .i64 t.sq) := by rw [Lib.cell_of_heap hk]; rfl
    clear hk
    rw [hw2, hw1] at c1_0 c1_1 c1_2 c1_3 c1_4 c1_5 c1_6 c1_7
    go_enter Tryz.func15, Tryz.ntmps15
    go_wp2_with fail
    rw [← hw1, ← hw2]
    clear hw1 hw2
    clear c1_0 c1_1 c1_2 c1_3 c1_4 c1_5 c1_6 c1_7
    refine (HCh.out _ (bTS B1.out B2.out)).mono ?_
    rintro e w3 ⟨rfl, hb⟩
    have B3 : Hid (Below w2.heap.size w2 w3) := hb
    clear hb 
    have hk := C1.out w3 (bTS B2.out B3.out)
    have c1_0 : w3.cell? ⟨w.heap.size, 0, none⟩ = some (.string t.n) := by rw [Lib.cell_of_heap hk]; rfl
    have c1_1 : w3.cell? ⟨w.heap.size, 1, none⟩ = some (.string t.p) := by rw [Lib.cell_of_heap hk]; rfl
    have c1_2 : w3.cell? ⟨w.heap.size, 2, none⟩ = some (.slice ao t.own.length co) := by rw [Lib.cell_of_heap hk]; rfl
    have c1_3 : w3.cell? ⟨w.heap.size, 3, none⟩ = some (.slice aa t.all.length ca) := by rw [Lib.cell_of_heap hk]; rfl
    have c1_4 : w3.cell? ⟨w.heap.size, 4, none⟩ = some (.slice ac t.ch.length cc) := by rw [Lib.cell_of_heap hk]; rfl
    have c1_5 : w3.cell? ⟨w.heap.size, 5, none⟩ = some (.int .i64 t.nd) := by rw [Lib.cell_of_heap hk]; rfl
    have c1_6 : w3.cell? ⟨w.heap.size, 6, none⟩ = some (.int .i64 t.lf) := by rw [Lib.cell_of_heap hk]; rfl
    have c1_7 : w3.cell? ⟨w.heap.size, 7, none⟩ = some (.int .i64 t.sq) := by rw [Lib.cell_of_heap hk]; rfl
    clear hk
    go_wp2_with fail
    clear c1_0 c1_1 c1_2 c1_3 c1_4 c1_5 c1_6 c1_7
    refine (HFi.out _ (bTS (bTS B1.out B2.out) B3.out)).mono ?_
    rintro e w4 ⟨rfl, hb⟩
    have B4 : Hid (Below w3.heap.size w3 w4) := hb
    clear hb 
    go_wp2_with fail
    refine wp_region_quiet (C := fun w' => Below w4.heap.size w4 w') (by kernel_rfl) (by kernel_rfl) ((Below.refl _ _).drew) ?_
    dsimp only
    repeat (first
      | go_big_quiet_skip
      | (go_big_quiet_want
         apply Exists.intro
         refine ⟨fun W' hW' => ?_, ?_⟩
         · have hw : Below w4.heap.size w4 W' := hW'
           go_simp
           first
             | done
             | rfl
             | (go_at_call 19; (with_reducible refine Calls.mono (HOr.out _ _ _ _ _ _ W') ?_); rintro e w'' ⟨rfl, hb⟩; exact ⟨rfl, hw.trans (hb.mono hw.size)⟩)
         go_big_quiet_on
         try simp only [Act.put, List.setIfInBounds_toArray, List.set_cons_zero, List.set_cons_succ]))
    refine wpQuiet_nil ?_
    intro w5 hqw
    have B5 : Hid (Below w4.heap.size w4 w5) := hqw
    clear hqw
    have hk := C1.out w5 (bTS (bTS (bTS B2.out B3.out) B4.out) B5.out)
    have c1_0 : w5.cell? ⟨w.heap.size, 0, none⟩ = some (.string t.n) := by rw [Lib.cell_of_heap hk]; rfl
    have c1_1 : w5.cell? ⟨w.heap.size, 1, none⟩ = some (.string t.p) := by rw [Lib.cell_of_heap hk]; rfl
    have c1_2 : w5.cell? ⟨w.heap.size, 2, none⟩ = some (.slice ao t.own.length co) := by rw [Lib.cell_of_heap hk]; rfl
    have c1_3 : w5.cell? ⟨w.heap.size, 3, none⟩ = some (.slice aa t.all.length ca) := by rw [Lib.cell_of_heap hk]; rfl
    have c1_4 : w5.cell? ⟨w.heap.size, 4, none⟩ = some (.slice ac t.ch.length cc) := by rw [Lib.cell_of_heap hk]; rfl
    have c1_5 : w5.cell? ⟨w.heap.size, 5, none⟩ = some (.int .i64 t.nd) := by rw [Lib.cell_of_heap hk]; rfl
    have c1_6 : w5.cell? ⟨w.heap.size, 6, none⟩ = some (.int .i64 t.lf) := by rw [Lib.cell_of_heap hk]; rfl
    have c1_7 : w5.cell? ⟨w.heap.size, 7, none⟩ = some (.int .i64 t.sq) := by rw [Lib.cell_of_heap hk]; rfl
    clear hk
    go_wp2_with fail
    clear c1_0 c1_1 c1_2 c1_3 c1_4 c1_5 c1_6 c1_7
    refine (HKe.out _ (bTS (bTS (bTS (bTS B1.out B2.out) B3.out) B4.out) B5.out)).mono ?_
    rintro e wa ⟨g, rfl, hSa, hga, hsa⟩
    have HCa : Hid (CKp w wa) := (CKp.of (bTS (bTS (bTS (bTS B1.out B2.out) B3.out) B4.out) B5.out)).trans (CKp.stp (HS.out _ (bTS (bTS (bTS (bTS B1.out B2.out) B3.out) B4.out) B5.out)) hsa)
    have HBa : Hid (wa.heap[w.heap.size]? = some (.cells (tyA t (.slice ao t.own.length co) (.slice aa t.all.length ca) (.slice ac t.ch.length cc)) 35 (0, 0))) := ((CKp.stp (HS.out _ (bTS (bTS (bTS (bTS B1.out B2.out) B3.out) B4.out) B5.out)) hsa).2 _ _ _ _ (C1.out _ (bTS (bTS (bTS B2.out B3.out) B4.out) B5.out))).trans (C1.out _ (bTS (bTS (bTS B2.out B3.out) B4.out) B5.out))
    have HZa : Hid (wa.heap[w.heap.size + 1]? = some (.cells zTyA 35 (0, 0))) := ((CKp.stp (HS.out _ (bTS (bTS (bTS (bTS B1.out B2.out) B3.out) B4.out) B5.out)) hsa).2 _ _ _ _ (C2.out _ (bTS (bTS B3.out B4.out) B5.out))).trans (C2.out _ (bTS (bTS B3.out B4.out) B5.out))
    have HSa : Hid (StV base wa s m (stS E ky g) (upX X g ⟨t, false, zW⟩)) := hSa
    have Hg : Hid (w.heap.size ≤ g) := Nat.le_trans (Below.size (bTS (bTS (bTS (bTS B1.out B2.out) B3.out) B4.out) B5.out)) hga
    have Hsa : Hid (Stp w (fun k => k = m) (fun k => k = m) wa) := (Stp.of _ (bTS (bTS (bTS (bTS B1.out B2.out) B3.out) B4.out) B5.out)).trans hsa
    clear hSa hga hsa HS HCh HFi HKe HOr
    obtain ⟨⟨p0, p1, p2, p3⟩, p4, p5, p6, p7⟩ := BxT.of HBa.out
    go_wp2_with fail
    clear p0 p1 p2 p3 p4 p5 p6 p7
    refine (HCo.out _ HCa.out).mono ?_
    rintro e wb ⟨v1, v2, v3, rfl, ho, hb⟩
    obtain ⟨x1, y1, rfl⟩ := (IsRow.own ho.1).form
    obtain ⟨x2, y2, rfl⟩ := (IsRow.own ho.2.1).form
    obtain ⟨x3, y3, rfl⟩ := (IsRow.own ho.2.2).form
    have HZb : Hid (wb.heap[w.heap.size + 1]? = some (.cells zTyA 35 (0, 0))) := (hb.block _ (Array.getElem?_eq_some_iff.1 HZa.out).1).trans HZa.out
    have hlt : w.heap.size + 1 < wa.heap.size := (Array.getElem?_eq_some_iff.1 HZa.out).1
    have HEnd : Hid (∀ u0 u1 u2 u3 u4 u5 u6 u7, R (.returned (.tuple #[tyV t (.slice x1 t.own.length y1) (.slice x2 t.all.length y2) (.slice x3 t.ch.length y3), .int .i64 0])) (st8 wb (w.heap.size + 1) u0 u1 u2 u3 u4 u5 u6 u7)) := fun u0 u1 u2 u3 u4 u5 u6 u7 => HR.out g _ _ _ _ ((HSa.out.below hb).far HZb.out (by decide) (by decide) (by decide) (by decide) fun j hj => st8_other hj u0 u1 u2 u3 u4 u5 u6 u7) Hg.out ((Hsa.out.trans (Stp.of _ hb)).st8 (Nat.le_add_right _ 1) u0 u1 u2 u3 u4 u5 u6 u7) ((((((((((ho.set hlt 0 u0).set hlt 1 u1).set hlt 2 u2).set hlt 3 u3).set hlt 4 u4).set hlt 5 u5).set hlt 6 u6).set hlt 7 u7).le (Nat.le_of_lt (Nat.lt_of_succ_lt hlt))))
    obtain ⟨⟨e0, e1, e2, e3⟩, e4, e5, e6, e7⟩ := BxT.of (t := zT) HZb.out
    have f0 : ∀ j, wb.frozen? ⟨w.heap.size + 1, j, none⟩ = false := fun j => Lib.frozen_of_heap HZb.out j
    clear ho hb HZa HBa HSa Hsa HCa HCo HR hlt
    go_wp2_with fail
    try simp only [Exit.inBlock, Exit.then]
    refine bodyPost_ret (v := .tuple #[tyV t (.slice x1 t.own.length y1) (.slice x2 t.all.length y2) (.slice x3 t.ch.length y3), .int .i64 0]) ?_ rfl (HEnd.out _ _ _ _ _ _ _ _)
    rw [results_c2 rfl]; go_simp
  case some g0 =>
    rw [hL] at HFi
    have HFi : Hid (∀ W, Below w.heap.size w W → Calls Tryz.prog 35 #[stP s, .string t.n] W fun e w' => e = .returned (.pointer (some ⟨g0, 0, none⟩)) ∧ Below W.heap.size W w') := HFi
    have HK : Hid (∀ W, Below w.heap.size w W → W.cell? ⟨g0, 5, none⟩ = some (.int .i64 (X g0).t.nd) ∧ W.cell? ⟨g0, 6, none⟩ = some (.int .i64 (X g0).t.lf) ∧ W.cell? ⟨g0, 7, none⟩ = some (.int .i64 (X g0).t.sq)) := fun W hb => by
      obtain ⟨-, v1, v2, v3, hk, -⟩ := (h.below hb).kp _ (lkS_mem hL)
      exact ⟨by rw [Lib.cell_of_heap hk]; rfl, by rw [Lib.cell_of_heap hk]; rfl, by rw [Lib.cell_of_heap hk]; rfl⟩
    have hlt := hord g0 hL
    have d1 : decide ((0 : Int) ≤ or3 (ordI t.nd (X g0).t.nd) (ordI t.lf (X g0).t.lf) (ordI t.sq (X g0).t.sq)) = false := decide_eq_false (by omega)
    clear hL hord hlt h
    obtain ⟨w1, hw1⟩ : ∃ w1, w1 = w.alloc (.cells (tyA t (.slice ao t.own.length co) (.slice aa t.all.length ca) (.slice ac t.ch.length cc)) 35) := ⟨_, rfl⟩
    have B1 : Hid (Below w.heap.size w w1) := by show Below _ _ _; rw [hw1]; exact al_b _ _
    have hn1 : w1.heap[w.heap.size]? = some (.cells (tyA t (.slice ao t.own.length co) (.slice aa t.all.length ca) (.slice ac t.ch.length cc)) 35 (0, 0)) := by rw [hw1]; exact new_at _ _
    have C1 : Hid (∀ W, Below w1.heap.size w1 W → W.heap[w.heap.size]? = some (.cells (tyA t (.slice ao t.own.length co) (.slice aa t.all.length ca) (.slice ac t.ch.length cc)) 35 (0, 0))) := fun W h => (h.block _ (Array.getElem?_eq_some_iff.1 hn1).1).trans hn1
    clear hn1
    obtain ⟨w2, hw2⟩ : ∃ w2, w2 = w1.alloc (.cells zTyA 35) := ⟨_, rfl⟩
    have B2 : Hid (Below w1.heap.size w1 w2) := by show Below _ _ _; rw [hw2]; exact al_b _ _
    have hn2 : w2.heap[(w.heap.size + 1)]? = some (.cells zTyA 35 (0, 0)) := by rw [hw2]; rw [show w.heap.size + 1 = w1.heap.size by (rw [hw1]; simp)]; exact new_at _ _
    have C2 : Hid (∀ W, Below w2.heap.size w2 W → W.heap[(w.heap.size + 1)]? = some (.cells zTyA 35 (0, 0))) := fun W h => (h.block _ (Array.getElem?_eq_some_iff.1 hn2).1).trans hn2
    clear hn2
    have hk := C1.out w2 B2.out
    have c1_0 : w2.cell? ⟨w.heap.size, 0, none⟩ = some (.string t.n) := by rw [Lib.cell_of_heap hk]; rfl
    have c1_1 : w2.cell? ⟨w.heap.size, 1, none⟩ = some (.string t.p) := by rw [Lib.cell_of_heap hk]; rfl
    have c1_2 : w2.cell? ⟨w.heap.size, 2, none⟩ = some (.slice ao t.own.length co) := by rw [Lib.cell_of_heap hk]; rfl
    have c1_3 : w2.cell? ⟨w.heap.size, 3, none⟩ = some (.slice aa t.all.length ca) := by rw [Lib.cell_of_heap hk]; rfl
    have c1_4 : w2.cell? ⟨w.heap.size, 4, none⟩ = some (.slice ac t.ch.length cc) := by rw [Lib.cell_of_heap hk]; rfl
    have c1_5 : w2.cell? ⟨w.heap.size, 5, none⟩ = some (.int .i64 t.nd) := by rw [Lib.cell_of_heap hk]; rfl
    have c1_6 : w2.cell? ⟨w.heap.size, 6, none⟩ = some (.int .i64 t.lf) := by rw [Lib.cell_of_heap hk]; rfl
    have c1_7 : w2.cell? ⟨w.heap.size, 7, none⟩ = some (.int .i64 t.sq) := by rw [Lib.cell_of_heap hk]; rfl
    clear hk
    rw [hw2, hw1] at c1_0 c1_1 c1_2 c1_3 c1_4 c1_5 c1_6 c1_7
    go_enter Tryz.func15, Tryz.ntmps15
    go_wp2_with fail
    rw [← hw1, ← hw2]
    clear hw1 hw2
    clear c1_0 c1_1 c1_2 c1_3 c1_4 c1_5 c1_6 c1_7
    refine (HCh.out _ (bTS B1.out B2.out)).mono ?_
    rintro e w3 ⟨rfl, hb⟩
    have B3 : Hid (Below w2.heap.size w2 w3) := hb
    clear hb 
    have hk := C1.out w3 (bTS B2.out B3.out)
    have c1_0 : w3.cell? ⟨w.heap.size, 0, none⟩ = some (.string t.n) := by rw [Lib.cell_of_heap hk]; rfl
    have c1_1 : w3.cell? ⟨w.heap.size, 1, none⟩ = some (.string t.p) := by rw [Lib.cell_of_heap hk]; rfl
    have c1_2 : w3.cell? ⟨w.heap.size, 2, none⟩ = some (.slice ao t.own.length co) := by rw [Lib.cell_of_heap hk]; rfl
    have c1_3 : w3.cell? ⟨w.heap.size, 3, none⟩ = some (.slice aa t.all.length ca) := by rw [Lib.cell_of_heap hk]; rfl
    have c1_4 : w3.cell? ⟨w.heap.size, 4, none⟩ = some (.slice ac t.ch.length cc) := by rw [Lib.cell_of_heap hk]; rfl
    have c1_5 : w3.cell? ⟨w.heap.size, 5, none⟩ = some (.int .i64 t.nd) := by rw [Lib.cell_of_heap hk]; rfl
    have c1_6 : w3.cell? ⟨w.heap.size, 6, none⟩ = some (.int .i64 t.lf) := by rw [Lib.cell_of_heap hk]; rfl
    have c1_7 : w3.cell? ⟨w.heap.size, 7, none⟩ = some (.int .i64 t.sq) := by rw [Lib.cell_of_heap hk]; rfl
    clear hk
    go_wp2_with fail
    clear c1_0 c1_1 c1_2 c1_3 c1_4 c1_5 c1_6 c1_7
    refine (HFi.out _ (bTS (bTS B1.out B2.out) B3.out)).mono ?_
    rintro e w4 ⟨rfl, hb⟩
    have B4 : Hid (Below w3.heap.size w3 w4) := hb
    clear hb 
    go_wp2_with fail
    refine wp_region_quiet (C := fun w' => Below w4.heap.size w4 w') (by kernel_rfl) (by kernel_rfl) ((Below.refl _ _).drew) ?_
    dsimp only
    repeat (first
      | go_big_quiet_skip
      | (go_big_quiet_want
         apply Exists.intro
         refine ⟨fun W' hW' => ?_, ?_⟩
         · have hw : Below w4.heap.size w4 W' := hW'
           obtain ⟨⟨g0, g1, g2, g3⟩, g4, g5, g6, g7⟩ := BxT.of (C1.out W' (bTS (bTS (bTS B2.out B3.out) B4.out) hw))
           obtain ⟨c5, c6, c7⟩ := HK.out W' (bTS (bTS (bTS (bTS B1.out B2.out) B3.out) B4.out) hw)
           go_simp
           first
             | done
             | rfl
             | (go_at_call 19; (with_reducible refine Calls.mono (HOr.out _ _ _ _ _ _ W') ?_); rintro e w'' ⟨rfl, hb⟩; exact ⟨rfl, hw.trans (hb.mono hw.size)⟩)
         go_big_quiet_on
         try simp only [Act.put, List.setIfInBounds_toArray, List.set_cons_zero, List.set_cons_succ]))
    refine wpQuiet_nil ?_
    intro w5 hqw
    have B5 : Hid (Below w4.heap.size w4 w5) := hqw
    clear hqw
    have hk := C1.out w5 (bTS (bTS (bTS B2.out B3.out) B4.out) B5.out)
    have c1_0 : w5.cell? ⟨w.heap.size, 0, none⟩ = some (.string t.n) := by rw [Lib.cell_of_heap hk]; rfl
    have c1_1 : w5.cell? ⟨w.heap.size, 1, none⟩ = some (.string t.p) := by rw [Lib.cell_of_heap hk]; rfl
    have c1_2 : w5.cell? ⟨w.heap.size, 2, none⟩ = some (.slice ao t.own.length co) := by rw [Lib.cell_of_heap hk]; rfl
    have c1_3 : w5.cell? ⟨w.heap.size, 3, none⟩ = some (.slice aa t.all.length ca) := by rw [Lib.cell_of_heap hk]; rfl
    have c1_4 : w5.cell? ⟨w.heap.size, 4, none⟩ = some (.slice ac t.ch.length cc) := by rw [Lib.cell_of_heap hk]; rfl
    have c1_5 : w5.cell? ⟨w.heap.size, 5, none⟩ = some (.int .i64 t.nd) := by rw [Lib.cell_of_heap hk]; rfl
    have c1_6 : w5.cell? ⟨w.heap.size, 6, none⟩ = some (.int .i64 t.lf) := by rw [Lib.cell_of_heap hk]; rfl
    have c1_7 : w5.cell? ⟨w.heap.size, 7, none⟩ = some (.int .i64 t.sq) := by rw [Lib.cell_of_heap hk]; rfl
    clear hk
    go_wp2_with fail
    clear c1_0 c1_1 c1_2 c1_3 c1_4 c1_5 c1_6 c1_7
    refine (HKe.out _ (bTS (bTS (bTS (bTS B1.out B2.out) B3.out) B4.out) B5.out)).mono ?_
    rintro e wa ⟨g, rfl, hSa, hga, hsa⟩
    have HCa : Hid (CKp w wa) := (CKp.of (bTS (bTS (bTS (bTS B1.out B2.out) B3.out) B4.out) B5.out)).trans (CKp.stp (HS.out _ (bTS (bTS (bTS (bTS B1.out B2.out) B3.out) B4.out) B5.out)) hsa)
    have HBa : Hid (wa.heap[w.heap.size]? = some (.cells (tyA t (.slice ao t.own.length co) (.slice aa t.all.length ca) (.slice ac t.ch.length cc)) 35 (0, 0))) := ((CKp.stp (HS.out _ (bTS (bTS (bTS (bTS B1.out B2.out) B3.out) B4.out) B5.out)) hsa).2 _ _ _ _ (C1.out _ (bTS (bTS (bTS B2.out B3.out) B4.out) B5.out))).trans (C1.out _ (bTS (bTS (bTS B2.out B3.out) B4.out) B5.out))
    have HZa : Hid (wa.heap[w.heap.size + 1]? = some (.cells zTyA 35 (0, 0))) := ((CKp.stp (HS.out _ (bTS (bTS (bTS (bTS B1.out B2.out) B3.out) B4.out) B5.out)) hsa).2 _ _ _ _ (C2.out _ (bTS (bTS B3.out B4.out) B5.out))).trans (C2.out _ (bTS (bTS B3.out B4.out) B5.out))
    have HSa : Hid (StV base wa s m (stS E ky g) (upX X g ⟨t, false, zW⟩)) := hSa
    have Hg : Hid (w.heap.size ≤ g) := Nat.le_trans (Below.size (bTS (bTS (bTS (bTS B1.out B2.out) B3.out) B4.out) B5.out)) hga
    have Hsa : Hid (Stp w (fun k => k = m) (fun k => k = m) wa) := (Stp.of _ (bTS (bTS (bTS (bTS B1.out B2.out) B3.out) B4.out) B5.out)).trans hsa
    clear hSa hga hsa HS HCh HFi HKe HOr HK
    obtain ⟨⟨p0, p1, p2, p3⟩, p4, p5, p6, p7⟩ := BxT.of HBa.out
    go_wp2_with fail
    clear p0 p1 p2 p3 p4 p5 p6 p7
    refine (HCo.out _ HCa.out).mono ?_
    rintro e wb ⟨v1, v2, v3, rfl, ho, hb⟩
    obtain ⟨x1, y1, rfl⟩ := (IsRow.own ho.1).form
    obtain ⟨x2, y2, rfl⟩ := (IsRow.own ho.2.1).form
    obtain ⟨x3, y3, rfl⟩ := (IsRow.own ho.2.2).form
    have HZb : Hid (wb.heap[w.heap.size + 1]? = some (.cells zTyA 35 (0, 0))) := (hb.block _ (Array.getElem?_eq_some_iff.1 HZa.out).1).trans HZa.out
    have hlt : w.heap.size + 1 < wa.heap.size := (Array.getElem?_eq_some_iff.1 HZa.out).1
    have HEnd : Hid (∀ u0 u1 u2 u3 u4 u5 u6 u7, R (.returned (.tuple #[tyV t (.slice x1 t.own.length y1) (.slice x2 t.all.length y2) (.slice x3 t.ch.length y3), .int .i64 0])) (st8 wb (w.heap.size + 1) u0 u1 u2 u3 u4 u5 u6 u7)) := fun u0 u1 u2 u3 u4 u5 u6 u7 => HR.out g _ _ _ _ ((HSa.out.below hb).far HZb.out (by decide) (by decide) (by decide) (by decide) fun j hj => st8_other hj u0 u1 u2 u3 u4 u5 u6 u7) Hg.out ((Hsa.out.trans (Stp.of _ hb)).st8 (Nat.le_add_right _ 1) u0 u1 u2 u3 u4 u5 u6 u7) ((((((((((ho.set hlt 0 u0).set hlt 1 u1).set hlt 2 u2).set hlt 3 u3).set hlt 4 u4).set hlt 5 u5).set hlt 6 u6).set hlt 7 u7).le (Nat.le_of_lt (Nat.lt_of_succ_lt hlt))))
    obtain ⟨⟨e0, e1, e2, e3⟩, e4, e5, e6, e7⟩ := BxT.of (t := zT) HZb.out
    have f0 : ∀ j, wb.frozen? ⟨w.heap.size + 1, j, none⟩ = false := fun j => Lib.frozen_of_heap HZb.out j
    clear ho hb HZa HBa HSa Hsa HCa HCo HR hlt
    go_wp2_with fail
    try simp only [Exit.inBlock, Exit.then]
    refine bodyPost_ret (v := .tuple #[tyV t (.slice x1 t.own.length y1) (.slice x2 t.all.length y2) (.slice x3 t.ch.length y3), .int .i64 0]) ?_ rfl (HEnd.out _ _ _ _ _ _ _ _)
    rw [results_c2 rfl]; go_simp
end Go.Proofs.YthdbnlpbidkojaaGreatDoor
/- The calls of a nil store: walks. -/
namespace Go.Proofs.YthdbnlpbidkojaaGreatDoor
open Go.RowKit Go.ChangeMaps

abbrev nilS : Value := .pointer none
abbrev zTyV : Value := .agg zTyA
/-- A kept type that is none. -/
abbrev zKpV : Value := .agg #[.string ⟨#[]⟩, .string ⟨#[]⟩, .slice none 0 0, .slice none 0 0, .slice none 0 0, .int .i64 0, .int .i64 0, .int .i64 0, .bool false, .slice none 0 0]
set_option maxRecDepth 100000 in
set_option maxHeartbeats 4000000 in
theorem putS_nil (t : Ty) (vo va vc : Value) (w : World) (hr : IsTy w t vo va vc) :
    Calls Tryz.prog 15 #[nilS, tyV t vo va vc] w fun e w' => e = .returned (.tuple #[zTyV, .int .i64 1]) ∧ Below w.heap.size w w' := by
  obtain ⟨ao, co, rfl⟩ := hr.1.form
  obtain ⟨aa, ca, rfl⟩ := hr.2.1.form
  obtain ⟨ac, cc, rfl⟩ := hr.2.2.form
  obtain ⟨W0, hW0⟩ : ∃ W0, W0 = (w.alloc (.cells (tyA t (.slice ao t.own.length co) (.slice aa t.all.length ca) (.slice ac t.ch.length cc)) 35)).alloc (.cells zTyA 35) := ⟨_, rfl⟩
  have HB : Hid (Below w.heap.size w W0) := by show Below _ _ _; rw [hW0]; exact (al_b w _).trans ((al_b _ _).mono (by simp))
  have hn2 : W0.heap[w.heap.size + 1]? = some (.cells zTyA 35 (0, 0)) := by
    rw [hW0]
    show ((w.heap.push _).push _)[w.heap.size + 1]? = _
    rw [Array.getElem?_push, if_pos (by simp)]
  obtain ⟨⟨e0, e1, e2, e3⟩, e4, e5, e6, e7⟩ := BxT.of (t := zT) hn2
  have f0 : ∀ j, W0.frozen? ⟨w.heap.size + 1, j, none⟩ = false := fun j => Lib.frozen_of_heap hn2 j
  have HEnd : Hid (∀ u0 u1 u2 u3 u4 u5 u6 u7, Below w.heap.size w (st8 W0 (w.heap.size + 1) u0 u1 u2 u3 u4 u5 u6 u7)) := fun u0 u1 u2 u3 u4 u5 u6 u7 => below8 HB.out (Nat.le_add_right _ 1) u0 u1 u2 u3 u4 u5 u6 u7
  clear hr hn2 HB
  go_enter Tryz.func15, Tryz.ntmps15
  go_upto_region 1 with fail
  rw [← hW0]
  clear hW0
  go_wp2_with fail
  try simp only [Exit.inBlock, Exit.then]
  refine bodyPost_ret (v := .tuple #[zTyV, .int .i64 1]) ?_ rfl ⟨rfl, HEnd.out _ _ _ _ _ _ _ _⟩
  rw [results_c2 rfl]; go_simp
  first | done | exact ⟨rfl, rfl, rfl, rfl, rfl⟩
end Go.Proofs.YthdbnlpbidkojaaGreatDoor
/- store's waitsAtAll: its walk. -/
namespace Go.Proofs.YthdbnlpbidkojaaGreatDoor
open Go.RowKit Go.ChangeMaps

/-- Whether it waits for somebody. -/
def anyW (f : Nat → Bool) : Bool := f 0 || f 1 || f 2 || f 3 || f 4 || f 5 || f 6 || f 7 || f 8 || f 9 || f 10 || f 11 || f 12 || f 13 || f 14 || f 15
set_option maxRecDepth 100000 in
theorem eqlW (b0 b1 b2 b3 b4 b5 b6 b7 b8 b9 b10 b11 b12 b13 b14 b15 : Bool) (w : World) : (Op.equalIn 10000 89 (.agg #[.bool b0, .bool b1, .bool b2, .bool b3, .bool b4, .bool b5, .bool b6, .bool b7, .bool b8, .bool b9, .bool b10, .bool b11, .bool b12, .bool b13, .bool b14, .bool b15]) (.agg #[.bool false, .bool false, .bool false, .bool false, .bool false, .bool false, .bool false, .bool false, .bool false, .bool false, .bool false, .bool false, .bool false, .bool false, .bool false, .bool false])).run Tryz.prog w = .ok (!(b0 || b1 || b2 || b3 || b4 || b5 || b6 || b7 || b8 || b9 || b10 || b11 || b12 || b13 || b14 || b15)) w := by
  cases b0
  rotate_left
  · kernel_rfl
  cases b1
  rotate_left
  · kernel_rfl
  cases b2
  rotate_left
  · kernel_rfl
  cases b3
  rotate_left
  · kernel_rfl
  cases b4
  rotate_left
  · kernel_rfl
  cases b5
  rotate_left
  · kernel_rfl
  cases b6
  rotate_left
  · kernel_rfl
  cases b7
  rotate_left
  · kernel_rfl
  cases b8
  rotate_left
  · kernel_rfl
  cases b9
  rotate_left
  · kernel_rfl
  cases b10
  rotate_left
  · kernel_rfl
  cases b11
  rotate_left
  · kernel_rfl
  cases b12
  rotate_left
  · kernel_rfl
  cases b13
  rotate_left
  · kernel_rfl
  cases b14
  rotate_left
  · kernel_rfl
  cases b15
  rotate_left
  · kernel_rfl
  kernel_rfl
set_option maxRecDepth 100000 in
set_option maxHeartbeats 4000000 in
theorem waitsAll_any (w : World) (g : Nat) (x : Kp) (vo va vc : Value) (hk : w.heap[g]? = some (.cells (kpA x vo va vc) 91 (0, 0))) :
    Calls Tryz.prog 54 #[.pointer (some ⟨g, 0, none⟩)] w fun e w' => e = .returned (.bool (anyW x.f)) ∧ w' = w := by
  have c0 : w.cell? ⟨g, 9, none⟩ = some (.bool (x.f 0)) := by rw [Lib.cell_of_heap hk]; rfl
  have c1 : w.cell? ⟨g, 10, none⟩ = some (.bool (x.f 1)) := by rw [Lib.cell_of_heap hk]; rfl
  have c2 : w.cell? ⟨g, 11, none⟩ = some (.bool (x.f 2)) := by rw [Lib.cell_of_heap hk]; rfl
  have c3 : w.cell? ⟨g, 12, none⟩ = some (.bool (x.f 3)) := by rw [Lib.cell_of_heap hk]; rfl
  have c4 : w.cell? ⟨g, 13, none⟩ = some (.bool (x.f 4)) := by rw [Lib.cell_of_heap hk]; rfl
  have c5 : w.cell? ⟨g, 14, none⟩ = some (.bool (x.f 5)) := by rw [Lib.cell_of_heap hk]; rfl
  have c6 : w.cell? ⟨g, 15, none⟩ = some (.bool (x.f 6)) := by rw [Lib.cell_of_heap hk]; rfl
  have c7 : w.cell? ⟨g, 16, none⟩ = some (.bool (x.f 7)) := by rw [Lib.cell_of_heap hk]; rfl
  have c8 : w.cell? ⟨g, 17, none⟩ = some (.bool (x.f 8)) := by rw [Lib.cell_of_heap hk]; rfl
  have c9 : w.cell? ⟨g, 18, none⟩ = some (.bool (x.f 9)) := by rw [Lib.cell_of_heap hk]; rfl
  have c10 : w.cell? ⟨g, 19, none⟩ = some (.bool (x.f 10)) := by rw [Lib.cell_of_heap hk]; rfl
  have c11 : w.cell? ⟨g, 20, none⟩ = some (.bool (x.f 11)) := by rw [Lib.cell_of_heap hk]; rfl
  have c12 : w.cell? ⟨g, 21, none⟩ = some (.bool (x.f 12)) := by rw [Lib.cell_of_heap hk]; rfl
  have c13 : w.cell? ⟨g, 22, none⟩ = some (.bool (x.f 13)) := by rw [Lib.cell_of_heap hk]; rfl
  have c14 : w.cell? ⟨g, 23, none⟩ = some (.bool (x.f 14)) := by rw [Lib.cell_of_heap hk]; rfl
  have c15 : w.cell? ⟨g, 24, none⟩ = some (.bool (x.f 15)) := by rw [Lib.cell_of_heap hk]; rfl
  have HA : Hid (anyW x.f = (x.f 0 || x.f 1 || x.f 2 || x.f 3 || x.f 4 || x.f 5 || x.f 6 || x.f 7 || x.f 8 || x.f 9 || x.f 10 || x.f 11 || x.f 12 || x.f 13 || x.f 14 || x.f 15)) := rfl
  generalize anyW x.f = A at *
  generalize x.f 0 = b0 at *
  generalize x.f 1 = b1 at *
  generalize x.f 2 = b2 at *
  generalize x.f 3 = b3 at *
  generalize x.f 4 = b4 at *
  generalize x.f 5 = b5 at *
  generalize x.f 6 = b6 at *
  generalize x.f 7 = b7 at *
  generalize x.f 8 = b8 at *
  generalize x.f 9 = b9 at *
  generalize x.f 10 = b10 at *
  generalize x.f 11 = b11 at *
  generalize x.f 12 = b12 at *
  generalize x.f 13 = b13 at *
  generalize x.f 14 = b14 at *
  generalize x.f 15 = b15 at *
  clear hk
  have hE := fun W => eqlW b0 b1 b2 b3 b4 b5 b6 b7 b8 b9 b10 b11 b12 b13 b14 b15 W
  go_enter Tryz.func54, Tryz.ntmps54
  go_wp2
  go_ret
  exact ⟨by rw [HA.out]; rfl, rfl⟩
end Go.Proofs.YthdbnlpbidkojaaGreatDoor
/- store's waitsFor: its walk. -/
namespace Go.Proofs.YthdbnlpbidkojaaGreatDoor
open Go.RowKit Go.ChangeMaps

theorem nodes_one {n : Int} : nodesB [n] = isN n := by
  cases h : isN n
  · refine nodesB_false fun hp => ?_
    have := hp 0 (by simp)
    simp at this
    rw [isN_of this.1 this.2] at h
    cases h
  · obtain ⟨h1, h2⟩ := isN_get h
    refine nodesB_true fun k hk => ?_
    obtain rfl : k = 0 := by simpa using hk
    exact ⟨h1, h2, fun j e => by omega⟩
theorem kp_cell {w : World} {g : Nat} {x : Kp} {vo va vc : Value} (hk : w.heap[g]? = some (.cells (kpA x vo va vc) 91 (0, 0))) {k : Nat} (h : k ≤ 15) : w.cell? ⟨g, 9 + k, none⟩ = some (.bool (x.f k)) := by
  rw [Lib.cell_of_heap hk]
  have h16 : k = 0 ∨ k = 1 ∨ k = 2 ∨ k = 3 ∨ k = 4 ∨ k = 5 ∨ k = 6 ∨ k = 7 ∨ k = 8 ∨ k = 9 ∨ k = 10 ∨ k = 11 ∨ k = 12 ∨ k = 13 ∨ k = 14 ∨ k = 15 := by omega
  rcases h16 with rfl | rfl | rfl | rfl | rfl | rfl | rfl | rfl | rfl | rfl | rfl | rfl | rfl | rfl | rfl | rfl <;> rfl
def updW (f : Nat → Bool) (k : Nat) (b : Bool) : Nat → Bool := fun i => if i = k then b else f i
theorem kp_set (t : Ty) (s : Bool) (f : Nat → Bool) (vo va vc : Value) {k : Nat} (h : k ≤ 15) (b : Bool) : (kpA ⟨t, s, f⟩ vo va vc).setIfInBounds (9 + k) (.bool b) = kpA ⟨t, s, updW f k b⟩ vo va vc := by
  have h16 : k = 0 ∨ k = 1 ∨ k = 2 ∨ k = 3 ∨ k = 4 ∨ k = 5 ∨ k = 6 ∨ k = 7 ∨ k = 8 ∨ k = 9 ∨ k = 10 ∨ k = 11 ∨ k = 12 ∨ k = 13 ∨ k = 14 ∨ k = 15 := by omega
  rcases h16 with rfl | rfl | rfl | rfl | rfl | rfl | rfl | rfl | rfl | rfl | rfl | rfl | rfl | rfl | rfl | rfl <;> rfl
set_option maxRecDepth 100000 in
set_option maxHeartbeats 4000000 in
theorem waitsFor_any (w : World) (g : Nat) (x : Kp) (vo va vc : Value) (hk : w.heap[g]? = some (.cells (kpA x vo va vc) 91 (0, 0))) (n : Int) :
    Calls Tryz.prog 55 #[.pointer (some ⟨g, 0, none⟩), .int .i64 n] w fun e w' => e = .returned (.bool (isN n && x.f n.toNat)) ∧ Below w.heap.size w w' := by
  obtain ⟨w1, hw1⟩ : ∃ w1, w1 = w.alloc (.cells #[.int .i64 n] 3) := ⟨_, rfl⟩
  have B1 : Hid (Below w.heap.size w w1) := by show Below _ _ _; rw [hw1]; exact al_b _ _
  have hn1 : w1.heap[w.heap.size]? = some (.cells #[.int .i64 n] 3 (0, 0)) := by rw [hw1]; exact new_at _ _
  have HN : Hid (Calls Tryz.prog 53 #[.slice (some ⟨w.heap.size, 0, none⟩) 1 1] w1 fun e w' => e = .returned (.bool (isN n)) ∧ w' = w1) := by
    have := nodes_any (.slice (some ⟨w.heap.size, 0, none⟩) 1 1) [n] w1 ⟨rfl, .inr ⟨_, 0, 1, rfl, (Array.getElem?_eq_some_iff.1 hn1).1, Nat.le_refl _, by decide, fun j u hu => by
      rw [Lib.cell_of_heap hn1, Nat.zero_add, List.getElem?_toArray]
      exact hu⟩⟩ (by simp)
    rw [nodes_one] at this
    exact this
  have hkb : w1.heap[g]? = some (.cells (kpA x vo va vc) 91 (0, 0)) := (B1.out.block g (Array.getElem?_eq_some_iff.1 hk).1).trans hk
  clear hk hn1
  cases hi : isN n
  · rw [hi] at HN
    clear hi hkb
    go_enter Tryz.func55, Tryz.ntmps55
    go_wp2_with fail
    rw [← hw1]
    clear hw1
    refine HN.out.mono ?_
    rintro e w' ⟨rfl, rfl⟩
    go_wp2
    go_ret
    exact ⟨rfl, B1.out⟩
  · rw [hi] at HN
    obtain ⟨i1, i2⟩ := isN_get hi
    obtain ⟨k, rfl⟩ : ∃ k : Nat, n = (k : Int) := ⟨n.toNat, by omega⟩
    have hc := kp_cell hkb (k := k) (by omega)
    have d1 : decide ((k : Int) < 0) = false := decide_eq_false (by omega)
    have d2 : decide ((k : Int) < 16) = true := decide_eq_true (by omega)
    have d3 : decide ((16 : Int) ≤ (k : Int)) = false := decide_eq_false (by omega)
    clear hi hkb
    go_enter Tryz.func55, Tryz.ntmps55
    go_wp2_with fail
    rw [← hw1]
    clear hw1
    refine HN.out.mono ?_
    rintro e w' ⟨rfl, rfl⟩
    go_wp2
    go_ret
    exact ⟨by rw [Int.toNat_natCast]; rfl, B1.out⟩
end Go.Proofs.YthdbnlpbidkojaaGreatDoor
