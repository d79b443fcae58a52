/- forest.Add: its walk. -/
import Derived.Test.YticlejkeaagfjaaGreatDoorFoQ
import Derived.Test.YticlejkeaagfjaaGreatDoorFoU
namespace Go.Proofs.YticlejkeaagfjaaGreatDoor
open Go.RowKit Go.ChangeMaps

def AdP (r : List Ty × Int) (w : World) (e : Ending) (w' : World) : Prop := ∃ (sa : Option Addr) (sc : Nat) (K : List LT), e = .returned (.tuple #[.slice sa K.length sc, .int .i64 r.2]) ∧ tys K = r.1 ∧ IsTys w' (.slice sa K.length sc) K ∧ Below w.heap.size w w'
theorem AdP.err {w w' : World} (n : Int) (h : Below w.heap.size w w') : AdP ([], n) w (.returned (.tuple #[.slice none 0 0, .int .i64 n])) w' := ⟨none, 0, [], rfl, rfl, ⟨IsRow.nil _ _, fun _ hx => nomatch hx⟩, h⟩
theorem AdP.ok {L M : List LT} {x y : LT} {w W0 wd w6 w7 w9 : World} {e : Ending} {k : Nat} (hB : ∀ W, Below W0.heap.size W0 W → Below w.heap.size w W) (hd : Below W0.heap.size W0 wd) (hM : tys M = tys L) (hMI : ∀ y ∈ M, IsTy w6 y.t y.vo y.va y.vc) (h6 : Below wd.heap.size wd w6) (hy : y.t = x.t) (hyI : IsTy w7 y.t y.vo y.va y.vc) (h7 : Below w6.heap.size w6 w7) (hi : InP M k y (w7.alloc (.cells (tyA y.t y.vo y.va y.vc) 32)) e w9) :
    ∃ sa sc, e = .returned (.slice sa (M.length + 1) sc) ∧ AdP (insT (tys L) k x.t, 0) w (.returned (.tuple #[.slice sa (M.length + 1) sc, .int .i64 0])) w9 := by
  obtain ⟨c, rfl, hrow, hb9⟩ := hi
  have hal := al_b w7 (.cells (tyA y.t y.vo y.va y.vc) 32)
  have b79 : Below w7.heap.size w7 w9 := hal.trans (hb9.mono hal.size)
  have b69 : Below w6.heap.size w6 w9 := h7.trans (b79.mono h7.size)
  have bd9 : Below wd.heap.size wd w9 := h6.trans (b69.mono h6.size)
  have hlen : (insL M k y).length = M.length + 1 := by
    unfold insL
    rw [List.length_append, List.length_cons, List.length_take, List.length_drop]
    omega
  refine ⟨_, c, rfl, _, c, insL M k y, by rw [hlen], by rw [tys_insL, hM, hy], ⟨by rw [hlen]; exact hrow, fun z hz => ?_⟩, hB _ (hd.trans (bd9.mono hd.size))⟩
  have hz' : z = y ∨ z ∈ M := by
    unfold insL at hz
    rcases List.mem_append.1 hz with h | h
    · exact .inr (List.mem_of_mem_take h)
    · rcases List.mem_cons.1 h with h | h
      · exact .inl h
      · exact .inr (List.mem_of_mem_drop h)
  rcases hz' with rfl | hz'
  · exact hyI.below b79
  · exact (hMI z hz').below b69
set_option maxRecDepth 100000 in
set_option maxHeartbeats 4000000 in
theorem add_any (vl : Value) (L : List LT) (x : LT) (w : World) (hL : IsTys w vl L) (hl0 : L.length ≤ 1000000) (nL : NmL L) (mL : SmL L) (hx : IsTy w x.t x.vo x.va x.vc) (nx : NmT x.t) (mx : SmT x.t) (hW : W3 w) :
    Calls Tryz.prog 12 #[vl, ltV x] w fun e w' => AdP (addR (tys L) x.t) w e w' := by
  obtain ⟨al, cl, rfl⟩ := hL.1.form
  obtain ⟨W0, hW0⟩ : ∃ W0, W0 = w.alloc (.cells (tyA x.t x.vo x.va x.vc) 32) := ⟨_, rfl⟩
  have hA : Below w.heap.size w W0 := by rw [hW0]; exact al_b w _
  have hz : W0.heap.size = w.heap.size + 1 := by rw [hW0]; simp
  have hn0 : W0.heap[w.heap.size]? = some (.cells (tyA x.t x.vo x.va x.vc) 32 (0, 0)) := by rw [hW0]; exact new_at w _
  have HX : Hid (∀ W, Below W0.heap.size W0 W → BxT w.heap.size x.t x.vo x.va x.vc W) := fun W h => BxT.of ((h.block _ (by omega)).trans hn0)
  have HSz : Hid (∀ W, Below W0.heap.size W0 W → w.heap.size < W.heap.size) := fun W h => by have := h.size; omega
  have HBw : Hid (∀ W, Below W0.heap.size W0 W → Below w.heap.size w W) := fun W h => hA.trans (h.mono hA.size)
  have HIs : Hid (∀ W, Below W0.heap.size W0 W → Calls Tryz.prog 13 #[.slice al L.length cl] W fun e w' => e = .returned (.bool (isB (tys L))) ∧ Below W.heap.size W w') := fun W h => is_any _ L W (hL.below (HBw.out W h)) hl0 nL (hW.below (HBw.out W h))
  have HCk : Hid (∀ W, Below W0.heap.size W0 W → Calls Tryz.prog 11 #[ltV x] W fun e w' => e = .returned (.bool (chkT x.t)) ∧ Below W.heap.size W w') := fun W h => checkT_any _ _ _ _ W (hx.below (HBw.out W h)) nx (Utf8Tabs_below hW.t (HBw.out W h)) (ML_below hW.m (HBw.out W h))
  have HP1 : Hid (isB (tys L) = true → ∀ W, Below W0.heap.size W0 W → Calls Tryz.prog 41 #[.slice al L.length cl, .string x.t.n] W fun e w' => PlP L x.t.n W e w') := fun hi W h => place_any _ L x.t.n W (hL.below (HBw.out W h)).1 (by have := ((isB_iff _).1 hi).1; rw [tys_len] at this; omega) (nmN nL) nx.n (Utf8Tabs_below hW.t (HBw.out W h)) ((isB_iff _).1 hi).2.2.1
  have HPa : Hid (isB (tys L) = true → ∀ W, Below W0.heap.size W0 W → Calls Tryz.prog 47 #[.slice al L.length cl, ltV x] W fun e w' => PaP L x.t.p W e w') := fun hi W h => parentOf_any _ L x W (hL.below (HBw.out W h)).1 (by have := ((isB_iff _).1 hi).1; rw [tys_len] at this; omega) (nmN nL) nx.p (Utf8Tabs_below hW.t (HBw.out W h)) ((isB_iff _).1 hi).2.2.1
  have HBe : Hid (chkT x.t = true → ∀ (y : LT), y ∈ L → ∀ W, Below W0.heap.size W0 W → Calls Tryz.prog 48 #[ltV x, ltV y] W fun e w' => e = .returned (.bool (belB x.t y.t)) ∧ Below W.heap.size W w') := fun hk y hy W h => isBelow_any x y W (hx.below (HBw.out W h)) ((hL.2 y hy).below (HBw.out W h)) nx (nL y hy) (chk_ch hk) (hW.below (HBw.out W h))
  have HAc : Hid (isB (tys L) = true → ∀ W, Below W0.heap.size W0 W → Calls Tryz.prog 50 #[.slice al L.length cl] W fun e w' => AcP L W e w') := fun hi W h => allCopied_any _ L W (hL.below (HBw.out W h)) (by have := ((isB_iff _).1 hi).1; rw [tys_len] at this; omega) mL
  have HCp : Hid (∀ W, Below W0.heap.size W0 W → Calls Tryz.prog 51 #[ltV x] W fun e w' => CpT x.t W e w') := fun W h => copied_any _ _ _ _ W (hx.below (HBw.out W h)) mx.1 mx.2.1 mx.2.2
  have HD : Hid (addR (tys L) x.t = if (isB (tys L) && chkT x.t) = true then (if (parN (tys L) x.t.n).isSome = true then (([], 5) : List Ty × Int) else if (tys L).length = 200 then (([], 6) : List Ty × Int) else (if x.t.p.size = 0 then ((insT (tys L) (plcN (tys L) x.t.n) x.t, 0) : List Ty × Int) else (match parN (tys L) x.t.p with | none => (([], 4) : List Ty × Int) | some o => if belB x.t o = true then (insT (tys L) (plcN (tys L) x.t.n) x.t, 0) else ([], 3)))) else ([], 1)) := rfl
  have HPl : Hid (plcN (tys L) x.t.n ≤ L.length) := by have := plcN_le (tys L) x.t.n; rw [tys_len] at this; exact this
  generalize hRes : addR (tys L) x.t = R at *
  clear hRes hW hA hn0 hL nL hl0 mL hx nx mx
  have HW0 : Hid (Below W0.heap.size W0 W0) := Below.refl _ _
  go_enter Tryz.func12, Tryz.ntmps12
  go_wp2_with fail
  rw [← hW0]
  clear hW0
  refine (HIs.out _ HW0.out).mono ?_
  rintro e w1 ⟨rfl, hb⟩
  have Hw1 : Hid (Below W0.heap.size W0 w1) := hb
  clear hb
  cases hi : isB (tys L)
  · have HE : Hid (R = ([], 1)) := by show _ = _; rw [HD.out, hi, Bool.false_and, if_neg (by decide)]
    have HEnd : Hid (AdP R w (.returned (.tuple #[.slice none 0 0, .int .i64 1])) w1) := by
      rw [HE.out]
      exact AdP.err 1 (HBw.out _ Hw1.out)
    clear hi HX HSz HBw HIs HCk HP1 HPa HBe HAc HCp HD HPl HW0 HE
    go_wp2
    go_ret2
    exact HEnd.out
  obtain ⟨⟨g0, g1, g2, g3⟩, g4, g5, g6, g7⟩ := HX.out w1 Hw1.out
  have sz0 := HSz.out w1 Hw1.out
  go_wp2_with fail
  refine (HCk.out _ Hw1.out).mono ?_
  rintro e w2 ⟨rfl, hb⟩
  have Hw2 : Hid (Below W0.heap.size W0 w2) := Hw1.out.trans (hb.mono Hw1.out.size)
  clear hb
  clear g0 g1 g2 g3 g4 g5 g6 g7 sz0
  cases hk : chkT x.t
  · have HE : Hid (R = ([], 1)) := by show _ = _; rw [HD.out, hk, Bool.and_false, if_neg (by decide)]
    have HEnd : Hid (AdP R w (.returned (.tuple #[.slice none 0 0, .int .i64 1])) w2) := by
      rw [HE.out]
      exact AdP.err 1 (HBw.out _ Hw2.out)
    clear hi hk HX HSz HBw HIs HCk HP1 HPa HBe HAc HCp HD HPl HW0 HE
    go_wp2
    go_ret2
    exact HEnd.out
  have HD1 : Hid (R = if (parN (tys L) x.t.n).isSome = true then (([], 5) : List Ty × Int) else if (tys L).length = 200 then (([], 6) : List Ty × Int) else (if x.t.p.size = 0 then ((insT (tys L) (plcN (tys L) x.t.n) x.t, 0) : List Ty × Int) else (match parN (tys L) x.t.p with | none => (([], 4) : List Ty × Int) | some o => if belB x.t o = true then (insT (tys L) (plcN (tys L) x.t.n) x.t, 0) else ([], 3)))) := by
    show _ = _
    rw [HD.out, hi, hk, Bool.and_self, if_pos rfl]
  have HP1' : Hid (∀ W, Below W0.heap.size W0 W → Calls Tryz.prog 41 #[.slice al L.length cl, .string x.t.n] W fun e w' => PlP L x.t.n W e w') := HP1.out hi
  have HPa' : Hid (∀ W, Below W0.heap.size W0 W → Calls Tryz.prog 47 #[.slice al L.length cl, ltV x] W fun e w' => PaP L x.t.p W e w') := HPa.out hi
  have HBe' : Hid (∀ (y : LT), y ∈ L → ∀ W, Below W0.heap.size W0 W → Calls Tryz.prog 48 #[ltV x, ltV y] W fun e w' => e = .returned (.bool (belB x.t y.t)) ∧ Below W.heap.size W w') := HBe.out hk
  have HAc' : Hid (∀ W, Below W0.heap.size W0 W → Calls Tryz.prog 50 #[.slice al L.length cl] W fun e w' => AcP L W e w') := HAc.out hi
  have HL2 : Hid (L.length ≤ 200) := by have := ((isB_iff _).1 hi).1; rw [tys_len] at this; exact this
  clear hi hk
  obtain ⟨⟨g0, g1, g2, g3⟩, g4, g5, g6, g7⟩ := HX.out w2 Hw2.out
  have sz0 := HSz.out w2 Hw2.out
  go_wp2_with fail
  refine (HP1'.out _ Hw2.out).mono ?_
  rintro e w3 ⟨rfl, hb⟩
  have Hw3 : Hid (Below W0.heap.size W0 w3) := Hw2.out.trans (hb.mono Hw2.out.size)
  clear hb
  clear g0 g1 g2 g3 g4 g5 g6 g7 sz0
  cases hk : (parN (tys L) x.t.n).isSome
  rotate_left
  · generalize plcN (tys L) x.t.n = pl at *
    have HE : Hid (R = ([], 5)) := by show _ = _; rw [HD1.out, hk, if_pos rfl]
    have HEnd : Hid (AdP R w (.returned (.tuple #[.slice none 0 0, .int .i64 5])) w3) := by
      rw [HE.out]
      exact AdP.err 5 (HBw.out _ Hw3.out)
    clear hk HD1 HP1' HPa' HBe' HAc' HL2 HX HSz HBw HIs HCk HP1 HPa HBe HAc HCp HD HPl HW0 HE
    go_wp2
    go_ret2
    exact HEnd.out
  have HD2 : Hid (R = if (tys L).length = 200 then (([], 6) : List Ty × Int) else (if x.t.p.size = 0 then ((insT (tys L) (plcN (tys L) x.t.n) x.t, 0) : List Ty × Int) else (match parN (tys L) x.t.p with | none => (([], 4) : List Ty × Int) | some o => if belB x.t o = true then (insT (tys L) (plcN (tys L) x.t.n) x.t, 0) else ([], 3)))) := by
    show _ = _
    rw [HD1.out, hk, if_neg (by decide)]
  clear HD1 hk
  generalize plcN (tys L) x.t.n = pl at *
  by_cases h200 : L.length = 200
  · have d2 : ((L.length : Int) == 200) = true := by rw [h200]; rfl
    have HE : Hid (R = ([], 6)) := by show _ = _; rw [HD2.out, tys_len, if_pos h200]
    have HEnd : Hid (AdP R w (.returned (.tuple #[.slice none 0 0, .int .i64 6])) w3) := by
      rw [HE.out]
      exact AdP.err 6 (HBw.out _ Hw3.out)
    clear h200 HD2 HP1' HPa' HBe' HAc' HL2 HX HSz HBw HIs HCk HP1 HPa HBe HAc HCp HD HPl HW0 HE
    go_wp2
    go_ret2
    exact HEnd.out
  have d2 : ((L.length : Int) == 200) = false := by rw [beq_eq_false_iff_ne]; omega
  have HD3 : Hid (R = if x.t.p.size = 0 then ((insT (tys L) pl x.t, 0) : List Ty × Int) else (match parN (tys L) x.t.p with | none => (([], 4) : List Ty × Int) | some o => if belB x.t o = true then (insT (tys L) pl x.t, 0) else ([], 3))) := by
    show _ = _
    rw [HD2.out, tys_len, if_neg h200]
  clear HD2 h200
  have eP := str0 x.t.p
  have eP2 := str0' x.t.p
  by_cases hp0 : x.t.p.size = 0
  · have HE : Hid (R = (insT (tys L) pl x.t, 0)) := by show _ = _; rw [HD3.out, if_pos hp0]
    rw [decide_eq_true hp0] at eP eP2
    clear hp0 HD3
    obtain ⟨⟨g0, g1, g2, g3⟩, g4, g5, g6, g7⟩ := HX.out w3 Hw3.out
    have sz0 := HSz.out w3 Hw3.out
    have HR1 : Hid (Below W0.heap.size W0 w3.drew) := Hw3.out.drew
    clear HIs HCk HP1 HPa HBe HAc HP1' HPa' HBe' HD HW0
    go_wp2_with fail
    refine wp_region_held_drew (S := fun w' => ((w'.cell? ⟨w.heap.size, 0, none⟩ = some (.string x.t.n) ∧ w'.cell? ⟨w.heap.size, 1, none⟩ = some (.string x.t.p) ∧ w'.cell? ⟨w.heap.size, 2, none⟩ = some x.vo ∧ w'.cell? ⟨w.heap.size, 3, none⟩ = some x.va) ∧ w'.cell? ⟨w.heap.size, 4, none⟩ = some x.vc ∧ w'.cell? ⟨w.heap.size, 5, none⟩ = some (.int .i64 x.t.nd) ∧ w'.cell? ⟨w.heap.size, 6, none⟩ = some (.int .i64 x.t.lf) ∧ w'.cell? ⟨w.heap.size, 7, none⟩ = some (.int .i64 x.t.sq))) (by kernel_rfl) (HX.out _ HR1.out) (fun hHeld => ?_)
    generalize w3.drew = wd at *
    refine wpAnyH_take (i := 0) (v := ?_) rfl (by kernel_rfl) (by kernel_rfl) (by kernel_rfl) (fun _ _ _ h => h) (Or.inl ⟨by rfl, ?_⟩) hHeld ?_
    rotate_left 1
    · intro w9 hSw; obtain ⟨⟨g0, g1, g2, g3⟩, g4, g5, g6, g7⟩ := hSw; go_simp; try with_reducible rfl
    change wpAnyH _ _ _ _ _ _ _ (Act.put _ (some 44) _) _
    simp only [Act.put, List.setIfInBounds_toArray, List.set_cons_zero, List.set_cons_succ]
    refine wpAnyH_take (i := 2) (v := ?_) rfl (by kernel_rfl) (by kernel_rfl) (by kernel_rfl) (fun _ _ _ h => h) (Or.inl ⟨by rfl, ?_⟩) hHeld ?_
    rotate_left 1
    · intro w9 hSw; obtain ⟨⟨g0, g1, g2, g3⟩, g4, g5, g6, g7⟩ := hSw; go_simp; try with_reducible rfl
    change wpAnyH _ _ _ _ _ _ _ (Act.put _ (some 46) _) _
    simp only [Act.put, List.setIfInBounds_toArray, List.set_cons_zero, List.set_cons_succ]
    refine wpAnyH_take (i := 3) (v := ?_) rfl (by kernel_rfl) (by kernel_rfl) (by kernel_rfl) (fun _ _ _ h => h) (Or.inl ⟨by rfl, ?_⟩) hHeld ?_
    rotate_left 1
    · intro w9 hSw; obtain ⟨⟨g0, g1, g2, g3⟩, g4, g5, g6, g7⟩ := hSw; go_simp; try with_reducible rfl
    change wpAnyH _ _ _ _ _ _ _ (Act.put _ (some 47) _) _
    simp only [Act.put, List.setIfInBounds_toArray, List.set_cons_zero, List.set_cons_succ]
    refine wpAnyH_ready (rs := [1]) (by kernel_rfl) (by simp) ?_
    refine AllReadyH.cons rfl (fun K hK => ?_) AllReadyH.nil
    go_simp
    refine (HAc'.out _ HR1.out).mono ?_
    rintro e w6 ⟨M, rfl, hM1, hM2, hM3, hM4, hb6⟩
    have hB6 : Below W0.heap.size W0 w6 := HR1.out.trans (hb6.mono HR1.out.size)
    have HM2 : Hid (M.length = L.length) := hM2
    have HM1 : Hid (tys M = tys L) := hM1
    clear hM1 hM2
    go_simp
    refine hK.out _ _ (HX.out _ hB6) (fun hHeld => ?_)
    clear hK K
    refine wpAnyH_ready (rs := [4]) (by kernel_rfl) (by simp) ?_
    refine AllReadyH.cons rfl (fun K hK => ?_) AllReadyH.nil
    go_simp
    refine (HCp.out _ hB6).mono ?_
    intro e w7 hcp
    obtain ⟨y, rfl, hyt, hyI, hyN, hb7⟩ := cp_lt hcp
    have HYt : Hid (y.t = x.t) := hyt
    have hB7 : Below W0.heap.size W0 w7 := hB6.trans (hb7.mono hB6.size)
    clear hyt hcp
    go_simp
    refine hK.out _ _ (HX.out _ hB7) (fun hHeld => ?_)
    clear hK K
    have hB8 : Below W0.heap.size W0 (w7.alloc (.cells (tyA y.t y.vo y.va y.vc) 32)) := hB7.trans ((al_b _ _).mono hB7.size)
    have HIn : Hid (Calls Tryz.prog 49 #[.slice (some ⟨wd.heap.size, 0, none⟩) L.length L.length, .int .i64 (pl : Int), .slice (some ⟨w7.heap.size, 0, none⟩) 1 1] (w7.alloc (.cells (tyA y.t y.vo y.va y.vc) 32)) fun e w' => InP M pl y (w7.alloc (.cells (tyA y.t y.vo y.va y.vc) 32)) e w') := by
      have hg8 : (w7.alloc (.cells (tyA y.t y.vo y.va y.vc) 32)).heap[wd.heap.size]? = some (.cells (tCells M).toArray 32 (0, 0)) := by
        have hl6 := (Array.getElem?_eq_some_iff.1 hM3).1
        have e7 := (hb7.block _ hl6).trans hM3
        exact ((al_b w7 _).block _ (Array.getElem?_eq_some_iff.1 e7).1).trans e7
      have := insert_any wd.heap.size w7.heap.size M pl y (w7.alloc (.cells (tyA y.t y.vo y.va y.vc) 32)) hg8 (new_at w7 _) (by rw [HM2.out]; exact HPl.out) (by rw [HM2.out]; have := HL2.out; omega)
      rw [HM2.out] at this
      exact this
    have HOk : Hid (∀ e w9, InP M pl y (w7.alloc (.cells (tyA y.t y.vo y.va y.vc) 32)) e w9 → ∃ sa sc, e = .returned (.slice sa (M.length + 1) sc) ∧ AdP (insT (tys L) pl x.t, 0) w (.returned (.tuple #[.slice sa (M.length + 1) sc, .int .i64 0])) w9) := fun e w9 h => AdP.ok HBw.out HR1.out HM1.out (fun z hz => (hM4 z hz).1) hb6 HYt.out hyI hb7 h
    clear hM3 hM4 hyI hyN
    refine wpAnyH_ready (rs := [5]) (by kernel_rfl) (by simp) ?_
    refine AllReadyH.cons rfl (fun K hK => ?_) AllReadyH.nil
    go_simp
    refine hK.out _ _ (HX.out _ hB8) (fun hHeld => ?_)
    clear hK K
    refine wpAnyH_ready (rs := [6]) (by kernel_rfl) (by simp) ?_
    refine AllReadyH.cons rfl (fun K hK => ?_) AllReadyH.nil
    go_simp
    refine HIn.out.mono ?_
    intro e w9 hin
    have hB9 : Below W0.heap.size W0 w9 := by
      obtain ⟨c, -, -, hb9⟩ := hin
      exact hB8.trans (hb9.mono hB8.size)
    obtain ⟨sa, sc, rfl, hA⟩ := HOk.out e w9 hin
    have HEnd : Hid (AdP R w (.returned (.tuple #[.slice sa (M.length + 1) sc, .int .i64 0])) w9) := by
      rw [HE.out]
      exact hA
    clear hA hin HIn HOk
    go_simp
    refine hK.out _ _ (HX.out _ hB9) (fun hHeld => ?_)
    clear hK K
    refine wpAnyH_ready (rs := [7]) (by kernel_rfl) (by simp) ?_
    refine AllReadyH.cons rfl (fun K hK => ?_) AllReadyH.nil
    go_simp
    refine hK.out _ _ hHeld (fun hHeld => ?_)
    clear hK K
    refine wpAnyH_ready (rs := [8]) (by kernel_rfl) (by simp) ?_
    refine AllReadyH.cons rfl (fun K hK => ?_) AllReadyH.nil
    go_simp
    refine hK.out _ _ hHeld (fun hHeld => ?_)
    clear hK K
    refine wpAnyH_done (by kernel_rfl) ?_ _
    clear hHeld HX HSz HBw HCp HAc' HM1 HM2 HYt HE
    go_wp2
    go_ret2
    exact HEnd.out
  have HD4 : Hid (R = (match parN (tys L) x.t.p with | none => (([], 4) : List Ty × Int) | some o => if belB x.t o = true then (insT (tys L) pl x.t, 0) else ([], 3))) := by
    show _ = _
    rw [HD3.out, if_neg hp0]
  rw [decide_eq_false hp0] at eP eP2
  clear hp0 HD3
  obtain ⟨⟨g0, g1, g2, g3⟩, g4, g5, g6, g7⟩ := HX.out w3 Hw3.out
  have sz0 := HSz.out w3 Hw3.out
  go_wp2_with fail
  refine (HPa'.out _ Hw3.out).mono ?_
  rintro e w4 ⟨y, rfl, hy, hb⟩
  have Hw4 : Hid (Below W0.heap.size W0 w4) := Hw3.out.trans (hb.mono Hw3.out.size)
  clear hb
  clear g0 g1 g2 g3 g4 g5 g6 g7 sz0
  obtain ⟨W5, hW5⟩ : ∃ W5, W5 = w4.alloc (.cells (tyA y.t y.vo y.va y.vc) 32) := ⟨_, rfl⟩
  have HW5 : Hid (Below W0.heap.size W0 W5) := by
    show Below _ _ _
    rw [hW5]
    exact Hw4.out.trans ((al_b _ _).mono Hw4.out.size)
  rcases hy with ⟨hpn, rfl⟩ | ⟨hyL, hps⟩
  · have HE : Hid (R = ([], 4)) := by show _ = _; rw [HD4.out, hpn]
    rw [hpn]
    have HEnd : Hid (AdP R w (.returned (.tuple #[.slice none 0 0, .int .i64 4])) W5) := by
      rw [HE.out]
      exact AdP.err 4 (HBw.out _ HW5.out)
    rw [hW5] at HEnd
    clear HW5 hW5 hpn HD4 HP1' HPa' HBe' HAc' HL2 HE HX HSz HBw HIs HCk HP1 HPa HBe HAc HCp HD HPl HW0
    go_wp2
    go_ret2
    exact HEnd.out
  rw [hps]
  have HBy : Hid (Calls Tryz.prog 48 #[ltV x, ltV y] W5 fun e w' => e = .returned (.bool (belB x.t y.t)) ∧ Below W5.heap.size W5 w') := HBe'.out y hyL W5 HW5.out
  have HD5 : Hid (R = if belB x.t y.t = true then ((insT (tys L) pl x.t, 0) : List Ty × Int) else ([], 3)) := by show _ = _; rw [HD4.out, hps]
  clear HD4 hps hyL
  obtain ⟨⟨g0, g1, g2, g3⟩, g4, g5, g6, g7⟩ := HX.out w4 Hw4.out
  have sz0 := HSz.out w4 Hw4.out
  go_wp2_with fail
  rw [← hW5]
  clear hW5
  refine HBy.out.mono ?_
  rintro e w5 ⟨rfl, hb⟩
  have Hw5 : Hid (Below W0.heap.size W0 w5) := HW5.out.trans (hb.mono HW5.out.size)
  clear hb HBy HW5 Hw4
  clear g0 g1 g2 g3 g4 g5 g6 g7 sz0
  cases hbe : belB x.t y.t
  · have HE : Hid (R = ([], 3)) := by show _ = _; rw [HD5.out, hbe, if_neg (by decide)]
    have HEnd : Hid (AdP R w (.returned (.tuple #[.slice none 0 0, .int .i64 3])) w5) := by
      rw [HE.out]
      exact AdP.err 3 (HBw.out _ Hw5.out)
    clear hbe HD5 HP1' HPa' HBe' HAc' HL2 HX HSz HBw HIs HCk HP1 HPa HBe HAc HCp HD HPl HW0 HE
    go_wp2
    go_ret2
    exact HEnd.out
  have HE : Hid (R = (insT (tys L) pl x.t, 0)) := by show _ = _; rw [HD5.out, hbe, if_pos rfl]
  clear hbe HD5
  obtain ⟨⟨g0, g1, g2, g3⟩, g4, g5, g6, g7⟩ := HX.out w5 Hw5.out
  have sz0 := HSz.out w5 Hw5.out
  have HR1 : Hid (Below W0.heap.size W0 w5.drew) := Hw5.out.drew
  clear HIs HCk HP1 HPa HBe HAc HP1' HPa' HBe' HD HW0
  go_wp2_with fail
  refine wp_region_held_drew (S := fun w' => ((w'.cell? ⟨w.heap.size, 0, none⟩ = some (.string x.t.n) ∧ w'.cell? ⟨w.heap.size, 1, none⟩ = some (.string x.t.p) ∧ w'.cell? ⟨w.heap.size, 2, none⟩ = some x.vo ∧ w'.cell? ⟨w.heap.size, 3, none⟩ = some x.va) ∧ w'.cell? ⟨w.heap.size, 4, none⟩ = some x.vc ∧ w'.cell? ⟨w.heap.size, 5, none⟩ = some (.int .i64 x.t.nd) ∧ w'.cell? ⟨w.heap.size, 6, none⟩ = some (.int .i64 x.t.lf) ∧ w'.cell? ⟨w.heap.size, 7, none⟩ = some (.int .i64 x.t.sq))) (by kernel_rfl) (HX.out _ HR1.out) (fun hHeld => ?_)
  generalize w5.drew = wd at *
  refine wpAnyH_take (i := 0) (v := ?_) rfl (by kernel_rfl) (by kernel_rfl) (by kernel_rfl) (fun _ _ _ h => h) (Or.inl ⟨by rfl, ?_⟩) hHeld ?_
  rotate_left 1
  · intro w9 hSw; obtain ⟨⟨g0, g1, g2, g3⟩, g4, g5, g6, g7⟩ := hSw; go_simp; try with_reducible rfl
  change wpAnyH _ _ _ _ _ _ _ (Act.put _ (some 44) _) _
  simp only [Act.put, List.setIfInBounds_toArray, List.set_cons_zero, List.set_cons_succ]
  refine wpAnyH_take (i := 2) (v := ?_) rfl (by kernel_rfl) (by kernel_rfl) (by kernel_rfl) (fun _ _ _ h => h) (Or.inl ⟨by rfl, ?_⟩) hHeld ?_
  rotate_left 1
  · intro w9 hSw; obtain ⟨⟨g0, g1, g2, g3⟩, g4, g5, g6, g7⟩ := hSw; go_simp; try with_reducible rfl
  change wpAnyH _ _ _ _ _ _ _ (Act.put _ (some 46) _) _
  simp only [Act.put, List.setIfInBounds_toArray, List.set_cons_zero, List.set_cons_succ]
  refine wpAnyH_take (i := 3) (v := ?_) rfl (by kernel_rfl) (by kernel_rfl) (by kernel_rfl) (fun _ _ _ h => h) (Or.inl ⟨by rfl, ?_⟩) hHeld ?_
  rotate_left 1
  · intro w9 hSw; obtain ⟨⟨g0, g1, g2, g3⟩, g4, g5, g6, g7⟩ := hSw; go_simp; try with_reducible rfl
  change wpAnyH _ _ _ _ _ _ _ (Act.put _ (some 47) _) _
  simp only [Act.put, List.setIfInBounds_toArray, List.set_cons_zero, List.set_cons_succ]
  refine wpAnyH_ready (rs := [1]) (by kernel_rfl) (by simp) ?_
  refine AllReadyH.cons rfl (fun K hK => ?_) AllReadyH.nil
  go_simp
  refine (HAc'.out _ HR1.out).mono ?_
  rintro e w6 ⟨M, rfl, hM1, hM2, hM3, hM4, hb6⟩
  have hB6 : Below W0.heap.size W0 w6 := HR1.out.trans (hb6.mono HR1.out.size)
  have HM2 : Hid (M.length = L.length) := hM2
  have HM1 : Hid (tys M = tys L) := hM1
  clear hM1 hM2
  go_simp
  refine hK.out _ _ (HX.out _ hB6) (fun hHeld => ?_)
  clear hK K
  refine wpAnyH_ready (rs := [4]) (by kernel_rfl) (by simp) ?_
  refine AllReadyH.cons rfl (fun K hK => ?_) AllReadyH.nil
  go_simp
  refine (HCp.out _ hB6).mono ?_
  intro e w7 hcp
  obtain ⟨y, rfl, hyt, hyI, hyN, hb7⟩ := cp_lt hcp
  have HYt : Hid (y.t = x.t) := hyt
  have hB7 : Below W0.heap.size W0 w7 := hB6.trans (hb7.mono hB6.size)
  clear hyt hcp
  go_simp
  refine hK.out _ _ (HX.out _ hB7) (fun hHeld => ?_)
  clear hK K
  have hB8 : Below W0.heap.size W0 (w7.alloc (.cells (tyA y.t y.vo y.va y.vc) 32)) := hB7.trans ((al_b _ _).mono hB7.size)
  have HIn : Hid (Calls Tryz.prog 49 #[.slice (some ⟨wd.heap.size, 0, none⟩) L.length L.length, .int .i64 (pl : Int), .slice (some ⟨w7.heap.size, 0, none⟩) 1 1] (w7.alloc (.cells (tyA y.t y.vo y.va y.vc) 32)) fun e w' => InP M pl y (w7.alloc (.cells (tyA y.t y.vo y.va y.vc) 32)) e w') := by
    have hg8 : (w7.alloc (.cells (tyA y.t y.vo y.va y.vc) 32)).heap[wd.heap.size]? = some (.cells (tCells M).toArray 32 (0, 0)) := by
      have hl6 := (Array.getElem?_eq_some_iff.1 hM3).1
      have e7 := (hb7.block _ hl6).trans hM3
      exact ((al_b w7 _).block _ (Array.getElem?_eq_some_iff.1 e7).1).trans e7
    have := insert_any wd.heap.size w7.heap.size M pl y (w7.alloc (.cells (tyA y.t y.vo y.va y.vc) 32)) hg8 (new_at w7 _) (by rw [HM2.out]; exact HPl.out) (by rw [HM2.out]; have := HL2.out; omega)
    rw [HM2.out] at this
    exact this
  have HOk : Hid (∀ e w9, InP M pl y (w7.alloc (.cells (tyA y.t y.vo y.va y.vc) 32)) e w9 → ∃ sa sc, e = .returned (.slice sa (M.length + 1) sc) ∧ AdP (insT (tys L) pl x.t, 0) w (.returned (.tuple #[.slice sa (M.length + 1) sc, .int .i64 0])) w9) := fun e w9 h => AdP.ok HBw.out HR1.out HM1.out (fun z hz => (hM4 z hz).1) hb6 HYt.out hyI hb7 h
  clear hM3 hM4 hyI hyN
  refine wpAnyH_ready (rs := [5]) (by kernel_rfl) (by simp) ?_
  refine AllReadyH.cons rfl (fun K hK => ?_) AllReadyH.nil
  go_simp
  refine hK.out _ _ (HX.out _ hB8) (fun hHeld => ?_)
  clear hK K
  refine wpAnyH_ready (rs := [6]) (by kernel_rfl) (by simp) ?_
  refine AllReadyH.cons rfl (fun K hK => ?_) AllReadyH.nil
  go_simp
  refine HIn.out.mono ?_
  intro e w9 hin
  have hB9 : Below W0.heap.size W0 w9 := by
    obtain ⟨c, -, -, hb9⟩ := hin
    exact hB8.trans (hb9.mono hB8.size)
  obtain ⟨sa, sc, rfl, hA⟩ := HOk.out e w9 hin
  have HEnd : Hid (AdP R w (.returned (.tuple #[.slice sa (M.length + 1) sc, .int .i64 0])) w9) := by
    rw [HE.out]
    exact hA
  clear hA hin HIn HOk
  go_simp
  refine hK.out _ _ (HX.out _ hB9) (fun hHeld => ?_)
  clear hK K
  refine wpAnyH_ready (rs := [7]) (by kernel_rfl) (by simp) ?_
  refine AllReadyH.cons rfl (fun K hK => ?_) AllReadyH.nil
  go_simp
  refine hK.out _ _ hHeld (fun hHeld => ?_)
  clear hK K
  refine wpAnyH_ready (rs := [8]) (by kernel_rfl) (by simp) ?_
  refine AllReadyH.cons rfl (fun K hK => ?_) AllReadyH.nil
  go_simp
  refine hK.out _ _ hHeld (fun hHeld => ?_)
  clear hK K
  refine wpAnyH_done (by kernel_rfl) ?_ _
  clear hHeld HX HSz HBw HCp HAc' HM1 HM2 HYt HE
  go_wp2
  go_ret2
  exact HEnd.out
end Go.Proofs.YticlejkeaagfjaaGreatDoor
