/- The reference's Twice of any net: its walk. -/
import Derived.Test.YthbhgblgacoklaaHZh
namespace Go.Proofs.Ythbhgblgacoklaa
open Go.RowKit

set_option maxRecDepth 100000 in
set_option maxHeartbeats 2000000 in
theorem refTwice_any (v : Value) (au : Option Addr) (nu cu : Nat) (L : List Pk) (f t i : Int) (w : World) (hr : IsRow w 7 v L.length (pCells L)) (hl : L.length ≤ 100000) :
    Calls Try.prog 30 #[.agg #[v, .slice au nu cu], hV f t, .int .i64 i] w fun e w' => SnPost (twL L f t i) v (.slice au nu cu) w e w' := by
  obtain ⟨a0, cap0, rfl⟩ := hr.form
  obtain ⟨hB0, hK0⟩ := bx3_facts (w := w) (v := .slice a0 L.length cap0) (u := .slice au nu cu) (f := f) (t := t)
  have HK : Hid (∀ W, Below (bx3 w (.slice a0 L.length cap0) (.slice au nu cu) f t).heap.size (bx3 w (.slice a0 L.length cap0) (.slice au nu cu) f t) W → W.heap[w.heap.size]? = some (nB (.slice a0 L.length cap0) (.slice au nu cu)) ∧ W.heap[w.heap.size + 1]? = some (hB f t) ∧ W.heap[w.heap.size + 1 + 1]? = some nlB ∧ Below w.heap.size w W ∧ SLs w.heap.size (.slice a0 L.length cap0) (.slice au nu cu) f t w W) := hK0
  have HT : Hid (Calls Try.prog 42 #[.agg #[.slice a0 L.length cap0, .slice au nu cu], hV f t, .int .i64 i] (bx3 w (.slice a0 L.length cap0) (.slice au nu cu) f t) fun e w' => e = .returned (.int .i64 (thI L f t i)) ∧ Below (bx3 w (.slice a0 L.length cap0) (.slice au nu cu) f t).heap.size (bx3 w (.slice a0 L.length cap0) (.slice au nu cu) f t) w') := there_any _ au nu cu L f t i _ (hr.below hB0) hl
  have HPl : Hid (∀ w', Below w.heap.size w w' → Calls Try.prog 12 #[.agg #[.slice a0 L.length cap0, .slice au nu cu], hV f t] w' fun e w'' => PlPost (plc L f t L.length) w' e w'') := fun w' h => places_any _ _ L f t w' (hr.below h) hl
  have HR : Hid (∀ W, Below w.heap.size w W → IsRow W 7 (.slice a0 L.length cap0) L.length (pCells L)) := fun W h => hr.below h
  clear hB0 hK0
  by_cases hth : thI L f t i = 0
  · have e1 : twL L f t i = sndL L (L.getD (atI L f t i) zP) := by unfold twL; rw [if_pos hth]
    obtain ⟨n, rfl, hn, hat, hal⟩ := th_ok hth
    rw [hth] at HT
    rw [e1]
    clear hth e1
    generalize atI L f t (n : Int) = a at *
    generalize plc L f t L.length = PL at *
    obtain ⟨lb, lo, rfl, hlb, hlc, hcs⟩ := pk_at hr (by omega)
    have ex : L.getD a zP = L[a] := by rw [List.getD_eq_getElem?_getD, List.getElem?_eq_getElem hal]; rfl
    rw [ex]
    clear ex
    obtain ⟨d0, d1, d2, d3, d4, d5, d6⟩ := hcs a hal
    have HSd : Hid (∀ w', Below w.heap.size w w' → Calls Try.prog 27 #[.agg #[(.slice (some ⟨lb, lo, none⟩) L.length cap0), (.slice au nu cu)], pV L[a]] w' fun e w'' => SnPost (sndL L L[a]) (.slice (some ⟨lb, lo, none⟩) L.length cap0) (.slice au nu cu) w' e w'') := fun w' h => refSend_any _ au nu cu L L[a] w' (hr.below h) hl
    clear hcs
    generalize L[a] = P at *
    generalize sndL L P = SN at *
    obtain ⟨L2, E2⟩ := SN
    obtain ⟨P0, P1, P2, P3, P4, P5, P6⟩ := P
    dsimp only at d0 d1 d2 d3 d4 d5 d6
    have HD : Hid (∀ W, Below w.heap.size w W → W.cell? ⟨lb, lo + a * 7, none⟩ = some (.int .i64 P0) ∧ W.cell? ⟨lb, lo + a * 7 + 1, none⟩ = some (.int .i64 P1) ∧ W.cell? ⟨lb, lo + a * 7 + 2, none⟩ = some (.int .i64 P2) ∧ W.cell? ⟨lb, lo + a * 7 + 3, none⟩ = some (.int .i64 P3) ∧ W.cell? ⟨lb, lo + a * 7 + 4, none⟩ = some (.int .i64 P4) ∧ W.cell? ⟨lb, lo + a * 7 + 5, none⟩ = some (.int .i64 P5) ∧ W.cell? ⟨lb, lo + a * 7 + 6, none⟩ = some (.string P6)) := fun W h => ⟨(h.cell (p := ⟨lb, lo + a * 7, none⟩) hlb).trans d0, (h.cell (p := ⟨lb, lo + a * 7 + 1, none⟩) hlb).trans d1, (h.cell (p := ⟨lb, lo + a * 7 + 2, none⟩) hlb).trans d2, (h.cell (p := ⟨lb, lo + a * 7 + 3, none⟩) hlb).trans d3, (h.cell (p := ⟨lb, lo + a * 7 + 4, none⟩) hlb).trans d4, (h.cell (p := ⟨lb, lo + a * 7 + 5, none⟩) hlb).trans d5, (h.cell (p := ⟨lb, lo + a * 7 + 6, none⟩) hlb).trans d6⟩
    have j1 : (0 : Int) ≤ (n : Int) := by omega
    have j2 : (n : Int) < (PL.length : Int) := by omega
    have j3 : (0 : Int) ≤ (a : Int) := by omega
    have j4 : (a : Int) < (L.length : Int) := by omega
    clear d0 d1 d2 d3 d4 d5 d6 hr
    go_enter Try.func30, Try.ntmps30
    go_wp2_with fail
    refine HT.out.mono ?_
    rintro e w1 ⟨rfl, hb1⟩
    obtain ⟨x0, x1, x2, hB1, hS⟩ := HK.out w1 hb1
    have HK2 : Hid (∀ W, Below w1.heap.size w1 W → W.heap[w.heap.size + 1 + 1]? = some nlB) := fun W h => (h.block _ (Array.getElem?_eq_some_iff.1 x2).1).trans x2
    clear x0 x1 x2 hB1 HT HK hb1 HR
    go_wp2_with fail
    refine wp_region_held_drew (S := fun w' => SLs w.heap.size (.slice (some ⟨lb, lo, none⟩) L.length cap0) (.slice au nu cu) f t w w') (by kernel_rfl) (SLs_drew hS) (fun hHeld => ?_)
    refine wpAnyH_take (i := 0) (v := ?_) rfl (by kernel_rfl) (by kernel_rfl) (by kernel_rfl) (fun _ _ _ h => h) (Or.inl ⟨by rfl, ?_⟩) hHeld ?_
    rotate_left 1
    · intro w9 hSw; obtain ⟨g0, g1, g2, g3, g4, g5⟩ := hSw; go_simp; try with_reducible rfl
    change wpAnyH _ _ _ _ _ _ _ (Act.put _ (some 17) _) _
    simp only [Act.put, List.setIfInBounds_toArray, List.set_cons_zero, List.set_cons_succ]
    refine wpAnyH_take (i := 1) (v := ?_) rfl (by kernel_rfl) (by kernel_rfl) (by kernel_rfl) (fun _ _ _ h => h) (Or.inl ⟨by rfl, ?_⟩) hHeld ?_
    rotate_left 1
    · intro w9 hSw; obtain ⟨g0, g1, g2, g3, g4, g5⟩ := hSw; go_simp; try with_reducible rfl
    change wpAnyH _ _ _ _ _ _ _ (Act.put _ (some 18) _) _
    simp only [Act.put, List.setIfInBounds_toArray, List.set_cons_zero, List.set_cons_succ]
    refine wpAnyH_take (i := 2) (v := ?_) rfl (by kernel_rfl) (by kernel_rfl) (by kernel_rfl) (fun _ _ _ h => h) (Or.inl ⟨by rfl, ?_⟩) hHeld ?_
    rotate_left 1
    · intro w9 hSw; obtain ⟨g0, g1, g2, g3, g4, g5⟩ := hSw; go_simp; try with_reducible rfl
    change wpAnyH _ _ _ _ _ _ _ (Act.put _ (some 19) _) _
    simp only [Act.put, List.setIfInBounds_toArray, List.set_cons_zero, List.set_cons_succ]
    refine wpAnyH_take (i := 3) (v := ?_) rfl (by kernel_rfl) (by kernel_rfl) (by kernel_rfl) (fun _ _ _ h => h) (Or.inl ⟨by rfl, ?_⟩) hHeld ?_
    rotate_left 1
    · intro w9 hSw; obtain ⟨g0, g1, g2, g3, g4, g5⟩ := hSw; go_simp; try with_reducible rfl
    change wpAnyH _ _ _ _ _ _ _ (Act.put _ (some 20) _) _
    simp only [Act.put, List.setIfInBounds_toArray, List.set_cons_zero, List.set_cons_succ]
    refine wpAnyH_take (i := 4) (v := ?_) rfl (by kernel_rfl) (by kernel_rfl) (by kernel_rfl) (fun _ _ _ h => h) (Or.inl ⟨by rfl, ?_⟩) hHeld ?_
    rotate_left 1
    · intro w9 hSw; obtain ⟨g0, g1, g2, g3, g4, g5⟩ := hSw; go_simp; try with_reducible rfl
    change wpAnyH _ _ _ _ _ _ _ (Act.put _ (some 21) _) _
    simp only [Act.put, List.setIfInBounds_toArray, List.set_cons_zero, List.set_cons_succ]
    refine wpAnyH_take (i := 6) (v := ?_) rfl (by kernel_rfl) (by kernel_rfl) (by kernel_rfl) (fun _ _ _ h => h) (Or.inl ⟨by rfl, ?_⟩) hHeld ?_
    rotate_left 1
    · intro w9 hSw; obtain ⟨g0, g1, g2, g3, g4, g5⟩ := hSw; go_simp; try with_reducible rfl
    change wpAnyH _ _ _ _ _ _ _ (Act.put _ (some 23) _) _
    simp only [Act.put, List.setIfInBounds_toArray, List.set_cons_zero, List.set_cons_succ]
    refine wpAnyH_ready (rs := [5]) (by kernel_rfl) (by simp) ?_
    refine AllReadyH.cons rfl (fun K hK => ?_) AllReadyH.nil
    go_simp
    refine (HPl.out _ hHeld.2.2.2.2.2).mono ?_
    rintro e w2 ⟨r, rfl, hr2, hb2⟩
    have hk2 := HK2.out w2 ((below_drw w1).trans (hb2.mono (below_drw w1).size))
    obtain ⟨ra, rc, rfl⟩ := hr2.form
    obtain ⟨rb, ro, rfl, hcell⟩ := nat_at hr2 hat
    clear hr2
    go_simp
    refine hK.out _ _ (SLs_call hb2 hHeld) (fun hHeld => ?_)
    clear hK K
    refine wpAnyH_take (i := 7) (v := ?_) rfl (by kernel_rfl) (by kernel_rfl) (by kernel_rfl) (fun _ _ _ h => h) (Or.inl ⟨by rfl, ?_⟩) hHeld ?_
    rotate_left 1
    · intro w9 hSw; obtain ⟨g0, g1, g2, g3, g4, g5⟩ := hSw; go_simp; try with_reducible rfl
    change wpAnyH _ _ _ _ _ _ _ (Act.put _ (some 24) _) _
    simp only [Act.put, List.setIfInBounds_toArray, List.set_cons_zero, List.set_cons_succ]
    refine wpAnyH_ready (rs := [8]) (by kernel_rfl) (by simp) ?_
    refine AllReadyH.cons rfl (fun K hK => ?_) AllReadyH.nil
    go_simp
    refine hK.out _ _ (hHeld) (fun hHeld => ?_)
    clear hK K
    refine wpAnyH_take (i := 9) (v := ?_) rfl (by kernel_rfl) (by kernel_rfl) (by kernel_rfl) (fun _ _ _ h => h) (Or.inl ⟨by rfl, ?_⟩) hHeld ?_
    rotate_left 1
    · intro w9 hSw; obtain ⟨g0, g1, g2, g3, g4, g5⟩ := hSw; go_simp; try with_reducible rfl
    change wpAnyH _ _ _ _ _ _ _ (Act.put _ (some 26) _) _
    simp only [Act.put, List.setIfInBounds_toArray, List.set_cons_zero, List.set_cons_succ]
    obtain ⟨d0, d1, d2, d3, d4, d5, d6⟩ := HD.out w2 hHeld.2.2.2.2.2
    refine wpAnyH_ready (rs := [10]) (by kernel_rfl) (by simp) ?_
    refine AllReadyH.cons rfl (fun K hK => ?_) AllReadyH.nil
    go_simp
    refine hK.out _ _ (hHeld) (fun hHeld => ?_)
    clear hK K
    clear d0 d1 d2 d3 d4 d5 d6 HD
    refine wpAnyH_ready (rs := [11]) (by kernel_rfl) (by simp) ?_
    refine AllReadyH.cons rfl (fun K hK => ?_) AllReadyH.nil
    go_simp
    refine (HSd.out _ hHeld.2.2.2.2.2).mono ?_
    rintro e w3 ⟨v3, rfl, hr3, hb3, hf3⟩
    obtain ⟨va, vc, rfl⟩ := hr3.form
    have hk3 := (hb3.block _ (Array.getElem?_eq_some_iff.1 hk2).1).trans hk2
    obtain ⟨z0, z1, z2, z3⟩ := two_at hk3
    go_simp
    refine hK.out _ _ (SLs_call hb3 hHeld) (fun hHeld => ?_)
    clear hK K
    refine wpAnyH_take (i := 12) (v := ?_) rfl (by kernel_rfl) (by kernel_rfl) (by kernel_rfl) (fun _ _ _ h => h) (Or.inl ⟨by rfl, ?_⟩) hHeld ?_
    rotate_left 1
    · intro w9 hSw; obtain ⟨g0, g1, g2, g3, g4, g5⟩ := hSw; go_simp; try with_reducible rfl
    change wpAnyH _ _ _ _ _ _ _ (Act.put _ (some 29) _) _
    simp only [Act.put, List.setIfInBounds_toArray, List.set_cons_zero, List.set_cons_succ]
    refine wpAnyH_take (i := 13) (v := ?_) rfl (by kernel_rfl) (by kernel_rfl) (by kernel_rfl) (fun _ _ _ h => h) (Or.inl ⟨by rfl, ?_⟩) hHeld ?_
    rotate_left 1
    · intro w9 hSw; obtain ⟨g0, g1, g2, g3, g4, g5⟩ := hSw; go_simp; try with_reducible rfl
    change wpAnyH _ _ _ _ _ _ _ (Act.put _ (some 30) _) _
    simp only [Act.put, List.setIfInBounds_toArray, List.set_cons_zero, List.set_cons_succ]
    refine wpAnyH_ready (rs := [14]) (by kernel_rfl) (by simp) ?_
    refine AllReadyH.cons rfl (fun K hK => ?_) AllReadyH.nil
    go_simp
    refine hK.out _ _ (SLs_set _ _ hHeld) (fun hHeld => ?_)
    clear hK K
    refine wpAnyH_ready (rs := [15]) (by kernel_rfl) (by simp) ?_
    refine AllReadyH.cons rfl (fun K hK => ?_) AllReadyH.nil
    go_simp
    refine hK.out _ _ (hHeld) (fun hHeld => ?_)
    clear hK K
    have HBf : Hid (Below w.heap.size w ((w3.setCell ⟨w.heap.size + 1 + 1, 0, none⟩ (.slice va L2.length vc)).setCell ⟨w.heap.size + 1 + 1, 1, none⟩ (.slice au nu cu))) := hHeld.2.2.2.2.2
    refine wpAnyH_done (by kernel_rfl) ?_ _
    have hlt3 : w.heap.size + 1 + 1 < w2.heap.size := (Array.getElem?_eq_some_iff.1 hk2).1
    have hown : ∀ j, (Value.slice va L2.length vc).ownBlock = some j → j ≠ w.heap.size + 1 + 1 := fun j hj => by
      rcases hf3 with e | h
      · rw [e] at hj
        have : lb = j := by injection hj
        omega
      · have := h j hj; omega
    have HRf : Hid (IsRow ((w3.setCell ⟨w.heap.size + 1 + 1, 0, none⟩ (.slice va L2.length vc)).setCell ⟨w.heap.size + 1 + 1, 1, none⟩ (.slice au nu cu)) 7 (.slice va L2.length vc) L2.length (pCells L2)) := (hr3.setO hown 0 _).setO hown 1 _
    have HFf : Hid (FrB w (.slice va L2.length vc) (.slice (some ⟨lb, lo, none⟩) L.length cap0)) := hf3.imp id (fun h j hj => by have := h j hj; omega)
    obtain ⟨y0, y1, -, -⟩ := two_at (two_set hk3 (.slice va L2.length vc) (.slice au nu cu))
    clear hHeld hlt3 hr3 hf3 hb3 hk3 hk2 z0 z1 z2 z3 hcell hb2 HK2 HPl HSd hS hown
    generalize (w3.setCell ⟨w.heap.size + 1 + 1, 0, none⟩ (.slice va L2.length vc)).setCell ⟨w.heap.size + 1 + 1, 1, none⟩ (.slice au nu cu) = Z at *
    go_wp2_with fail
    try simp only [Exit.inBlock, Exit.then]
    refine bodyPost_ret (v := .tuple #[.agg #[.slice va L2.length vc, .slice au nu cu], .int .i64 E2]) ?_ rfl ⟨_, rfl, HRf.out, HBf.out, HFf.out⟩
    rw [results_cs rfl]; go_simp
  · have e1 : twL L f t i = (L, thI L f t i) := by unfold twL; rw [if_neg hth]
    rw [e1]
    have hne : (thI L f t i != 0) = true := by simpa using hth
    clear hth e1 hr
    generalize thI L f t i = th at *
    go_enter Try.func30, Try.ntmps30
    go_wp2_with fail
    refine HT.out.mono ?_
    rintro e w1 ⟨rfl, hb1⟩
    obtain ⟨x0, x1, x2, hB1, -⟩ := HK.out w1 hb1
    obtain ⟨g0, g1, f0, f1⟩ := two_at x0
    obtain ⟨g2, g3, f2, f3⟩ := two_at x2
    have HX : Hid (∀ y z, Below w.heap.size w ((w1.setCell ⟨w.heap.size + 1 + 1, 0, none⟩ y).setCell ⟨w.heap.size + 1 + 1, 1, none⟩ z)) := fun y z => (hB1.setCell (p := ⟨w.heap.size + 1 + 1, 0, none⟩) (Nat.le_add_right _ 2) y).setCell (p := ⟨w.heap.size + 1 + 1, 1, none⟩) (Nat.le_add_right _ 2) z
    clear hb1 x0 x1 x2 HT HK hB1 HPl
    go_wp2_with fail
    try simp only [Exit.inBlock, Exit.then]
    refine bodyPost_ret (v := .tuple #[.agg #[.slice a0 L.length cap0, .slice au nu cu], .int .i64 th]) ?_ rfl ⟨_, rfl, HR.out _ (HX.out _ _), HX.out _ _, .inl rfl⟩
    rw [results_cs rfl]; go_simp
end Go.Proofs.Ythbhgblgacoklaa
