/- The net's Twice: its walk; Take whole. -/
import Derived.Test.YthbhgblgacoklaaHJ
namespace Go.Proofs.Ythbhgblgacoklaa
open Go.RowKit

theorem take_any {base : Nat} {w : World} {g : Nat} {V : Nat → Value} {R : Nat → List Pk} {A : Nat → Bool} (f t i : Int) (hv : NetV base w g V R A) (hc : cntN R 256 ≤ 1000) :
    Calls Try.prog 19 #[nP g, hV f t, .int .i64 i] w fun e w' => NP base w g V (takeR R A f t i) A (.tuple #[pV (takeP R A f t i), .int .i64 (takeE R A f t i)]) e w' := by
  by_cases hl : lookI R f t i = 0
  · cases ha : A (rix f t) with
    | true =>
      have e1 : takeE R A f t i = 12 := by unfold takeE; rw [if_pos hl, ha]; rfl
      have e2 : takeP R A f t i = zP := by unfold takeP; rw [e1]; rfl
      have e3 : takeR R A f t i = R := by unfold takeR; rw [e1]; rfl
      rw [e1, e2, e3]
      exact take_apart f t i hv hl ha
    | false =>
      have e1 : takeE R A f t i = 0 := by unfold takeE; rw [if_pos hl, ha]; rfl
      have e2 : takeP R A f t i = (R (rix f t))[i.toNat]?.getD zP := by unfold takeP; rw [e1]; rfl
      have e3 : takeR R A f t i = up R (rix f t) (cutP (R (rix f t)) i.toNat) := by unfold takeR; rw [e1]; rfl
      rw [e1, e2, e3]
      exact take_ok f t i hv hc hl ha
  · have e1 : takeE R A f t i = lookI R f t i := by unfold takeE; rw [if_neg hl]
    have e2 : takeP R A f t i = zP := by unfold takeP; rw [e1, if_neg hl]
    have e3 : takeR R A f t i = R := by unfold takeR; rw [e1, if_neg hl]
    rw [e1, e2, e3]
    exact take_no f t i hv hl
/-- What is answered to a doubling, and the rows behind it. -/
def twiceE (R : Nat → List Pk) (f t i : Int) : Int := if lookI R f t i = 0 then (if cntN R 256 < 400 then 0 else 6) else lookI R f t i
def twiceR (R : Nat → List Pk) (f t i : Int) : Nat → List Pk := if twiceE R f t i = 0 then up R (rix f t) (R (rix f t) ++ [(R (rix f t))[i.toNat]?.getD zP]) else R
set_option maxRecDepth 100000 in
set_option maxHeartbeats 4000000 in
theorem twice_any {base : Nat} {w : World} {g : Nat} {V : Nat → Value} {R : Nat → List Pk} {A : Nat → Bool} (f t i : Int) (hv : NetV base w g V R A) (hc : cntN R 256 ≤ 1000) :
    Calls Try.prog 20 #[nP g, hV f t, .int .i64 i] w fun e w' => NP base w g V (twiceR R f t i) A (.int .i64 (twiceE R f t i)) e w' := by
  by_cases hl : lookI R f t i = 0
  rotate_left
  · have e1 : twiceE R f t i = lookI R f t i := by unfold twiceE; rw [if_neg hl]
    have e3 : twiceR R f t i = R := by unfold twiceR; rw [e1, if_neg hl]
    rw [e1, e3]
    have hB1 : Below w.heap.size w (w.alloc (.cells #[.int .i64 f, .int .i64 t] 33)) := al_b w _
    have HB : Hid (Below w.heap.size w (w.alloc (.cells #[.int .i64 f, .int .i64 t] 33))) := hB1
    have HL : Hid (Calls Try.prog 38 #[nP g, hV f t, .int .i64 i] (w.alloc (.cells #[.int .i64 f, .int .i64 t] 33)) fun e w' => e = .returned (.int .i64 (lookI R f t i)) ∧ Below (w.alloc (.cells #[.int .i64 f, .int .i64 t] 33)).heap.size (w.alloc (.cells #[.int .i64 f, .int .i64 t] 33)) w') := look_any f t i (hv.below hB1)
    have dn : (lookI R f t i != 0) = true := by rw [bne_iff_ne]; exact hl
    have HE : Hid (∀ w', Below w.heap.size w w' → NetV base w' g V R A ∧ NStep w g V V w') := fun w' hb => ⟨hv.below hb, NStep.of g V hb⟩
    clear hv hc hl hB1 e1 e3
    generalize lookI R f t i = E at *
    go_enter Try.func20, Try.ntmps20
    go_wp2_with fail
    refine HL.out.mono ?_
    rintro e w1 ⟨rfl, hb⟩
    have HB1 : Hid (Below w.heap.size w w1) := HB.out.trans (hb.mono HB.out.size)
    clear hb
    go_wp2
    go_ret
    exact ⟨rfl, V, HE.out w1 HB1.out⟩
  obtain ⟨hh, k, rfl, hk⟩ := look_ok hl
  have HX : Hid ((R (rix f t))[(k : Int).toNat]?.getD zP = (R (rix f t))[k]) := by show _ = _; rw [Int.toNat_natCast, List.getElem?_eq_getElem hk]; rfl
  obtain ⟨p, HPk⟩ : ∃ p, Hid ((R (rix f t))[k]'hk = p) := ⟨_, rfl⟩
  have HA : Hid (∀ w', Below w.heap.size w w' → Calls Try.prog 37 #[nP g, hV f t, pV p] w' fun e w'' => NP base w' g V (twiceR R f t k) A (.int .i64 (twiceE R f t k)) e w'') := fun w' hb => by
    by_cases hf : cntN R 256 < 400
    · have e1 : twiceE R f t k = 0 := by unfold twiceE; rw [if_pos hl, if_pos hf]
      have e0 : twiceR R f t k = up R (rix f t) (R (rix f t) ++ [p]) := by unfold twiceR; rw [e1, if_pos rfl, HX.out, HPk.out]
      rw [e0, e1]
      exact add_any f t _ (hv.below hb) hc hh hf
    · have e1 : twiceE R f t k = 6 := by unfold twiceE; rw [if_pos hl, if_neg hf]
      have e0 : twiceR R f t k = R := by unfold twiceR; rw [e1]; rfl
      rw [e0, e1]
      exact add_full f t _ (hv.below hb) hc (by omega)
  generalize twiceR R f t k = R' at *
  generalize twiceE R f t k = E' at *
  obtain ⟨a, b, rfl, rfl, h1, h2, h3, h4, h5⟩ := hop_nat hh
  rw [rix_nat] at *
  have hB1 : Below w.heap.size w (w.alloc (.cells #[.int .i64 a, .int .i64 b] 33)) := al_b w _
  have HB : Hid (Below w.heap.size w (w.alloc (.cells #[.int .i64 a, .int .i64 b] 33))) := hB1
  have HL : Hid (Calls Try.prog 38 #[nP g, hV a b, .int .i64 (k : Int)] (w.alloc (.cells #[.int .i64 a, .int .i64 b] 33)) fun e w' => e = .returned (.int .i64 0) ∧ Below (w.alloc (.cells #[.int .i64 a, .int .i64 b] 33)).heap.size (w.alloc (.cells #[.int .i64 a, .int .i64 b] 33)) w') := by
    have := look_any a b k (hv.below hB1)
    rw [hl] at this
    exact this
  have HZ : Hid (∀ w', Below (w.alloc (.cells #[.int .i64 a, .int .i64 b] 33)).heap.size (w.alloc (.cells #[.int .i64 a, .int .i64 b] 33)) w' → w'.heap[w.heap.size]? = some (.cells #[.int .i64 a, .int .i64 b] 33 (0, 0))) := fun w' h => (h.block _ (by simp)).trans (heap_alloc_new w _)
  have HNF : Hid (∀ k, w.heap.size ≤ k → ¬ Fp g V k) := fun k hk hf => by have := (hv.lt hf).2; omega
  have q1 : (0 : Int) ≤ (a : Int) := by omega
  have q2 : (a : Int) < 16 := by omega
  have q3 : (0 : Int) ≤ (b : Int) := by omega
  have q4 : (b : Int) < 16 := by omega
  have q5 : (0 : Int) ≤ (k : Int) := by omega
  have q6 : (k : Int) < ((R (a * 16 + b)).length : Int) := by omega
  have HOw : Hid (∀ w', Below w.heap.size w w' → OwnW w' base (V (a * 16 + b)) (R (a * 16 + b))) := fun w' hb => (hv.below hb).own (a * 16 + b) (by omega)
  have HgC : Hid (∀ w', Below w.heap.size w w' → w'.cell? ⟨g, a * 16 + b, none⟩ = some (V (a * 16 + b))) := fun w' hb => ((hv.below hb).cell (a * 16 + b) (by omega)).1
  clear hB1 hv hl hh hc HX
  generalize hVl : V (a * 16 + b) = vl at *
  generalize hRl : R (a * 16 + b) = l at *
  go_enter Try.func20, Try.ntmps20
  go_wp2_with fail
  refine HL.out.mono ?_
  rintro e w1 ⟨rfl, hb⟩
  have hz := HZ.out w1 hb
  have HB1 : Hid (Below w.heap.size w w1) := HB.out.trans (hb.mono HB.out.size)
  have cg := HgC.out w1 HB1.out
  obtain ⟨rb, cap, rfl, hrb, p0, p1, p2, p3, p4, p5, p6⟩ := p_at (HOw.out w1 HB1.out) k hk
  have HP : Hid (l[k]'hk = p) := by subst hRl; exact HPk.out
  have HAr : Hid (Calls Try.prog 37 #[nP g, hV a b, pV p] w1.drew fun e w'' => NP base w1.drew g V R' A (.int .i64 E') e w'') := HA.out w1.drew HB1.out.drew
  rw [HP.out] at p0 p1 p2 p3 p4 p5 p6
  clear HA HP HPk
  obtain ⟨pf, pt, pfl, ptl, psq, pak, px⟩ := p
  dsimp only at p0 p1 p2 p3 p4 p5 p6
  have x0 : w1.cell? ⟨w.heap.size, 0, none⟩ = some (.int .i64 a) := by rw [Lib.cell_of_heap hz]; rfl
  have x1 : w1.cell? ⟨w.heap.size, 1, none⟩ = some (.int .i64 b) := by rw [Lib.cell_of_heap hz]; rfl
  clear hb HL
  go_wp2_with fail
  refine wp_region_held_drew (S := fun w' => w'.cell? ⟨w.heap.size, 0, none⟩ = some (.int .i64 a) ∧ w'.cell? ⟨w.heap.size, 1, none⟩ = some (.int .i64 b)) (by kernel_rfl) ⟨x0, x1⟩ (fun hHeld => ?_)
  refine wpAnyH_take (i := 0) (v := ?_) rfl (by kernel_rfl) (by kernel_rfl) (by kernel_rfl) (fun _ _ _ h => h) (Or.inl ⟨by rfl, ?_⟩) hHeld ?_
  rotate_left 1
  · intro w' hSw; (try dsimp only at hSw); go_simp; try with_reducible rfl
  change wpAnyH _ _ _ _ _ _ _ (Act.put _ (some 15) _) _
  simp only [Act.put, List.setIfInBounds_toArray, List.set_cons_zero, List.set_cons_succ]
  refine wpAnyH_take (i := 1) (v := ?_) rfl (by kernel_rfl) (by kernel_rfl) (by kernel_rfl) (fun _ _ _ h => h) (Or.inl ⟨by rfl, ?_⟩) hHeld ?_
  rotate_left 1
  · intro w' hSw; (try dsimp only at hSw); go_simp; try with_reducible rfl
  change wpAnyH _ _ _ _ _ _ _ (Act.put _ (some 16) _) _
  simp only [Act.put, List.setIfInBounds_toArray, List.set_cons_zero, List.set_cons_succ]
  refine wpAnyH_take (i := 2) (v := ?_) rfl (by kernel_rfl) (by kernel_rfl) (by kernel_rfl) (fun _ _ _ h => h) (Or.inl ⟨by rfl, ?_⟩) hHeld ?_
  rotate_left 1
  · intro w' hSw; (try dsimp only at hSw); go_simp; try with_reducible rfl
  change wpAnyH _ _ _ _ _ _ _ (Act.put _ (some 17) _) _
  simp only [Act.put, List.setIfInBounds_toArray, List.set_cons_zero, List.set_cons_succ]
  refine wpAnyH_take (i := 3) (v := ?_) rfl (by kernel_rfl) (by kernel_rfl) (by kernel_rfl) (fun _ _ _ h => h) (Or.inl ⟨by rfl, ?_⟩) hHeld ?_
  rotate_left 1
  · intro w' hSw; (try dsimp only at hSw); go_simp; try with_reducible rfl
  change wpAnyH _ _ _ _ _ _ _ (Act.put _ (some 18) _) _
  simp only [Act.put, List.setIfInBounds_toArray, List.set_cons_zero, List.set_cons_succ]
  refine wpAnyH_take (i := 4) (v := ?_) rfl (by kernel_rfl) (by kernel_rfl) (by kernel_rfl) (fun _ _ _ h => h) (Or.inl ⟨by rfl, ?_⟩) hHeld ?_
  rotate_left 1
  · intro w' hSw; (try dsimp only at hSw); go_simp; try with_reducible rfl
  change wpAnyH _ _ _ _ _ _ _ (Act.put _ (some 19) _) _
  simp only [Act.put, List.setIfInBounds_toArray, List.set_cons_zero, List.set_cons_succ]
  refine wpAnyH_take (i := 5) (v := ?_) rfl (by kernel_rfl) (by kernel_rfl) (by kernel_rfl) (fun _ _ _ h => h) (Or.inl ⟨by rfl, ?_⟩) hHeld ?_
  rotate_left 1
  · intro w' hSw; (try dsimp only at hSw); go_simp; try with_reducible rfl
  change wpAnyH _ _ _ _ _ _ _ (Act.put _ (some 20) _) _
  simp only [Act.put, List.setIfInBounds_toArray, List.set_cons_zero, List.set_cons_succ]
  refine wpAnyH_take (i := 6) (v := ?_) rfl (by kernel_rfl) (by kernel_rfl) (by kernel_rfl) (fun _ _ _ h => h) (Or.inl ⟨by rfl, ?_⟩) hHeld ?_
  rotate_left 1
  · intro w' hSw; (try dsimp only at hSw); go_simp; try with_reducible rfl
  change wpAnyH _ _ _ _ _ _ _ (Act.put _ (some 21) _) _
  simp only [Act.put, List.setIfInBounds_toArray, List.set_cons_zero, List.set_cons_succ]
  refine wpAnyH_take (i := 7) (v := ?_) rfl (by kernel_rfl) (by kernel_rfl) (by kernel_rfl) (fun _ _ _ h => h) (Or.inl ⟨by rfl, ?_⟩) hHeld ?_
  rotate_left 1
  · intro w' hSw; (try dsimp only at hSw); go_simp; try with_reducible rfl
  change wpAnyH _ _ _ _ _ _ _ (Act.put _ (some 22) _) _
  simp only [Act.put, List.setIfInBounds_toArray, List.set_cons_zero, List.set_cons_succ]
  refine wpAnyH_take (i := 8) (v := ?_) rfl (by kernel_rfl) (by kernel_rfl) (by kernel_rfl) (fun _ _ _ h => h) (Or.inl ⟨by rfl, ?_⟩) hHeld ?_
  rotate_left 1
  · intro w' hSw; (try dsimp only at hSw); go_simp; try with_reducible rfl
  change wpAnyH _ _ _ _ _ _ _ (Act.put _ (some 23) _) _
  simp only [Act.put, List.setIfInBounds_toArray, List.set_cons_zero, List.set_cons_succ]
  refine wpAnyH_take (i := 9) (v := ?_) rfl (by kernel_rfl) (by kernel_rfl) (by kernel_rfl) (fun _ _ _ h => h) (Or.inl ⟨by rfl, ?_⟩) hHeld ?_
  rotate_left 1
  · intro w' hSw; (try dsimp only at hSw); go_simp; try with_reducible rfl
  change wpAnyH _ _ _ _ _ _ _ (Act.put _ (some 24) _) _
  simp only [Act.put, List.setIfInBounds_toArray, List.set_cons_zero, List.set_cons_succ]
  refine wpAnyH_take (i := 10) (v := ?_) rfl (by kernel_rfl) (by kernel_rfl) (by kernel_rfl) (fun _ _ _ h => h) (Or.inl ⟨by rfl, ?_⟩) hHeld ?_
  rotate_left 1
  · intro w' hSw; (try dsimp only at hSw); go_simp; try with_reducible rfl
  change wpAnyH _ _ _ _ _ _ _ (Act.put _ (some 25) _) _
  simp only [Act.put, List.setIfInBounds_toArray, List.set_cons_zero, List.set_cons_succ]
  refine wpAnyH_take (i := 12) (v := ?_) rfl (by kernel_rfl) (by kernel_rfl) (by kernel_rfl) (fun _ _ _ h => h) (Or.inl ⟨by rfl, ?_⟩) hHeld ?_
  rotate_left 1
  · intro w' hSw; (try dsimp only at hSw); go_simp; try with_reducible rfl
  change wpAnyH _ _ _ _ _ _ _ (Act.put _ (some 27) _) _
  simp only [Act.put, List.setIfInBounds_toArray, List.set_cons_zero, List.set_cons_succ]
  refine wpAnyH_ready (rs := [11]) (by kernel_rfl) (by simp) ?_
  refine AllReadyH.cons rfl (fun K hK => ?_) AllReadyH.nil
  go_simp
  refine hK.out _ _ hHeld (fun hHeld => ?_)
  clear hK K
  refine wpAnyH_take (i := 13) (v := ?_) rfl (by kernel_rfl) (by kernel_rfl) (by kernel_rfl) (fun _ _ _ h => h) (Or.inl ⟨by rfl, ?_⟩) hHeld ?_
  rotate_left 1
  · intro w' hSw; (try dsimp only at hSw); go_simp; try with_reducible rfl
  change wpAnyH _ _ _ _ _ _ _ (Act.put _ (some 28) _) _
  simp only [Act.put, List.setIfInBounds_toArray, List.set_cons_zero, List.set_cons_succ]
  refine wpAnyH_ready (rs := [14]) (by kernel_rfl) (by simp) ?_
  refine AllReadyH.cons rfl (fun K hK => ?_) AllReadyH.nil
  go_simp
  refine hK.out _ _ hHeld (fun hHeld => ?_)
  clear hK K
  refine wpAnyH_ready (rs := [15]) (by kernel_rfl) (by simp) ?_
  refine AllReadyH.cons rfl (fun K hK => ?_) AllReadyH.nil
  go_simp
  refine HAr.out.mono ?_
  rintro e w2 ⟨rfl, V', hv2, hs2⟩
  have hb := (hs2.far (k := w.heap.size) (Array.getElem?_eq_some_iff.1 hz).1 (HNF.out _ (Nat.le_refl _))).1.trans hz
  have HH : Hid (∃ V', NetV base w2 g V' R' A ∧ NStep w g V V' w2) := ⟨V', hv2, (NStep.of g V HB1.out.drew).trans hs2⟩
  have e0 : w2.cell? ⟨w.heap.size, 0, none⟩ = some (.int .i64 a) := by rw [Lib.cell_of_heap hb]; rfl
  have e1 : w2.cell? ⟨w.heap.size, 1, none⟩ = some (.int .i64 b) := by rw [Lib.cell_of_heap hb]; rfl
  dsimp only
  refine hK.out _ _ ⟨e0, e1⟩ (fun hHeld => ?_)
  clear hK K hb hv2 hs2
  refine wpAnyH_take (i := 16) (v := ?_) rfl (by kernel_rfl) (by kernel_rfl) (by kernel_rfl) (fun _ _ _ h => h) (Or.inl ⟨by rfl, ?_⟩) hHeld ?_
  rotate_left 1
  · intro w' hSw; (try dsimp only at hSw); go_simp; try with_reducible rfl
  change wpAnyH _ _ _ _ _ _ _ (Act.put _ (some 6) _) _
  simp only [Act.put, List.setIfInBounds_toArray, List.set_cons_zero, List.set_cons_succ]
  refine wpAnyH_done (by kernel_rfl) ?_ _
  go_wp2
  go_ret
  exact ⟨rfl, HH.out⟩
end Go.Proofs.Ythbhgblgacoklaa
