/- The reference's Lose, Twice, Take of any net: walks. -/
import Derived.Test.YthbhgblgacoklaaHZg
namespace Go.Proofs.Ythbhgblgacoklaa
open Go.RowKit

theorem plc_lt (L : List Pk) (f t : Int) : ∀ k, ∀ a ∈ plc L f t k, a < k
  | 0, a, h => by simp [plc] at h
  | k + 1, a, h => by
    rcases List.mem_append.1 h with h | h
    · have := plc_lt L f t k a h; omega
    · split at h
      · have : a = k := by simpa using h
        omega
      · simp at h
theorem th_ok {L : List Pk} {f t i : Int} (h : thI L f t i = 0) : ∃ n : Nat, i = (n : Int) ∧ n < (plc L f t L.length).length ∧ (plc L f t L.length)[n]? = some (atI L f t i) ∧ atI L f t i < L.length := by
  unfold thI at h
  split at h
  · split at h
    · cases h
    · rename_i h2
      obtain ⟨n, rfl⟩ : ∃ n : Nat, i = (n : Int) := ⟨i.toNat, by omega⟩
      have hn : n < (plc L f t L.length).length := by omega
      have e : (plc L f t L.length)[n]? = some (plc L f t L.length)[n] := List.getElem?_eq_getElem hn
      have e2 : atI L f t (n : Int) = (plc L f t L.length)[n] := by unfold atI; simp [e]
      exact ⟨n, rfl, hn, by rw [e2]; exact e, by rw [e2]; exact plc_lt L f t _ _ (List.getElem_mem hn)⟩
  · cases h
theorem nat_at {w : World} {a : Option Addr} {m cap : Nat} {l : List Nat} (h : IsRow w 1 (.slice a m cap) l.length (nCells l)) {n x : Nat} (hn : l[n]? = some x) :
    ∃ b off, a = some ⟨b, off, none⟩ ∧ w.cell? ⟨b, off + n, none⟩ = some (.int .i64 (x : Int)) := by
  have hl : n < l.length := (List.getElem?_eq_some_iff.1 hn).1
  obtain ⟨-, h | ⟨b, off, cap', e, hlt, hcl, hcm, hc⟩⟩ := h
  · omega
  · simp only [Value.slice.injEq] at e
    exact ⟨b, off, e.1, hc n _ (by simp [nCells, hn])⟩
abbrev hB (f t : Int) : Obj := .cells #[.int .i64 f, .int .i64 t] 40
abbrev SLs (b : Nat) (v u : Value) (f t : Int) (w0 w : World) : Prop := w.cell? ⟨b, 0, none⟩ = some v ∧ w.cell? ⟨b, 1, none⟩ = some u ∧ w.cell? ⟨b + 1, 0, none⟩ = some (.int .i64 f) ∧ w.cell? ⟨b + 1, 1, none⟩ = some (.int .i64 t) ∧ b + 1 < w.heap.size ∧ Below b w0 w
theorem SLs_call {b : Nat} {v u : Value} {f t : Int} {w0 W w' : World} (h : Below W.heap.size W w') (s : SLs b v u f t w0 W) : SLs b v u f t w0 w' := by
  obtain ⟨s1, s2, s3, s4, s5, s6⟩ := s
  have lt : b < W.heap.size := by omega
  exact ⟨(h.cell (p := ⟨b, 0, none⟩) lt).trans s1, (h.cell (p := ⟨b, 1, none⟩) lt).trans s2, (h.cell (p := ⟨b + 1, 0, none⟩) s5).trans s3, (h.cell (p := ⟨b + 1, 1, none⟩) s5).trans s4, Nat.lt_of_lt_of_le s5 h.size, s6.trans (h.mono (by omega))⟩
theorem SLs_drew {b : Nat} {v u : Value} {f t : Int} {w0 W : World} (s : SLs b v u f t w0 W) : SLs b v u f t w0 W.drew := SLs_call (below_drw W) s
theorem SLs_set {b : Nat} {v u : Value} {f t : Int} {w0 W : World} (x y : Value) (s : SLs b v u f t w0 W) : SLs b v u f t w0 ((W.setCell ⟨b + 1 + 1, 0, none⟩ x).setCell ⟨b + 1 + 1, 1, none⟩ y) := by
  obtain ⟨s1, s2, s3, s4, s5, s6⟩ := s
  have hh : ∀ (c o : Nat), c ≠ b + 1 + 1 → ((W.setCell ⟨b + 1 + 1, 0, none⟩ x).setCell ⟨b + 1 + 1, 1, none⟩ y).cell? ⟨c, o, none⟩ = W.cell? ⟨c, o, none⟩ := fun c o hc => by
    rw [World.cell?_setCell_other _ _ _ _ (fun e => hc (by injection e; simp_all)), World.cell?_setCell_other _ _ _ _ (fun e => hc (by injection e; simp_all))]
  exact ⟨(hh b 0 (by omega)).trans s1, (hh b 1 (by omega)).trans s2, (hh (b + 1) 0 (by omega)).trans s3, (hh (b + 1) 1 (by omega)).trans s4, by simpa using s5, (s6.setCell (p := ⟨b + 1 + 1, 0, none⟩) (Nat.le_add_right _ 2) x).setCell (p := ⟨b + 1 + 1, 1, none⟩) (Nat.le_add_right _ 2) y⟩
theorem IsRow.setO {w : World} {sz : Nat} {v : Value} {n : Nat} {cs : List Value} (h : IsRow w sz v n cs) {k : Nat} (hk : ∀ j, v.ownBlock = some j → j ≠ k) (o : Nat) (x : Value) : IsRow (w.setCell ⟨k, o, none⟩ x) sz v n cs := by
  obtain ⟨h0, h1 | ⟨b, off, cap, e, hlt, hcl, hcm, hc⟩⟩ := h
  · exact ⟨h0, .inl h1⟩
  · refine ⟨h0, .inr ⟨b, off, cap, e, by simpa using hlt, hcl, hcm, fun j u hu => ?_⟩⟩
    have : b ≠ k := hk b (by rw [e]; rfl)
    rw [World.cell?_setCell_other _ _ _ _ (fun e => this (by injection e; simp_all))]
    exact hc j u hu
theorem two_set {W : World} {b : Nat} {x0 x1 : Value} {t : TypeId} (h : W.heap[b]? = some (.cells #[x0, x1] t)) (x y : Value) : ((W.setCell ⟨b, 0, none⟩ x).setCell ⟨b, 1, none⟩ y).heap[b]? = some (.cells #[x, y] t) := by
  have h1 := (setCell_at W 0 h x).1
  have h2 := (setCell_at _ 1 h1 y).1
  simpa using h2
/-- The reference's boxes. -/
abbrev bx3 (w : World) (v u : Value) (f t : Int) : World := ((w.alloc (nB v u)).alloc (hB f t)).alloc nlB
theorem bx3_facts {w : World} {v u : Value} {f t : Int} : Below w.heap.size w (bx3 w v u f t) ∧ ∀ W, Below (bx3 w v u f t).heap.size (bx3 w v u f t) W → W.heap[w.heap.size]? = some (nB v u) ∧ W.heap[w.heap.size + 1]? = some (hB f t) ∧ W.heap[w.heap.size + 1 + 1]? = some nlB ∧ Below w.heap.size w W ∧ SLs w.heap.size v u f t w W := by
  have b1 : Below w.heap.size w ((w.alloc (nB v u)).alloc (hB f t)) := (al_b w _).trans ((al_b _ _).mono (al_b w _).size)
  have b2 : Below w.heap.size w (bx3 w v u f t) := b1.trans ((al_b _ _).mono b1.size)
  have k0 : (bx3 w v u f t).heap[w.heap.size]? = some (nB v u) := by
    show (((w.heap.push _).push _).push _)[w.heap.size]? = _
    rw [Array.getElem?_push, if_neg (by simp; omega), Array.getElem?_push, if_neg (by simp), Array.getElem?_push, if_pos rfl]
  have k1 : (bx3 w v u f t).heap[w.heap.size + 1]? = some (hB f t) := by
    show (((w.heap.push _).push _).push _)[w.heap.size + 1]? = _
    rw [Array.getElem?_push, if_neg (by simp), Array.getElem?_push, if_pos (by simp)]
  have k2 : (bx3 w v u f t).heap[w.heap.size + 1 + 1]? = some nlB := by
    show (((w.heap.push _).push _).push _)[w.heap.size + 1 + 1]? = _
    rw [Array.getElem?_push, if_pos (by simp)]
  refine ⟨b2, fun W h => ?_⟩
  have g0 := (h.block _ (Array.getElem?_eq_some_iff.1 k0).1).trans k0
  have g1 := (h.block _ (Array.getElem?_eq_some_iff.1 k1).1).trans k1
  have g2 := (h.block _ (Array.getElem?_eq_some_iff.1 k2).1).trans k2
  obtain ⟨c0, c1, -, -⟩ := two_at g0
  obtain ⟨d0, d1, -, -⟩ := two_at g1
  have bb := b2.trans (h.mono b2.size)
  exact ⟨g0, g1, g2, bb, c0, c1, d0, d1, (Array.getElem?_eq_some_iff.1 g1).1, bb⟩
set_option maxRecDepth 100000 in
set_option maxHeartbeats 2000000 in
theorem refLose_any (v : Value) (au : Option Addr) (nu cu : Nat) (L : List Pk) (f t i : Int) (w : World) (hr : IsRow w 7 v L.length (pCells L)) (hl : L.length ≤ 100000) :
    Calls Try.prog 29 #[.agg #[v, .slice au nu cu], hV f t, .int .i64 i] w fun e w' => SnPost (losL L f t i, thI L f t i) v (.slice au nu cu) w e w' := by
  obtain ⟨a0, cap0, rfl⟩ := hr.form
  obtain ⟨hB0, hK0⟩ := bx3_facts (w := w) (v := .slice a0 L.length cap0) (u := .slice au nu cu) (f := f) (t := t)
  have HK : Hid (∀ W, Below (bx3 w (.slice a0 L.length cap0) (.slice au nu cu) f t).heap.size (bx3 w (.slice a0 L.length cap0) (.slice au nu cu) f t) W → W.heap[w.heap.size]? = some (nB (.slice a0 L.length cap0) (.slice au nu cu)) ∧ W.heap[w.heap.size + 1]? = some (hB f t) ∧ W.heap[w.heap.size + 1 + 1]? = some nlB ∧ Below w.heap.size w W ∧ SLs w.heap.size (.slice a0 L.length cap0) (.slice au nu cu) f t w W) := hK0
  have HT : Hid (Calls Try.prog 42 #[.agg #[.slice a0 L.length cap0, .slice au nu cu], hV f t, .int .i64 i] (bx3 w (.slice a0 L.length cap0) (.slice au nu cu) f t) fun e w' => e = .returned (.int .i64 (thI L f t i)) ∧ Below (bx3 w (.slice a0 L.length cap0) (.slice au nu cu) f t).heap.size (bx3 w (.slice a0 L.length cap0) (.slice au nu cu) f t) w') := there_any _ au nu cu L f t i _ (hr.below hB0) hl
  have HPl : Hid (∀ w', Below w.heap.size w w' → Calls Try.prog 12 #[.agg #[.slice a0 L.length cap0, .slice au nu cu], hV f t] w' fun e w'' => PlPost (plc L f t L.length) w' e w'') := fun w' h => places_any _ _ L f t w' (hr.below h) hl
  have HWo : Hid (∀ (a : Nat) w', Below w.heap.size w w' → Calls Try.prog 43 #[.agg #[.slice a0 L.length cap0, .slice au nu cu], .int .i64 (a : Int)] w' fun e w'' => NtPost (flt L (fun j => !((j : Int) == (a : Int))) L.length) (.slice au nu cu) w' e w'') := fun a w' h => without_any _ au nu cu L a w' (hr.below h) hl
  have HR : Hid (∀ W, Below w.heap.size w W → IsRow W 7 (.slice a0 L.length cap0) L.length (pCells L)) := fun W h => hr.below h
  clear hB0 hK0 hr
  by_cases hth : thI L f t i = 0
  · have e1 : losL L f t i = flt L (fun j => !((j : Int) == (atI L f t i : Int))) L.length := by unfold losL; rw [if_pos hth]
    obtain ⟨n, rfl, hn, hat, hal⟩ := th_ok hth
    rw [hth] at HT
    rw [e1, hth]
    clear hth e1
    generalize atI L f t (n : Int) = a at *
    generalize plc L f t L.length = PL at *
    have HWa : Hid (∀ w', Below w.heap.size w w' → Calls Try.prog 43 #[.agg #[.slice a0 L.length cap0, .slice au nu cu], .int .i64 (a : Int)] w' fun e w'' => NtPost (flt L (fun j => !((j : Int) == (a : Int))) L.length) (.slice au nu cu) w' e w'') := HWo.out a
    clear HWo
    generalize flt L (fun j => !((j : Int) == (a : Int))) L.length = L2 at *
    have j1 : (0 : Int) ≤ (n : Int) := by omega
    have j2 : (n : Int) < (PL.length : Int) := by omega
    go_enter Try.func29, Try.ntmps29
    go_wp2_with fail
    refine HT.out.mono ?_
    rintro e w1 ⟨rfl, hb1⟩
    obtain ⟨x0, x1, x2, hB1, hS⟩ := HK.out w1 hb1
    have HK2 : Hid (∀ W, Below w1.heap.size w1 W → W.heap[w.heap.size + 1 + 1]? = some nlB) := fun W h => (h.block _ (Array.getElem?_eq_some_iff.1 x2).1).trans x2
    have hF : FrB w (.slice a0 L.length cap0) (.slice a0 L.length cap0) := .inl rfl
    clear x0 x1 x2 hB1 HT HK hb1 HR hF
    go_wp2_with fail
    refine wp_region_held_drew (S := fun w' => SLs w.heap.size (.slice a0 L.length cap0) (.slice au nu cu) f t w w') (by kernel_rfl) (SLs_drew hS) (fun hHeld => ?_)
    refine wpAnyH_take (i := 0) (v := ?_) rfl (by kernel_rfl) (by kernel_rfl) (by kernel_rfl) (fun _ _ _ h => h) (Or.inl ⟨by rfl, ?_⟩) hHeld ?_
    rotate_left 1
    · intro w9 hSw; obtain ⟨g0, g1, g2, g3, g4, g5⟩ := hSw; go_simp; try with_reducible rfl
    change wpAnyH _ _ _ _ _ _ _ (Act.put _ (some 17) _) _
    simp only [Act.put, List.setIfInBounds_toArray, List.set_cons_zero, List.set_cons_succ]
    refine wpAnyH_take (i := 1) (v := ?_) rfl (by kernel_rfl) (by kernel_rfl) (by kernel_rfl) (fun _ _ _ h => h) (Or.inl ⟨by rfl, ?_⟩) hHeld ?_
    rotate_left 1
    · intro w9 hSw; obtain ⟨g0, g1, g2, g3, g4, g5⟩ := hSw; go_simp; try with_reducible rfl
    change wpAnyH _ _ _ _ _ _ _ (Act.put _ (some 18) _) _
    simp only [Act.put, List.setIfInBounds_toArray, List.set_cons_zero, List.set_cons_succ]
    refine wpAnyH_take (i := 2) (v := ?_) rfl (by kernel_rfl) (by kernel_rfl) (by kernel_rfl) (fun _ _ _ h => h) (Or.inl ⟨by rfl, ?_⟩) hHeld ?_
    rotate_left 1
    · intro w9 hSw; obtain ⟨g0, g1, g2, g3, g4, g5⟩ := hSw; go_simp; try with_reducible rfl
    change wpAnyH _ _ _ _ _ _ _ (Act.put _ (some 19) _) _
    simp only [Act.put, List.setIfInBounds_toArray, List.set_cons_zero, List.set_cons_succ]
    refine wpAnyH_take (i := 4) (v := ?_) rfl (by kernel_rfl) (by kernel_rfl) (by kernel_rfl) (fun _ _ _ h => h) (Or.inl ⟨by rfl, ?_⟩) hHeld ?_
    rotate_left 1
    · intro w9 hSw; obtain ⟨g0, g1, g2, g3, g4, g5⟩ := hSw; go_simp; try with_reducible rfl
    change wpAnyH _ _ _ _ _ _ _ (Act.put _ (some 21) _) _
    simp only [Act.put, List.setIfInBounds_toArray, List.set_cons_zero, List.set_cons_succ]
    refine wpAnyH_ready (rs := [3]) (by kernel_rfl) (by simp) ?_
    refine AllReadyH.cons rfl (fun K hK => ?_) AllReadyH.nil
    go_simp
    refine (HPl.out _ hHeld.2.2.2.2.2).mono ?_
    rintro e w2 ⟨r, rfl, hr2, hb2⟩
    have hk2 := HK2.out w2 ((below_drw w1).trans (hb2.mono (below_drw w1).size))
    obtain ⟨ra, rc, rfl⟩ := hr2.form
    obtain ⟨rb, ro, rfl, hcell⟩ := nat_at hr2 hat
    clear hr2
    go_simp
    refine hK.out _ _ (SLs_call hb2 hHeld) (fun hHeld => ?_)
    clear hK K
    refine wpAnyH_take (i := 5) (v := ?_) rfl (by kernel_rfl) (by kernel_rfl) (by kernel_rfl) (fun _ _ _ h => h) (Or.inl ⟨by rfl, ?_⟩) hHeld ?_
    rotate_left 1
    · intro w9 hSw; obtain ⟨g0, g1, g2, g3, g4, g5⟩ := hSw; go_simp; try with_reducible rfl
    change wpAnyH _ _ _ _ _ _ _ (Act.put _ (some 22) _) _
    simp only [Act.put, List.setIfInBounds_toArray, List.set_cons_zero, List.set_cons_succ]
    refine wpAnyH_ready (rs := [6]) (by kernel_rfl) (by simp) ?_
    refine AllReadyH.cons rfl (fun K hK => ?_) AllReadyH.nil
    go_simp
    refine hK.out _ _ (hHeld) (fun hHeld => ?_)
    clear hK K
    refine wpAnyH_ready (rs := [7]) (by kernel_rfl) (by simp) ?_
    refine AllReadyH.cons rfl (fun K hK => ?_) AllReadyH.nil
    go_simp
    refine (HWa.out _ hHeld.2.2.2.2.2).mono ?_
    rintro e w3 ⟨v3, rfl, hr3, hb3, hf3⟩
    obtain ⟨va, vc, rfl⟩ := hr3.form
    have hk3 := (hb3.block _ (Array.getElem?_eq_some_iff.1 hk2).1).trans hk2
    obtain ⟨z0, z1, z2, z3⟩ := two_at hk3
    go_simp
    refine hK.out _ _ (SLs_call hb3 hHeld) (fun hHeld => ?_)
    clear hK K
    refine wpAnyH_ready (rs := [8]) (by kernel_rfl) (by simp) ?_
    refine AllReadyH.cons rfl (fun K hK => ?_) AllReadyH.nil
    go_simp
    refine hK.out _ _ (SLs_set _ _ hHeld) (fun hHeld => ?_)
    clear hK K
    refine wpAnyH_ready (rs := [9]) (by kernel_rfl) (by simp) ?_
    refine AllReadyH.cons rfl (fun K hK => ?_) AllReadyH.nil
    go_simp
    refine hK.out _ _ (hHeld) (fun hHeld => ?_)
    clear hK K
    have HBf : Hid (Below w.heap.size w ((w3.setCell ⟨w.heap.size + 1 + 1, 0, none⟩ (.slice va L2.length vc)).setCell ⟨w.heap.size + 1 + 1, 1, none⟩ (.slice au nu cu))) := hHeld.2.2.2.2.2
    refine wpAnyH_done (by kernel_rfl) ?_ _
    have hlt3 : w.heap.size + 1 + 1 < w2.heap.size := (Array.getElem?_eq_some_iff.1 hk2).1
    have HRf : Hid (IsRow ((w3.setCell ⟨w.heap.size + 1 + 1, 0, none⟩ (.slice va L2.length vc)).setCell ⟨w.heap.size + 1 + 1, 1, none⟩ (.slice au nu cu)) 7 (.slice va L2.length vc) L2.length (pCells L2)) := (hr3.setO (fun j hj => by have := hf3 j hj; omega) 0 _).setO (fun j hj => by have := hf3 j hj; omega) 1 _
    have HFf : Hid (FrR w (.slice va L2.length vc)) := fun j hj => by have := hf3 j hj; omega
    obtain ⟨y0, y1, -, -⟩ := two_at (two_set hk3 (.slice va L2.length vc) (.slice au nu cu))
    clear hHeld hlt3 hr3 hf3 hb3 hk3 hk2 z0 z1 z2 z3 hcell hb2 HK2 HPl HWa hS
    generalize (w3.setCell ⟨w.heap.size + 1 + 1, 0, none⟩ (.slice va L2.length vc)).setCell ⟨w.heap.size + 1 + 1, 1, none⟩ (.slice au nu cu) = Z at *
    go_wp2_with fail
    try simp only [Exit.inBlock, Exit.then]
    refine bodyPost_ret (v := .tuple #[.agg #[.slice va L2.length vc, .slice au nu cu], .int .i64 0]) ?_ rfl ⟨_, rfl, HRf.out, HBf.out, .inr HFf.out⟩
    rw [results_cs rfl]; go_simp
  · have e1 : losL L f t i = L := by unfold losL; rw [if_neg hth]
    rw [e1]
    have hne : (thI L f t i != 0) = true := by simpa using hth
    clear hth e1
    generalize thI L f t i = th at *
    go_enter Try.func29, Try.ntmps29
    go_wp2_with fail
    refine HT.out.mono ?_
    rintro e w1 ⟨rfl, hb1⟩
    obtain ⟨x0, x1, x2, hB1, -⟩ := HK.out w1 hb1
    obtain ⟨g0, g1, f0, f1⟩ := two_at x0
    obtain ⟨g2, g3, f2, f3⟩ := two_at x2
    have HX : Hid (∀ y z, Below w.heap.size w ((w1.setCell ⟨w.heap.size + 1 + 1, 0, none⟩ y).setCell ⟨w.heap.size + 1 + 1, 1, none⟩ z)) := fun y z => (hB1.setCell (p := ⟨w.heap.size + 1 + 1, 0, none⟩) (Nat.le_add_right _ 2) y).setCell (p := ⟨w.heap.size + 1 + 1, 1, none⟩) (Nat.le_add_right _ 2) z
    clear hb1 x0 x1 x2 HT HK hB1 HPl HWo
    go_wp2_with fail
    try simp only [Exit.inBlock, Exit.then]
    refine bodyPost_ret (v := .tuple #[.agg #[.slice a0 L.length cap0, .slice au nu cu], .int .i64 th]) ?_ rfl ⟨_, rfl, HR.out _ (HX.out _ _), HX.out _ _, .inl rfl⟩
    rw [results_cs rfl]; go_simp
end Go.Proofs.Ythbhgblgacoklaa
