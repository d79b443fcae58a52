/- law17's do where the act is of the kind 1: its walk. -/
import Derived.Test.YtlndgepoekllkaaGreatDoorZk37
import Derived.Test.YtlndgepoekllkaaGreatDoorZk29
namespace Go.Proofs.YtlndgepoekllkaaGreatDoor
open Go.RowKit Go.ChangeMaps

theorem heap_setD {w : World} {g : Nat} {C : Array Value} {ty : TypeId} {z : Nat × Nat} (h : w.heap[g]? = some (.cells C ty z)) (j : Nat) (v : Value) : (w.setCell ⟨g, j, none⟩ v).heap[g]? = some (.cells (C.setIfInBounds j v) ty z) := by
  show (w.heap.modify g _)[g]? = _
  rw [Array.getElem?_modify, if_pos rfl, h]
  rfl
set_option maxRecDepth 100000 in
set_option maxHeartbeats 8000000 in
theorem do_1 {w0 w : World} {s m : Nat} {E : List (ByteArray × Nat)} {X : Nat → Kp} {v : Value} {M : List KR} (h : RS w0 w s m E X v M) (x : Ac) (ho : OkAc w0 x) (_ : x.n.size ≤ 200) (_ : x.l.length ≤ 20) (hk : oneB x.z.t = true) (hT : ∀ W, Below w0.heap.size w0 W → UT W ∧ ML W) (hkd : x.kd = 1) :
    Calls Tryz.prog 7 #[stP s, .agg #[v], acV x] w fun e w' => DoQ w0 w s m E e w' := by
  obtain ⟨a0, c0, rfl⟩ := h.ks.get.1.form
  obtain ⟨w1, hw1⟩ : ∃ w1, w1 = w.alloc (.cells #[.slice a0 M.length c0] 27) := ⟨_, rfl⟩
  have B1 : Hid (Below w.heap.size w w1) := by show Below _ _ _; rw [hw1]; exact al_b _ _
  have hn1 : w1.heap[w.heap.size]? = some (.cells #[.slice a0 M.length c0] 27 (0, 0)) := by rw [hw1]; exact new_at _ _
  have C1 : Hid (∀ W, Below w1.heap.size w1 W → W.heap[w.heap.size]? = some (.cells #[.slice a0 M.length c0] 27 (0, 0))) := fun W h => (h.block _ (Array.getElem?_eq_some_iff.1 hn1).1).trans hn1
  clear hn1
  obtain ⟨w2, hw2⟩ : ∃ w2, w2 = w1.alloc (.cells (acA x) 38) := ⟨_, rfl⟩
  have B2 : Hid (Below w1.heap.size w1 w2) := by show Below _ _ _; rw [hw2]; exact al_b _ _
  have hn2 : w2.heap[(w.heap.size + 1)]? = some (.cells (acA x) 38 (0, 0)) := by rw [hw2]; rw [show w.heap.size + 1 = w1.heap.size by (rw [hw1]; simp)]; exact new_at _ _
  have C2 : Hid (∀ W, Below w2.heap.size w2 W → W.heap[(w.heap.size + 1)]? = some (.cells (acA x) 38 (0, 0))) := fun W h => (h.block _ (Array.getElem?_eq_some_iff.1 hn2).1).trans hn2
  clear hn2
  obtain ⟨w3, hw3⟩ : ∃ w3, w3 = w2.alloc (.cells #[.slice none 0 0] 27) := ⟨_, rfl⟩
  have B3 : Hid (Below w2.heap.size w2 w3) := by show Below _ _ _; rw [hw3]; exact al_b _ _
  have hn3 : w3.heap[(w.heap.size + 2)]? = some (.cells #[.slice none 0 0] 27 (0, 0)) := by rw [hw3]; rw [show w.heap.size + 2 = w2.heap.size by (rw [hw2, hw1]; simp)]; exact new_at _ _
  have C3 : Hid (∀ W, Below w3.heap.size w3 W → W.heap[(w.heap.size + 2)]? = some (.cells #[.slice none 0 0] 27 (0, 0))) := fun W h => (h.block _ (Array.getElem?_eq_some_iff.1 hn3).1).trans hn3
  clear hn3
  have hz3 : w3.heap.size = w.heap.size + 3 := by rw [hw3, hw2, hw1]; simp
  have hSF : ∀ k, SF m E k → w0.heap.size ≤ k ∧ k < w.heap.size := fun k hk => h.st.sf hk
  have hsz0 := h.bel.size
  have HBw : Hid (Below w.heap.size w w3) := B1.out.trans ((B2.out.trans (B3.out.mono B2.out.size)).mono B1.out.size)
  have HZ : Hid (w3.heap.size = w.heap.size + 3 ∧ w0.heap.size ≤ w.heap.size) := ⟨hz3, hsz0⟩
  have HF : Hid ((∀ k, (SF m E k ∨ k = w.heap.size + 2) → k < w3.heap.size) ∧ ∀ k, (SF m E k ∨ k = w.heap.size + 2) → w0.heap.size ≤ k) := ⟨fun k hk => by
    rcases hk with hk | rfl
    · have := (hSF k hk).2; omega
    · omega, fun k hk => by
    rcases hk with hk | rfl
    · exact (hSF k hk).1
    · omega⟩
  have HK : Hid (Pst (fun k => SF m E k ∨ k = w.heap.size + 2) w3 fun W => IsKs W (.slice a0 M.length c0) M) := h.ks.more HBw.out fun k hk => by
    rcases hk with hk | rfl
    · exact .inl hk
    · exact .inr (by omega)
  have HR : Hid (RS w0 w3 s m E X (.slice a0 M.length c0) M) := h.below HBw.out
  have HCA : Hid (Pst (SF m E) w3 fun W => W.cell? ⟨w.heap.size, 0, none⟩ = some (.slice a0 M.length c0) ∧ W.cell? ⟨w.heap.size + 1, 0, none⟩ = some (.int .i64 1) ∧ W.cell? ⟨w.heap.size + 1, 1, none⟩ = some (.string x.z.t.n) ∧ W.cell? ⟨w.heap.size + 1, 2, none⟩ = some (.string x.z.t.p) ∧ W.cell? ⟨w.heap.size + 1, 3, none⟩ = some (x.z.vo) ∧ W.cell? ⟨w.heap.size + 1, 4, none⟩ = some (x.z.va) ∧ W.cell? ⟨w.heap.size + 1, 5, none⟩ = some (x.z.vc) ∧ W.cell? ⟨w.heap.size + 1, 6, none⟩ = some (.int .i64 x.z.t.nd) ∧ W.cell? ⟨w.heap.size + 1, 7, none⟩ = some (.int .i64 x.z.t.lf) ∧ W.cell? ⟨w.heap.size + 1, 8, none⟩ = some (.int .i64 x.z.t.sq) ∧ W.cell? ⟨w.heap.size + 1, 9, none⟩ = some (.string x.n) ∧ W.cell? ⟨w.heap.size + 1, 10, none⟩ = some (.slice x.lp x.l.length x.lc) ∧ W.cell? ⟨w.heap.size + 1, 11, none⟩ = some (.int .i64 x.a) ∧ W.cell? ⟨w.heap.size + 1, 12, none⟩ = some (.int .i64 x.b) ∧ W.cell? ⟨w.heap.size + 1, 13, none⟩ = some (.int .i64 x.c) ∧ W.cell? ⟨w.heap.size + 1, 14, none⟩ = some (.int .i64 x.i) ∧ W.cell? ⟨w.heap.size + 2, 0, none⟩ = some (.slice none 0 0) ∧ (∀ j, W.frozen? ⟨w.heap.size + 2, j, none⟩ = false) ∧ W.heap[w.heap.size + 2]? = some (.cells #[.slice none 0 0] 27 (0, 0))) := fun W hW => by
    have h1 := pst_blk (F := SF m E) (C1.out w3 (B2.out.trans (B3.out.mono B2.out.size))) (fun e => by have := (hSF _ e).2; omega) W hW
    have h2 := pst_blk (F := SF m E) (C2.out w3 B3.out) (fun e => by have := (hSF _ e).2; omega) W hW
    have h3 := pst_blk (F := SF m E) (C3.out w3 (Below.refl _ _)) (fun e => by have := (hSF _ e).2; omega) W hW
    have c : ∀ j, W.cell? ⟨w.heap.size + 1, j, none⟩ = (acA x)[j]? := fun j => by rw [Lib.cell_of_heap h2]
    exact ⟨by rw [Lib.cell_of_heap h1]; rfl, (by rw [← hkd]; exact c 0), c 1, c 2, c 3, c 4, c 5, c 6, c 7, c 8, c 9, c 10, c 11, c 12, c 13, c 14, by rw [Lib.cell_of_heap h3]; rfl, fun j => Lib.frozen_of_heap h3 j, h3⟩
  have Hkd : Hid (x.kd = x.kd) := rfl
  clear hSF hsz0 hz3 C1 C2 C3 B1 B2 B3 Hkd
  go_enter Tryz.func7, Tryz.ntmps7
  go_upto_region 1 with fail
  rw [← hw1, ← hw2, ← hw3]
  clear hw1 hw2 hw3
  generalize hwq : w3 = wq at *
  clear hwq
  obtain ⟨cb, t0_, t1_, t2_, t3_, t4_, t5_, t6_, t7_, t8_, t9_, t10_, t11_, t12_, t13_, t14_, cr, fz, -⟩ := HCA.out wq (Stp.rfl' _ _)
  obtain ⟨Q, z, hp⟩ := set_pair HR.out x.z ho.1.1 hk hT
  have HP2 : Hid (∀ W, Below wq.heap.size wq W → Calls Tryz.prog 20 #[stP s, ltV x.z] W fun e w' => e = .returned (.int .i64 z) ∧ StQ w0 s m E Q W w') := hp.2
  have HFlo : Hid (∀ k, (SF m E k ∨ k = w.heap.size + 2) → w0.heap.size ≤ k) := HF.out.2
  have HPr : Hid (∀ (G : Nat → Prop) W y, (∀ k, G k → k < W.heap.size) → Pst G W (fun W => IsKs W (.slice a0 M.length c0) M) → Below wq.heap.size wq W → y.t = x.z.t → Pst G W (fun W => IsTy W y.t y.vo y.va y.vc) → Calls Tryz.prog 19 #[.agg #[.slice a0 M.length c0], ltV y] W fun e w' => ∃ a c M1, e = .returned (.tuple #[.agg #[.slice a (List.length M1) c], .int .i64 z]) ∧ Q M1 ∧ Pst G w' (fun W => IsKs W (.slice a M1.length c) M1) ∧ Below W.heap.size W w') := hp.1
  have HRf : Hid (∀ (G : Nat → Prop) W, (∀ k, G k → k < W.heap.size) → (∀ k, G k → w0.heap.size ≤ k) → Below wq.heap.size wq W → Calls Tryz.prog 17 #[ltV x.z] W fun e w' => ∃ y : LT, e = .returned (ltV y) ∧ y.t = x.z.t ∧ Pst G w' (fun W => IsTy W y.t y.vo y.va y.vc) ∧ Below W.heap.size W w') := fun G W hG hG0 hb => by
    have hb0 : Below w0.heap.size w0 W := HR.out.bel.trans (hb.mono HR.out.bel.size)
    obtain ⟨-, -, sm, -⟩ := one_okQ hk
    refine (refN_any x.z W (ho.1.1.below hb0) (by have := sm.1; omega) (by have := sm.2.1; omega)).mono ?_
    rintro e w' ⟨y, rfl, hy, hN, hI, hb'⟩
    exact ⟨y, rfl, hy, pst_ref hG0 hG ho.1.1 hy hN hI, hb'⟩
  have HKm : Hid (∀ (G : Nat → Prop) W, Below wq.heap.size wq W → (∀ k, G k → (SF m E k ∨ k = w.heap.size + 2) ∨ wq.heap.size ≤ k) → Pst G W (fun W => IsKs W (.slice a0 M.length c0) M)) := fun G W hb hG => HK.out.more hb hG
  have HS : Hid (∀ W, Below wq.heap.size wq W → (W.cell? ⟨w.heap.size, 0, none⟩ = some (.slice a0 M.length c0) ∧ W.cell? ⟨w.heap.size + 1, 1, none⟩ = some (.string x.z.t.n) ∧ W.cell? ⟨w.heap.size + 1, 2, none⟩ = some (.string x.z.t.p) ∧ W.cell? ⟨w.heap.size + 1, 3, none⟩ = some (x.z.vo) ∧ W.cell? ⟨w.heap.size + 1, 4, none⟩ = some (x.z.va) ∧ W.cell? ⟨w.heap.size + 1, 5, none⟩ = some (x.z.vc) ∧ W.cell? ⟨w.heap.size + 1, 6, none⟩ = some (.int .i64 x.z.t.nd) ∧ W.cell? ⟨w.heap.size + 1, 7, none⟩ = some (.int .i64 x.z.t.lf) ∧ W.cell? ⟨w.heap.size + 1, 8, none⟩ = some (.int .i64 x.z.t.sq))) := fun W hb => by
    obtain ⟨cb, t0_, t1_, t2_, t3_, t4_, t5_, t6_, t7_, t8_, t9_, t10_, t11_, t12_, t13_, t14_, cr, fz, -⟩ := HCA.out W (Stp.of _ hb)
    exact ⟨cb, t1_, t2_, t3_, t4_, t5_, t6_, t7_, t8_⟩
  have HFl : Hid (∀ W, Below wq.heap.size wq W → ∀ k, (SF m E k ∨ k = w.heap.size + 2) → k < W.heap.size) := fun W hb k hk => Nat.lt_of_lt_of_le (HF.out.1 k hk) hb.size
  have HG1 : Hid (∀ g W, Below wq.heap.size wq W → g < W.heap.size → ∀ k, ((SF m E k ∨ k = w.heap.size + 2) ∨ k = g) → k < W.heap.size) := fun g W hb hg k hk => by
    rcases hk with hk | rfl
    · exact HFl.out W hb k hk
    · exact hg
  have HG0 : Hid (∀ g, wq.heap.size ≤ g → ∀ k, ((SF m E k ∨ k = w.heap.size + 2) ∨ k = g) → w0.heap.size ≤ k) := fun g hg k hk => by
    rcases hk with hk | rfl
    · exact HF.out.2 k hk
    · have := HZ.out.1; have := HZ.out.2; omega
  have HGm : Hid (∀ g, wq.heap.size ≤ g → ∀ k, ((SF m E k ∨ k = w.heap.size + 2) ∨ k = g) → (SF m E k ∨ k = w.heap.size + 2) ∨ wq.heap.size ≤ k) := fun g hg k hk => by
    rcases hk with hk | rfl
    · exact .inl hk
    · exact .inr hg
  clear hp
  go_upto_region 7 with fail
  clear cb t0_ t1_ t2_ t3_ t4_ t5_ t6_ t7_ t8_ t9_ t10_ t11_ t12_ t13_ t14_ cr fz
  go_cut [11, 12] (fun p z9 wx => z9 = .int .i64 z ∧ ∃ g a c M1, p = .pointer (some ⟨g, 0, none⟩) ∧ Hid (Q M1) ∧ Hid (Pst (fun k => SF m E k ∨ k = w.heap.size + 2) wx fun W => IsKs W (.slice a M1.length c) M1) ∧ Hid (wx.heap[g]? = some (.cells #[.slice a (List.length M1) c] 27 (0, 0))) ∧ Hid (wq.heap.size ≤ g) ∧ Hid (Below wq.heap.size wq wx))
  case first =>
    clear HCA HK HF HZ HBw HP2 HR
    have HDk : Hid (Below wq.heap.size wq wq.drew) := (Below.refl _ _).drew
    have HDz : Hid (wq.drew.heap.size = wq.heap.size) := rfl
    go_wp2_with fail
    refine wp_region_held_drew (S := fun W => W.cell? ⟨w.heap.size, 0, none⟩ = some (.slice a0 M.length c0) ∧ W.cell? ⟨w.heap.size + 1, 1, none⟩ = some (.string x.z.t.n) ∧ W.cell? ⟨w.heap.size + 1, 2, none⟩ = some (.string x.z.t.p) ∧ W.cell? ⟨w.heap.size + 1, 3, none⟩ = some (x.z.vo) ∧ W.cell? ⟨w.heap.size + 1, 4, none⟩ = some (x.z.va) ∧ W.cell? ⟨w.heap.size + 1, 5, none⟩ = some (x.z.vc) ∧ W.cell? ⟨w.heap.size + 1, 6, none⟩ = some (.int .i64 x.z.t.nd) ∧ W.cell? ⟨w.heap.size + 1, 7, none⟩ = some (.int .i64 x.z.t.lf) ∧ W.cell? ⟨w.heap.size + 1, 8, none⟩ = some (.int .i64 x.z.t.sq)) (by kernel_rfl) (HS.out _ HDk.out) (fun hHeld => ?_)
    generalize wq.drew = wd at *
    refine wpAnyH_take (i := 0) (v := ?_) rfl (by kernel_rfl) (by kernel_rfl) (by kernel_rfl) (fun _ _ _ h => h) (Or.inl ⟨by rfl, ?_⟩) hHeld ?_
    rotate_left 1
    · intro w9 hSw; obtain ⟨g0, g1, g2, g3, g4, g5, g6, g7, g8⟩ := hSw; go_simp; try with_reducible rfl
    change wpAnyH _ _ _ _ _ _ _ (Act.put _ (some 51) _) _
    simp only [Act.put, List.setIfInBounds_toArray, List.set_cons_zero, List.set_cons_succ]
    refine wpAnyH_take (i := 1) (v := ?_) rfl (by kernel_rfl) (by kernel_rfl) (by kernel_rfl) (fun _ _ _ h => h) (Or.inl ⟨by rfl, ?_⟩) hHeld ?_
    rotate_left 1
    · intro w9 hSw; obtain ⟨g0, g1, g2, g3, g4, g5, g6, g7, g8⟩ := hSw; go_simp; try with_reducible rfl
    change wpAnyH _ _ _ _ _ _ _ (Act.put _ (some 52) _) _
    simp only [Act.put, List.setIfInBounds_toArray, List.set_cons_zero, List.set_cons_succ]
    refine wpAnyH_take (i := 2) (v := ?_) rfl (by kernel_rfl) (by kernel_rfl) (by kernel_rfl) (fun _ _ _ h => h) (Or.inl ⟨by rfl, ?_⟩) hHeld ?_
    rotate_left 1
    · intro w9 hSw; obtain ⟨g0, g1, g2, g3, g4, g5, g6, g7, g8⟩ := hSw; go_simp; try with_reducible rfl
    change wpAnyH _ _ _ _ _ _ _ (Act.put _ (some 53) _) _
    simp only [Act.put, List.setIfInBounds_toArray, List.set_cons_zero, List.set_cons_succ]
    refine wpAnyH_ready (rs := [3, 8]) (by kernel_rfl) (by simp) ?_
    refine AllReadyH.cons rfl (fun K9 hK => ?_) (AllReadyH.cons rfl (fun K9 hK => ?_) AllReadyH.nil)
    · go_simp
      refine (HRf.out _ wd (HFl.out _ HDk.out) HFlo.out HDk.out).mono ?_
      rintro e w12 ⟨y, rfl, hy, hyI, hb⟩
      have B12 : Hid (Below wq.heap.size wq w12) := Below.trans HDk.out (hb.mono (Below.size HDk.out))
      have HyI := hyI
      have Hb12 := hb
      go_simp
      refine hK.out _ _ (HS.out _ B12.out) (fun hHeld => ?_)
      clear hK K9
      refine wpAnyH_ready (rs := [4, 8]) (by kernel_rfl) (by simp) ?_
      refine AllReadyH.cons rfl (fun K9 hK => ?_) (AllReadyH.cons rfl (fun K9 hK => ?_) AllReadyH.nil)
      · go_simp
        refine (HPr.out _ w12 y (HFl.out _ B12.out) (HKm.out _ w12 B12.out fun k hk => .inl hk) B12.out hy HyI).mono ?_
        rintro e w14 ⟨a, c, M1, rfl, hQ, hP9, hb⟩
        have B14 : Hid (Below wq.heap.size wq w14) := Below.trans B12.out (hb.mono (Below.size B12.out))
        go_simp
        refine hK.out _ _ (HS.out _ B14.out) (fun hHeld => ?_)
        clear hK K9
        refine wpAnyH_take (i := 5) (v := ?_) rfl (by kernel_rfl) (by kernel_rfl) (by kernel_rfl) (fun _ _ _ h => h) (Or.inl ⟨by rfl, ?_⟩) hHeld ?_
        rotate_left 1
        · intro w9 hSw; obtain ⟨g0, g1, g2, g3, g4, g5, g6, g7, g8⟩ := hSw; go_simp; try with_reducible rfl
        change wpAnyH _ _ _ _ _ _ _ (Act.put _ (some 50) _) _
        simp only [Act.put, List.setIfInBounds_toArray, List.set_cons_zero, List.set_cons_succ]
        refine wpAnyH_take (i := 6) (v := ?_) rfl (by kernel_rfl) (by kernel_rfl) (by kernel_rfl) (fun _ _ _ h => h) (Or.inl ⟨by rfl, ?_⟩) hHeld ?_
        rotate_left 1
        · intro w9 hSw; obtain ⟨g0, g1, g2, g3, g4, g5, g6, g7, g8⟩ := hSw; go_simp; try with_reducible rfl
        change wpAnyH _ _ _ _ _ _ _ (Act.put _ (some 56) _) _
        simp only [Act.put, List.setIfInBounds_toArray, List.set_cons_zero, List.set_cons_succ]
        refine wpAnyH_take (i := 7) (v := ?_) rfl (by kernel_rfl) (by kernel_rfl) (by kernel_rfl) (fun _ _ _ h => h) (Or.inl ⟨by rfl, ?_⟩) hHeld ?_
        rotate_left 1
        · intro w9 hSw; obtain ⟨g0, g1, g2, g3, g4, g5, g6, g7, g8⟩ := hSw; go_simp; try with_reducible rfl
        change wpAnyH _ _ _ _ _ _ _ (Act.put _ (some 57) _) _
        simp only [Act.put, List.setIfInBounds_toArray, List.set_cons_zero, List.set_cons_succ]
        refine wpAnyH_ready (rs := [8]) (by kernel_rfl) (by simp) ?_
        refine AllReadyH.cons rfl (fun K9 hK => ?_) AllReadyH.nil
        go_simp
        have B15 : Hid (Below wq.heap.size wq (w14.alloc (.cells #[.slice none 0 0] 27))) := Below.trans B14.out ((al_b w14 _).mono (Below.size B14.out))
        refine hK.out _ _ (HS.out _ B15.out) (fun hHeld => ?_)
        clear hK K9
        have hkE : (w14.alloc (.cells #[.slice none 0 0] 27)).heap[w14.heap.size]? = some (.cells #[.slice none 0 0] 27 (0, 0)) := new_at w14 (.cells #[.slice none 0 0] 27)
        have m0 : (w14.alloc (.cells #[.slice none 0 0] 27)).cell? ⟨w14.heap.size, 0, none⟩ = some (.slice none 0 0) := by rw [Lib.cell_of_heap hkE]; rfl
        have mf : ∀ j, (w14.alloc (.cells #[.slice none 0 0] 27)).frozen? ⟨w14.heap.size, j, none⟩ = false := fun j => Lib.frozen_of_heap hkE j
        have hgq : Hid (wq.heap.size ≤ w14.heap.size) := by show _ ≤ _; exact B14.out.size
        have HBe : Hid (Below wq.heap.size wq ((w14.alloc (.cells #[.slice none 0 0] 27)).setCell ⟨w14.heap.size, 0, none⟩ (.slice a (List.length M1) c))) := by
          have hg9 := hgq.out
          exact (B15.out.setCell (p := ⟨w14.heap.size, 0, none⟩) hg9 (.slice a (List.length M1) c))
        have HHe : Hid (((w14.alloc (.cells #[.slice none 0 0] 27)).setCell ⟨w14.heap.size, 0, none⟩ (.slice a (List.length M1) c)).heap[w14.heap.size]? = some (.cells #[.slice a (List.length M1) c] 27 (0, 0))) := by
          show _ = _
          exact (heap_setD hkE 0 (.slice a (List.length M1) c))
        have HPe : Hid (Pst (fun k => SF m E k ∨ k = w.heap.size + 2) ((w14.alloc (.cells #[.slice none 0 0] 27)).setCell ⟨w14.heap.size, 0, none⟩ (.slice a (List.length M1) c)) fun W => IsKs W (.slice a M1.length c) M1) := Pst.below hP9 ((al_b w14 (.cells #[.slice none 0 0] 27)).setCell (p := ⟨w14.heap.size, 0, none⟩) (Nat.le_refl _) (.slice a (List.length M1) c))
        have HQe : Hid (Q M1) := hQ
        generalize hWE : (w14.alloc (.cells #[.slice none 0 0] 27)) = WE at *
        clear hWE hkE
        refine wpAnyH_ready (rs := [9]) (by kernel_rfl) (by simp) ?_
        refine AllReadyH.cons rfl (fun K9 hK => ?_) AllReadyH.nil
        go_simp
        refine hK.out _ _ (HS.out _ HBe.out) (fun hHeld => ?_)
        clear hK K9
        refine wpAnyH_ready (rs := [10]) (by kernel_rfl) (by simp) ?_
        refine AllReadyH.cons rfl (fun K9 hK => ?_) AllReadyH.nil
        go_simp
        refine hK.out _ _ hHeld (fun hHeld => ?_)
        clear hK K9
        refine wpAnyH_done (by kernel_rfl) ?_ _
        clear hHeld HS HPr HRf HKm HFl HG1 HG0 HGm mf m0
        try go_wp2_with fail
        go_meet
        exact ⟨rfl, ⟨_, a, c, M1, rfl, HQe, HPe, HHe, hgq, HBe⟩⟩
      · go_simp
        have B13 : Hid (Below wq.heap.size wq (w12.alloc (.cells #[.slice none 0 0] 27))) := Below.trans B12.out ((al_b w12 _).mono (Below.size B12.out))
        refine hK.out _ _ (HS.out _ B13.out) (fun hHeld => ?_)
        clear hK K9
        have hg0 : wq.heap.size ≤ w12.heap.size := B12.out.size
        have hgl : w12.heap.size < (w12.alloc (.cells #[.slice none 0 0] 27)).heap.size := (Array.getElem?_eq_some_iff.1 (new_at w12 (.cells #[.slice none 0 0] 27))).1
        have hyI2 : Pst (fun k => (SF m E k ∨ k = w.heap.size + 2) ∨ k = w12.heap.size) (w12.alloc (.cells #[.slice none 0 0] 27)) (fun W => IsTy W y.t y.vo y.va y.vc) := HyI.more (al_b w12 _) fun k hk => by
          rcases hk with hk | rfl
          · exact .inl hk
          · exact .inr (Nat.le_refl _)
        refine wpAnyH_ready (rs := [4]) (by kernel_rfl) (by simp) ?_
        refine AllReadyH.cons rfl (fun K9 hK => ?_) AllReadyH.nil
        go_simp
        refine (HPr.out _ (w12.alloc (.cells #[.slice none 0 0] 27)) y (HG1.out w12.heap.size _ B13.out hgl) (HKm.out _ (w12.alloc (.cells #[.slice none 0 0] 27)) B13.out (HGm.out w12.heap.size hg0)) B13.out hy hyI2).mono ?_
        rintro e w14 ⟨a, c, M1, rfl, hQ, hP9, hb⟩
        have B14 : Hid (Below wq.heap.size wq w14) := Below.trans B13.out (hb.mono (Below.size B13.out))
        go_simp
        refine hK.out _ _ (HS.out _ B14.out) (fun hHeld => ?_)
        clear hK K9
        refine wpAnyH_take (i := 5) (v := ?_) rfl (by kernel_rfl) (by kernel_rfl) (by kernel_rfl) (fun _ _ _ h => h) (Or.inl ⟨by rfl, ?_⟩) hHeld ?_
        rotate_left 1
        · intro w9 hSw; obtain ⟨g0, g1, g2, g3, g4, g5, g6, g7, g8⟩ := hSw; go_simp; try with_reducible rfl
        change wpAnyH _ _ _ _ _ _ _ (Act.put _ (some 50) _) _
        simp only [Act.put, List.setIfInBounds_toArray, List.set_cons_zero, List.set_cons_succ]
        refine wpAnyH_take (i := 6) (v := ?_) rfl (by kernel_rfl) (by kernel_rfl) (by kernel_rfl) (fun _ _ _ h => h) (Or.inl ⟨by rfl, ?_⟩) hHeld ?_
        rotate_left 1
        · intro w9 hSw; obtain ⟨g0, g1, g2, g3, g4, g5, g6, g7, g8⟩ := hSw; go_simp; try with_reducible rfl
        change wpAnyH _ _ _ _ _ _ _ (Act.put _ (some 56) _) _
        simp only [Act.put, List.setIfInBounds_toArray, List.set_cons_zero, List.set_cons_succ]
        refine wpAnyH_take (i := 7) (v := ?_) rfl (by kernel_rfl) (by kernel_rfl) (by kernel_rfl) (fun _ _ _ h => h) (Or.inl ⟨by rfl, ?_⟩) hHeld ?_
        rotate_left 1
        · intro w9 hSw; obtain ⟨g0, g1, g2, g3, g4, g5, g6, g7, g8⟩ := hSw; go_simp; try with_reducible rfl
        change wpAnyH _ _ _ _ _ _ _ (Act.put _ (some 57) _) _
        simp only [Act.put, List.setIfInBounds_toArray, List.set_cons_zero, List.set_cons_succ]
        have hkE : (w14).heap[w12.heap.size]? = some (.cells #[.slice none 0 0] 27 (0, 0)) := (Below.block hb _ hgl).trans (new_at w12 (.cells #[.slice none 0 0] 27))
        have m0 : (w14).cell? ⟨w12.heap.size, 0, none⟩ = some (.slice none 0 0) := by rw [Lib.cell_of_heap hkE]; rfl
        have mf : ∀ j, (w14).frozen? ⟨w12.heap.size, j, none⟩ = false := fun j => Lib.frozen_of_heap hkE j
        have hgq : Hid (wq.heap.size ≤ w12.heap.size) := by show _ ≤ _; exact hg0
        have HBe : Hid (Below wq.heap.size wq ((w14).setCell ⟨w12.heap.size, 0, none⟩ (.slice a (List.length M1) c))) := by
          have hg9 := hgq.out
          exact (B14.out.setCell (p := ⟨w12.heap.size, 0, none⟩) hg9 (.slice a (List.length M1) c))
        have HHe : Hid (((w14).setCell ⟨w12.heap.size, 0, none⟩ (.slice a (List.length M1) c)).heap[w12.heap.size]? = some (.cells #[.slice a (List.length M1) c] 27 (0, 0))) := by
          show _ = _
          exact (heap_setD hkE 0 (.slice a (List.length M1) c))
        have HPe : Hid (Pst (fun k => SF m E k ∨ k = w.heap.size + 2) ((w14).setCell ⟨w12.heap.size, 0, none⟩ (.slice a (List.length M1) c)) fun W => IsKs W (.slice a M1.length c) M1) := Pst.weaken (F' := fun k => (SF m E k ∨ k = w.heap.size + 2) ∨ k = _) (Pst.move hP9 (stp_set (Stp.rfl' _ _) (.inl (.inr rfl)) 0 _)) fun k hk => .inl hk
        have HQe : Hid (Q M1) := hQ
        generalize hWE : (w14) = WE at *
        clear hWE hkE
        refine wpAnyH_ready (rs := [9]) (by kernel_rfl) (by simp) ?_
        refine AllReadyH.cons rfl (fun K9 hK => ?_) AllReadyH.nil
        go_simp
        refine hK.out _ _ (HS.out _ HBe.out) (fun hHeld => ?_)
        clear hK K9
        refine wpAnyH_ready (rs := [10]) (by kernel_rfl) (by simp) ?_
        refine AllReadyH.cons rfl (fun K9 hK => ?_) AllReadyH.nil
        go_simp
        refine hK.out _ _ hHeld (fun hHeld => ?_)
        clear hK K9
        refine wpAnyH_done (by kernel_rfl) ?_ _
        clear hHeld HS HPr HRf HKm HFl HG1 HG0 HGm mf m0
        try go_wp2_with fail
        go_meet
        exact ⟨rfl, ⟨_, a, c, M1, rfl, HQe, HPe, HHe, hgq, HBe⟩⟩
    · go_simp
      have B13 : Hid (Below wq.heap.size wq (wd.alloc (.cells #[.slice none 0 0] 27))) := Below.trans HDk.out ((al_b wd _).mono (Below.size HDk.out))
      refine hK.out _ _ (HS.out _ B13.out) (fun hHeld => ?_)
      clear hK K9
      have hg0 : wq.heap.size ≤ wd.heap.size := HDk.out.size
      have hgl0 : wd.heap.size < (wd.alloc (.cells #[.slice none 0 0] 27)).heap.size := (Array.getElem?_eq_some_iff.1 (new_at wd (.cells #[.slice none 0 0] 27))).1
      have hgl := hgl0
      refine wpAnyH_ready (rs := [3]) (by kernel_rfl) (by simp) ?_
      refine AllReadyH.cons rfl (fun K9 hK => ?_) AllReadyH.nil
      go_simp
      refine (HRf.out _ (wd.alloc (.cells #[.slice none 0 0] 27)) (HG1.out wd.heap.size _ B13.out hgl) (HG0.out wd.heap.size hg0) B13.out).mono ?_
      rintro e w12 ⟨y, rfl, hy, hyI, hb⟩
      have B12 : Hid (Below wq.heap.size wq w12) := Below.trans B13.out (hb.mono (Below.size B13.out))
      have HyI := hyI
      have Hb12 := hb
      go_simp
      refine hK.out _ _ (HS.out _ B12.out) (fun hHeld => ?_)
      clear hK K9
      have hgl : wd.heap.size < w12.heap.size := Nat.lt_of_lt_of_le hgl0 Hb12.size
      refine wpAnyH_ready (rs := [4]) (by kernel_rfl) (by simp) ?_
      refine AllReadyH.cons rfl (fun K9 hK => ?_) AllReadyH.nil
      go_simp
      refine (HPr.out _ w12 y (HG1.out wd.heap.size _ B12.out hgl) (HKm.out _ w12 B12.out (HGm.out wd.heap.size hg0)) B12.out hy HyI).mono ?_
      rintro e w14 ⟨a, c, M1, rfl, hQ, hP9, hb⟩
      have B14 : Hid (Below wq.heap.size wq w14) := Below.trans B12.out (hb.mono (Below.size B12.out))
      go_simp
      refine hK.out _ _ (HS.out _ B14.out) (fun hHeld => ?_)
      clear hK K9
      refine wpAnyH_take (i := 5) (v := ?_) rfl (by kernel_rfl) (by kernel_rfl) (by kernel_rfl) (fun _ _ _ h => h) (Or.inl ⟨by rfl, ?_⟩) hHeld ?_
      rotate_left 1
      · intro w9 hSw; obtain ⟨g0, g1, g2, g3, g4, g5, g6, g7, g8⟩ := hSw; go_simp; try with_reducible rfl
      change wpAnyH _ _ _ _ _ _ _ (Act.put _ (some 50) _) _
      simp only [Act.put, List.setIfInBounds_toArray, List.set_cons_zero, List.set_cons_succ]
      refine wpAnyH_take (i := 6) (v := ?_) rfl (by kernel_rfl) (by kernel_rfl) (by kernel_rfl) (fun _ _ _ h => h) (Or.inl ⟨by rfl, ?_⟩) hHeld ?_
      rotate_left 1
      · intro w9 hSw; obtain ⟨g0, g1, g2, g3, g4, g5, g6, g7, g8⟩ := hSw; go_simp; try with_reducible rfl
      change wpAnyH _ _ _ _ _ _ _ (Act.put _ (some 56) _) _
      simp only [Act.put, List.setIfInBounds_toArray, List.set_cons_zero, List.set_cons_succ]
      refine wpAnyH_take (i := 7) (v := ?_) rfl (by kernel_rfl) (by kernel_rfl) (by kernel_rfl) (fun _ _ _ h => h) (Or.inl ⟨by rfl, ?_⟩) hHeld ?_
      rotate_left 1
      · intro w9 hSw; obtain ⟨g0, g1, g2, g3, g4, g5, g6, g7, g8⟩ := hSw; go_simp; try with_reducible rfl
      change wpAnyH _ _ _ _ _ _ _ (Act.put _ (some 57) _) _
      simp only [Act.put, List.setIfInBounds_toArray, List.set_cons_zero, List.set_cons_succ]
      have hkE : (w14).heap[wd.heap.size]? = some (.cells #[.slice none 0 0] 27 (0, 0)) := (Below.block hb _ hgl).trans ((Below.block Hb12 _ hgl0).trans (new_at wd (.cells #[.slice none 0 0] 27)))
      have m0 : (w14).cell? ⟨wd.heap.size, 0, none⟩ = some (.slice none 0 0) := by rw [Lib.cell_of_heap hkE]; rfl
      have mf : ∀ j, (w14).frozen? ⟨wd.heap.size, j, none⟩ = false := fun j => Lib.frozen_of_heap hkE j
      have hgq : Hid (wq.heap.size ≤ wd.heap.size) := by show _ ≤ _; exact hg0
      have HBe : Hid (Below wq.heap.size wq ((w14).setCell ⟨wd.heap.size, 0, none⟩ (.slice a (List.length M1) c))) := by
        have hg9 := hgq.out
        exact (B14.out.setCell (p := ⟨wd.heap.size, 0, none⟩) hg9 (.slice a (List.length M1) c))
      have HHe : Hid (((w14).setCell ⟨wd.heap.size, 0, none⟩ (.slice a (List.length M1) c)).heap[wd.heap.size]? = some (.cells #[.slice a (List.length M1) c] 27 (0, 0))) := by
        show _ = _
        exact (heap_setD hkE 0 (.slice a (List.length M1) c))
      have HPe : Hid (Pst (fun k => SF m E k ∨ k = w.heap.size + 2) ((w14).setCell ⟨wd.heap.size, 0, none⟩ (.slice a (List.length M1) c)) fun W => IsKs W (.slice a M1.length c) M1) := Pst.weaken (F' := fun k => (SF m E k ∨ k = w.heap.size + 2) ∨ k = _) (Pst.move hP9 (stp_set (Stp.rfl' _ _) (.inl (.inr rfl)) 0 _)) fun k hk => .inl hk
      have HQe : Hid (Q M1) := hQ
      generalize hWE : (w14) = WE at *
      clear hWE hkE
      refine wpAnyH_ready (rs := [9]) (by kernel_rfl) (by simp) ?_
      refine AllReadyH.cons rfl (fun K9 hK => ?_) AllReadyH.nil
      go_simp
      refine hK.out _ _ (HS.out _ HBe.out) (fun hHeld => ?_)
      clear hK K9
      refine wpAnyH_ready (rs := [10]) (by kernel_rfl) (by simp) ?_
      refine AllReadyH.cons rfl (fun K9 hK => ?_) AllReadyH.nil
      go_simp
      refine hK.out _ _ hHeld (fun hHeld => ?_)
      clear hK K9
      refine wpAnyH_done (by kernel_rfl) ?_ _
      clear hHeld HS HPr HRf HKm HFl HG1 HG0 HGm mf m0
      try go_wp2_with fail
      go_meet
      exact ⟨rfl, ⟨_, a, c, M1, rfl, HQe, HPe, HHe, hgq, HBe⟩⟩
  case rest =>
    obtain ⟨rfl, g, a, c, M1, rfl, HQ1, HK1, HG, Hgq, B6⟩ := hcut
    have hgs : ¬ SF m E g := fun e => by
      have h1 := (HR.out.st.sf e).2
      have h2 := HF.out.1 _ (.inl e)
      have := Hgq.out
      omega
    have HS2 : Hid (∀ W, Stp wc (SF m E) (SF m E) W → (W.cell? ⟨g, 0, none⟩ = some (.slice a (List.length M1) c) ∧ W.cell? ⟨w.heap.size + 1, 1, none⟩ = some (.string x.z.t.n) ∧ W.cell? ⟨w.heap.size + 1, 2, none⟩ = some (.string x.z.t.p) ∧ W.cell? ⟨w.heap.size + 1, 3, none⟩ = some (x.z.vo) ∧ W.cell? ⟨w.heap.size + 1, 4, none⟩ = some (x.z.va) ∧ W.cell? ⟨w.heap.size + 1, 5, none⟩ = some (x.z.vc) ∧ W.cell? ⟨w.heap.size + 1, 6, none⟩ = some (.int .i64 x.z.t.nd) ∧ W.cell? ⟨w.heap.size + 1, 7, none⟩ = some (.int .i64 x.z.t.lf) ∧ W.cell? ⟨w.heap.size + 1, 8, none⟩ = some (.int .i64 x.z.t.sq))) := fun W hW => by
      have h1 := pst_blk (F := SF m E) HG.out hgs W hW
      obtain ⟨cb, t0_, t1_, t2_, t3_, t4_, t5_, t6_, t7_, t8_, t9_, t10_, t11_, t12_, t13_, t14_, cr, fz, -⟩ := HCA.out W ((Stp.of (SF m E) B6.out).trans hW)
      exact ⟨by rw [Lib.cell_of_heap h1]; rfl, t1_, t2_, t3_, t4_, t5_, t6_, t7_, t8_⟩
    have HQ7 : Hid (∀ W, Stp wc (SF m E) (SF m E) W → W.heap[w.heap.size + 2]? = some (.cells #[.slice none 0 0] 27 (0, 0))) := fun W hW => (HCA.out W ((Stp.of (SF m E) B6.out).trans hW)).2.2.2.2.2.2.2.2.2.2.2.2.2.2.2.2.2.2
    have HNe : Hid (g ≠ w.heap.size + 2) := by
      have := HZ.out.1
      have := Hgq.out
      show _ ≠ _
      omega
    have HDk : Hid (Below wc.heap.size wc wc.drew) := (Below.refl _ _).drew
    clear hgs HFl HG1 HG0 HGm HKm HRf HPr HFlo HS
    go_wp2_with fail
    refine wp_region_held_drew (S := fun W => W.cell? ⟨g, 0, none⟩ = some (.slice a (List.length M1) c) ∧ W.cell? ⟨w.heap.size + 1, 1, none⟩ = some (.string x.z.t.n) ∧ W.cell? ⟨w.heap.size + 1, 2, none⟩ = some (.string x.z.t.p) ∧ W.cell? ⟨w.heap.size + 1, 3, none⟩ = some (x.z.vo) ∧ W.cell? ⟨w.heap.size + 1, 4, none⟩ = some (x.z.va) ∧ W.cell? ⟨w.heap.size + 1, 5, none⟩ = some (x.z.vc) ∧ W.cell? ⟨w.heap.size + 1, 6, none⟩ = some (.int .i64 x.z.t.nd) ∧ W.cell? ⟨w.heap.size + 1, 7, none⟩ = some (.int .i64 x.z.t.lf) ∧ W.cell? ⟨w.heap.size + 1, 8, none⟩ = some (.int .i64 x.z.t.sq)) (by kernel_rfl) (HS2.out _ (Stp.of _ HDk.out)) (fun hHeld => ?_)
    generalize wc.drew = wd at *
    refine wpAnyH_take (i := 0) (v := ?_) rfl (by kernel_rfl) (by kernel_rfl) (by kernel_rfl) (fun _ _ _ h => h) (Or.inl ⟨by rfl, ?_⟩) hHeld ?_
    rotate_left 1
    · intro w9 hSw; obtain ⟨g0, g1, g2, g3, g4, g5, g6, g7, g8⟩ := hSw; go_simp; try with_reducible rfl
    change wpAnyH _ _ _ _ _ _ _ (Act.put _ (some 58) _) _
    simp only [Act.put, List.setIfInBounds_toArray, List.set_cons_zero, List.set_cons_succ]
    refine wpAnyH_take (i := 1) (v := ?_) rfl (by kernel_rfl) (by kernel_rfl) (by kernel_rfl) (fun _ _ _ h => h) (Or.inl ⟨by rfl, ?_⟩) hHeld ?_
    rotate_left 1
    · intro w9 hSw; obtain ⟨g0, g1, g2, g3, g4, g5, g6, g7, g8⟩ := hSw; go_simp; try with_reducible rfl
    change wpAnyH _ _ _ _ _ _ _ (Act.put _ (some 59) _) _
    simp only [Act.put, List.setIfInBounds_toArray, List.set_cons_zero, List.set_cons_succ]
    refine wpAnyH_take (i := 2) (v := ?_) rfl (by kernel_rfl) (by kernel_rfl) (by kernel_rfl) (fun _ _ _ h => h) (Or.inl ⟨by rfl, ?_⟩) hHeld ?_
    rotate_left 1
    · intro w9 hSw; obtain ⟨g0, g1, g2, g3, g4, g5, g6, g7, g8⟩ := hSw; go_simp; try with_reducible rfl
    change wpAnyH _ _ _ _ _ _ _ (Act.put _ (some 60) _) _
    simp only [Act.put, List.setIfInBounds_toArray, List.set_cons_zero, List.set_cons_succ]
    refine wpAnyH_take (i := 3) (v := ?_) rfl (by kernel_rfl) (by kernel_rfl) (by kernel_rfl) (fun _ _ _ h => h) (Or.inl ⟨by rfl, ?_⟩) hHeld ?_
    rotate_left 1
    · intro w9 hSw; obtain ⟨g0, g1, g2, g3, g4, g5, g6, g7, g8⟩ := hSw; go_simp; try with_reducible rfl
    change wpAnyH _ _ _ _ _ _ _ (Act.put _ (some 61) _) _
    simp only [Act.put, List.setIfInBounds_toArray, List.set_cons_zero, List.set_cons_succ]
    refine wpAnyH_take (i := 5) (v := ?_) rfl (by kernel_rfl) (by kernel_rfl) (by kernel_rfl) (fun _ _ _ h => h) (Or.inl ⟨by rfl, ?_⟩) hHeld ?_
    rotate_left 1
    · intro w9 hSw; obtain ⟨g0, g1, g2, g3, g4, g5, g6, g7, g8⟩ := hSw; go_simp; try with_reducible rfl
    change wpAnyH _ _ _ _ _ _ _ (Act.put _ (some 63) _) _
    simp only [Act.put, List.setIfInBounds_toArray, List.set_cons_zero, List.set_cons_succ]
    refine wpAnyH_ready (rs := [4]) (by kernel_rfl) (by simp) ?_
    refine AllReadyH.cons rfl (fun K9 hK => ?_) AllReadyH.nil
    go_simp
    refine (HP2.out _ (B6.out.trans (HDk.out.mono B6.out.size))).mono ?_
    rintro e w7 ⟨rfl, E', X', s1, s2, s3, s4⟩
    have S7 : Hid (Stp wc (SF m E) (SF m E) w7) := ((Stp.of (SF m E) HDk.out).trans s2).same
    have HE : Hid (∀ u, DoQ w0 w s m E (.returned (.tuple #[.agg #[.slice a M1.length c], .bool true])) (w7.setCell ⟨w.heap.size + 2, 0, none⟩ u)) := fun u => by
      obtain ⟨h1, h2⟩ := HZ.out
      have hsw : Stp w (SF m E) (SF m E') w7 := (((Stp.of (SF m E) HBw.out).trans (Stp.of (SF m E) B6.out)).trans (Stp.of (SF m E) HDk.out)).trans s2
      refine do_end s1 ?_ (HQ7.out w7 S7.out) ?_ (s4 _ HQ1.out) s3 (by omega) hsw (by omega) u
      · exact (HK1.out.below HDk.out).move (stp_plus s2 _)
      · exact HR.out.bel.trans ((((Stp.of (SF m E) B6.out).trans (Stp.of (SF m E) HDk.out)).trans s2).below HR.out.bel.size fun k hk => (HR.out.st.sf hk).1)
    clear s1 s2 s3 s4
    go_simp
    refine hK.out _ _ (HS2.out _ S7.out) (fun hHeld => ?_)
    clear hK K9
    refine wpAnyH_take (i := 6) (v := ?_) rfl (by kernel_rfl) (by kernel_rfl) (by kernel_rfl) (fun _ _ _ h => h) (Or.inl ⟨by rfl, ?_⟩) hHeld ?_
    rotate_left 1
    · intro w9 hSw; obtain ⟨g0, g1, g2, g3, g4, g5, g6, g7, g8⟩ := hSw; go_simp; try with_reducible rfl
    change wpAnyH _ _ _ _ _ _ _ (Act.put _ (some 64) _) _
    simp only [Act.put, List.setIfInBounds_toArray, List.set_cons_zero, List.set_cons_succ]
    have hq := HQ7.out w7 S7.out
    have cr : w7.cell? ⟨w.heap.size + 2, 0, none⟩ = some (.slice none 0 0) := by rw [Lib.cell_of_heap hq]; rfl
    have fz : ∀ j, w7.frozen? ⟨w.heap.size + 2, j, none⟩ = false := fun j => Lib.frozen_of_heap hq j
    have HSt : Hid (∀ u, ((w7.setCell ⟨w.heap.size + 2, 0, none⟩ u).cell? ⟨g, 0, none⟩ = some (.slice a (List.length M1) c) ∧ (w7.setCell ⟨w.heap.size + 2, 0, none⟩ u).cell? ⟨w.heap.size + 1, 1, none⟩ = some (.string x.z.t.n) ∧ (w7.setCell ⟨w.heap.size + 2, 0, none⟩ u).cell? ⟨w.heap.size + 1, 2, none⟩ = some (.string x.z.t.p) ∧ (w7.setCell ⟨w.heap.size + 2, 0, none⟩ u).cell? ⟨w.heap.size + 1, 3, none⟩ = some (x.z.vo) ∧ (w7.setCell ⟨w.heap.size + 2, 0, none⟩ u).cell? ⟨w.heap.size + 1, 4, none⟩ = some (x.z.va) ∧ (w7.setCell ⟨w.heap.size + 2, 0, none⟩ u).cell? ⟨w.heap.size + 1, 5, none⟩ = some (x.z.vc) ∧ (w7.setCell ⟨w.heap.size + 2, 0, none⟩ u).cell? ⟨w.heap.size + 1, 6, none⟩ = some (.int .i64 x.z.t.nd) ∧ (w7.setCell ⟨w.heap.size + 2, 0, none⟩ u).cell? ⟨w.heap.size + 1, 7, none⟩ = some (.int .i64 x.z.t.lf) ∧ (w7.setCell ⟨w.heap.size + 2, 0, none⟩ u).cell? ⟨w.heap.size + 1, 8, none⟩ = some (.int .i64 x.z.t.sq))) := fun u => by
      obtain ⟨a0, a1, a2, a3, a4, a5, a6, a7, a8⟩ := HS2.out w7 S7.out
      have o : ∀ b j, b ≠ w.heap.size + 2 → (w7.setCell ⟨w.heap.size + 2, 0, none⟩ u).cell? ⟨b, j, none⟩ = w7.cell? ⟨b, j, none⟩ := fun b j hb => World.cell?_setCell_other _ _ _ _ (by simp only [ne_eq, Addr.mk.injEq, not_and]; intro e; exact absurd e.symm hb)
      exact ⟨(o _ 0 HNe.out).trans a0, (o _ 1 (by omega)).trans a1, (o _ 2 (by omega)).trans a2, (o _ 3 (by omega)).trans a3, (o _ 4 (by omega)).trans a4, (o _ 5 (by omega)).trans a5, (o _ 6 (by omega)).trans a6, (o _ 7 (by omega)).trans a7, (o _ 8 (by omega)).trans a8⟩
    clear hq
    refine wpAnyH_ready (rs := [7]) (by kernel_rfl) (by simp) ?_
    refine AllReadyH.cons rfl (fun K9 hK => ?_) AllReadyH.nil
    go_simp
    refine hK.out _ _ (HSt.out _) (fun hHeld => ?_)
    clear hK K9
    refine wpAnyH_ready (rs := [8]) (by kernel_rfl) (by simp) ?_
    refine AllReadyH.cons rfl (fun K9 hK => ?_) AllReadyH.nil
    go_simp
    refine hK.out _ _ hHeld (fun hHeld => ?_)
    clear hK K9
    refine wpAnyH_done (by kernel_rfl) ?_ _
    clear hHeld HS2 HQ7 HDk HNe HSt S7 HP2 HCA HK HF HZ HR HBw HQ1 HK1 HG Hgq B6
    go_wp2_with fail
    try simp only [Exit.inBlock, Exit.then]
    refine bodyPost_ret (v := .tuple #[.agg #[.slice a (List.length M1) c], .bool true]) ?_ rfl (HE.out _)
    rw [results_c2 rfl]; go_simp
    first | done | exact ⟨rfl, rfl⟩
end Go.Proofs.YtlndgepoekllkaaGreatDoor
