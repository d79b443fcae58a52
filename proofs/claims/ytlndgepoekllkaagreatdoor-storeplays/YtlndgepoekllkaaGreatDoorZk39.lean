/- law17's do where the act is of the kind 0: its walk. -/
import Derived.Test.YtlndgepoekllkaaGreatDoorZk38
import Derived.Test.YtlndgepoekllkaaGreatDoorZk27
import Derived.Test.YtlndgepoekllkaaGreatDoorZk16
namespace Go.Proofs.YtlndgepoekllkaaGreatDoor
open Go.RowKit Go.ChangeMaps

theorem st10_heapD {W : World} {g : Nat} {a0 a1 a2 a3 a4 a5 a6 a7 a8 a9 : Value} {ty : TypeId} {z : Nat × Nat} (h : W.heap[g]? = some (.cells #[a0, a1, a2, a3, a4, a5, a6, a7, a8, a9] ty z)) (u0 u1 u2 u3 u4 u5 u6 u7 u8 u9 : Value) : (st10 W g u0 u1 u2 u3 u4 u5 u6 u7 u8 u9).heap[g]? = some (.cells #[u0, u1, u2, u3, u4, u5, u6, u7, u8, u9] ty z) := by
  have e : (((((((((((#[a0, a1, a2, a3, a4, a5, a6, a7, a8, a9] : Array Value).setIfInBounds 0 u0).setIfInBounds 1 u1).setIfInBounds 2 u2).setIfInBounds 3 u3).setIfInBounds 4 u4).setIfInBounds 5 u5).setIfInBounds 6 u6).setIfInBounds 7 u7).setIfInBounds 8 u8).setIfInBounds 9 u9) = #[u0, u1, u2, u3, u4, u5, u6, u7, u8, u9] := by kernel_rfl
  have h9 := (heap_setD (heap_setD (heap_setD (heap_setD (heap_setD (heap_setD (heap_setD (heap_setD (heap_setD (heap_setD h 0 u0) 1 u1) 2 u2) 3 u3) 4 u4) 5 u5) 6 u6) 7 u7) 8 u8) 9 u9)
  rw [e] at h9
  exact h9
set_option maxRecDepth 100000 in
set_option maxHeartbeats 8000000 in
theorem do_0 {w0 w : World} {s m : Nat} {E : List (ByteArray × Nat)} {X : Nat → Kp} {v : Value} {M : List KR} (h : RS w0 w s m E X v M) (x : Ac) (ho : OkAc w0 x) (_ : x.n.size ≤ 200) (_ : x.l.length ≤ 20) (hk : oneB x.z.t = true) (hT : ∀ W, Below w0.heap.size w0 W → UT W ∧ ML W) (hkd : x.kd = 0) :
    Calls Tryz.prog 7 #[stP s, .agg #[v], acV x] w fun e w' => DoQ w0 w s m E e w' := by
  obtain ⟨a0, c0, rfl⟩ := h.ks.get.1.form
  obtain ⟨w1, hw1⟩ : ∃ w1, w1 = w.alloc (.cells #[.slice a0 M.length c0] 27) := ⟨_, rfl⟩
  have B1 : Hid (Below w.heap.size w w1) := by show Below _ _ _; rw [hw1]; exact al_b _ _
  have hn1 : w1.heap[w.heap.size]? = some (.cells #[.slice a0 M.length c0] 27 (0, 0)) := by rw [hw1]; exact new_at _ _
  have C1 : Hid (∀ W, Below w1.heap.size w1 W → W.heap[w.heap.size]? = some (.cells #[.slice a0 M.length c0] 27 (0, 0))) := fun W h => (h.block _ (Array.getElem?_eq_some_iff.1 hn1).1).trans hn1
  clear hn1
  obtain ⟨w2, hw2⟩ : ∃ w2, w2 = w1.alloc (.cells (acA x) 38) := ⟨_, rfl⟩
  have B2 : Hid (Below w1.heap.size w1 w2) := by show Below _ _ _; rw [hw2]; exact al_b _ _
  have hn2 : w2.heap[(w.heap.size + 1)]? = some (.cells (acA x) 38 (0, 0)) := by rw [hw2]; rw [show w.heap.size + 1 = w1.heap.size by (rw [hw1]; simp)]; exact new_at _ _
  have C2 : Hid (∀ W, Below w2.heap.size w2 W → W.heap[(w.heap.size + 1)]? = some (.cells (acA x) 38 (0, 0))) := fun W h => (h.block _ (Array.getElem?_eq_some_iff.1 hn2).1).trans hn2
  clear hn2
  obtain ⟨w3, hw3⟩ : ∃ w3, w3 = w2.alloc (.cells #[.slice none 0 0] 27) := ⟨_, rfl⟩
  have B3 : Hid (Below w2.heap.size w2 w3) := by show Below _ _ _; rw [hw3]; exact al_b _ _
  have hn3 : w3.heap[(w.heap.size + 2)]? = some (.cells #[.slice none 0 0] 27 (0, 0)) := by rw [hw3]; rw [show w.heap.size + 2 = w2.heap.size by (rw [hw2, hw1]; simp)]; exact new_at _ _
  have C3 : Hid (∀ W, Below w3.heap.size w3 W → W.heap[(w.heap.size + 2)]? = some (.cells #[.slice none 0 0] 27 (0, 0))) := fun W h => (h.block _ (Array.getElem?_eq_some_iff.1 hn3).1).trans hn3
  clear hn3
  have hz3 : w3.heap.size = w.heap.size + 3 := by rw [hw3, hw2, hw1]; simp
  have hSF : ∀ k, SF m E k → w0.heap.size ≤ k ∧ k < w.heap.size := fun k hk => h.st.sf hk
  have hsz0 := h.bel.size
  have HBw : Hid (Below w.heap.size w w3) := B1.out.trans ((B2.out.trans (B3.out.mono B2.out.size)).mono B1.out.size)
  have HZ : Hid (w3.heap.size = w.heap.size + 3 ∧ w0.heap.size ≤ w.heap.size) := ⟨hz3, hsz0⟩
  have HF : Hid ((∀ k, (SF m E k ∨ k = w.heap.size + 2) → k < w3.heap.size) ∧ ∀ k, (SF m E k ∨ k = w.heap.size + 2) → w0.heap.size ≤ k) := ⟨fun k hk => by
    rcases hk with hk | rfl
    · have := (hSF k hk).2; omega
    · omega, fun k hk => by
    rcases hk with hk | rfl
    · exact (hSF k hk).1
    · omega⟩
  have HK : Hid (Pst (fun k => SF m E k ∨ k = w.heap.size + 2) w3 fun W => IsKs W (.slice a0 M.length c0) M) := h.ks.more HBw.out fun k hk => by
    rcases hk with hk | rfl
    · exact .inl hk
    · exact .inr (by omega)
  have HR : Hid (RS w0 w3 s m E X (.slice a0 M.length c0) M) := h.below HBw.out
  have HCA : Hid (Pst (SF m E) w3 fun W => W.cell? ⟨w.heap.size, 0, none⟩ = some (.slice a0 M.length c0) ∧ W.cell? ⟨w.heap.size + 1, 0, none⟩ = some (.int .i64 0) ∧ W.cell? ⟨w.heap.size + 1, 1, none⟩ = some (.string x.z.t.n) ∧ W.cell? ⟨w.heap.size + 1, 2, none⟩ = some (.string x.z.t.p) ∧ W.cell? ⟨w.heap.size + 1, 3, none⟩ = some (x.z.vo) ∧ W.cell? ⟨w.heap.size + 1, 4, none⟩ = some (x.z.va) ∧ W.cell? ⟨w.heap.size + 1, 5, none⟩ = some (x.z.vc) ∧ W.cell? ⟨w.heap.size + 1, 6, none⟩ = some (.int .i64 x.z.t.nd) ∧ W.cell? ⟨w.heap.size + 1, 7, none⟩ = some (.int .i64 x.z.t.lf) ∧ W.cell? ⟨w.heap.size + 1, 8, none⟩ = some (.int .i64 x.z.t.sq) ∧ W.cell? ⟨w.heap.size + 1, 9, none⟩ = some (.string x.n) ∧ W.cell? ⟨w.heap.size + 1, 10, none⟩ = some (.slice x.lp x.l.length x.lc) ∧ W.cell? ⟨w.heap.size + 1, 11, none⟩ = some (.int .i64 x.a) ∧ W.cell? ⟨w.heap.size + 1, 12, none⟩ = some (.int .i64 x.b) ∧ W.cell? ⟨w.heap.size + 1, 13, none⟩ = some (.int .i64 x.c) ∧ W.cell? ⟨w.heap.size + 1, 14, none⟩ = some (.int .i64 x.i) ∧ W.cell? ⟨w.heap.size + 2, 0, none⟩ = some (.slice none 0 0) ∧ (∀ j, W.frozen? ⟨w.heap.size + 2, j, none⟩ = false) ∧ W.heap[w.heap.size + 2]? = some (.cells #[.slice none 0 0] 27 (0, 0))) := fun W hW => by
    have h1 := pst_blk (F := SF m E) (C1.out w3 (B2.out.trans (B3.out.mono B2.out.size))) (fun e => by have := (hSF _ e).2; omega) W hW
    have h2 := pst_blk (F := SF m E) (C2.out w3 B3.out) (fun e => by have := (hSF _ e).2; omega) W hW
    have h3 := pst_blk (F := SF m E) (C3.out w3 (Below.refl _ _)) (fun e => by have := (hSF _ e).2; omega) W hW
    have c : ∀ j, W.cell? ⟨w.heap.size + 1, j, none⟩ = (acA x)[j]? := fun j => by rw [Lib.cell_of_heap h2]
    exact ⟨by rw [Lib.cell_of_heap h1]; rfl, (by rw [← hkd]; exact c 0), c 1, c 2, c 3, c 4, c 5, c 6, c 7, c 8, c 9, c 10, c 11, c 12, c 13, c 14, by rw [Lib.cell_of_heap h3]; rfl, fun j => Lib.frozen_of_heap h3 j, h3⟩
  have Hkd : Hid (x.kd = x.kd) := rfl
  clear hSF hsz0 hz3 C1 C2 C3 B1 B2 B3 Hkd
  go_enter Tryz.func7, Tryz.ntmps7
  go_upto_region 1 with fail
  rw [← hw1, ← hw2, ← hw3]
  clear hw1 hw2 hw3
  generalize hwq : w3 = wq at *
  clear hwq
  obtain ⟨cb, t0_, t1_, t2_, t3_, t4_, t5_, t6_, t7_, t8_, t9_, t10_, t11_, t12_, t13_, t14_, cr, fz, -⟩ := HCA.out wq (Stp.rfl' _ _)
  obtain ⟨Q, tt, z, hsm, hp⟩ := put_pair HR.out x.z ho.1.1 hk hT
  have HP2 : Hid (∀ W, Below wq.heap.size wq W → Calls Tryz.prog 12 #[stP s, ltV x.z] W fun e w' => ∃ t2 : LT, e = .returned (.tuple #[ltV t2, .int .i64 z]) ∧ t2.t = tt ∧ IsTy w' t2.t t2.vo t2.va t2.vc ∧ StQ w0 s m E Q W w') := hp.2
  have HTm : Hid (SmT tt) := hsm
  have HFlo : Hid (∀ k, (SF m E k ∨ k = w.heap.size + 2) → w0.heap.size ≤ k) := HF.out.2
  have HPr : Hid (∀ (G : Nat → Prop) W y, (∀ k, G k → k < W.heap.size) → Pst G W (fun W => IsKs W (.slice a0 M.length c0) M) → Below wq.heap.size wq W → y.t = x.z.t → Pst G W (fun W => IsTy W y.t y.vo y.va y.vc) → Calls Tryz.prog 16 #[.agg #[.slice a0 M.length c0], ltV y] W fun e w' => ∃ a c M1 yT, e = .returned (.agg #[.slice a (List.length M1) c, .string (LT.t yT).n, .string yT.t.p, yT.vo, yT.va, yT.vc, .int .i64 yT.t.nd, .int .i64 yT.t.lf, .int .i64 yT.t.sq, .int .i64 z]) ∧ yT.t = tt ∧ Q M1 ∧ Pst G w' (fun W => IsKs W (.slice a M1.length c) M1 ∧ IsTy W yT.t yT.vo yT.va yT.vc) ∧ Below W.heap.size W w') := hp.1
  have HRf : Hid (∀ (G : Nat → Prop) W, (∀ k, G k → k < W.heap.size) → (∀ k, G k → w0.heap.size ≤ k) → Below wq.heap.size wq W → Calls Tryz.prog 17 #[ltV x.z] W fun e w' => ∃ y : LT, e = .returned (ltV y) ∧ y.t = x.z.t ∧ Pst G w' (fun W => IsTy W y.t y.vo y.va y.vc) ∧ Below W.heap.size W w') := fun G W hG hG0 hb => by
    have hb0 : Below w0.heap.size w0 W := HR.out.bel.trans (hb.mono HR.out.bel.size)
    obtain ⟨-, -, sm, -⟩ := one_okQ hk
    refine (refN_any x.z W (ho.1.1.below hb0) (by have := sm.1; omega) (by have := sm.2.1; omega)).mono ?_
    rintro e w' ⟨y, rfl, hy, hN, hI, hb'⟩
    exact ⟨y, rfl, hy, pst_ref hG0 hG ho.1.1 hy hN hI, hb'⟩
  have HKm : Hid (∀ (G : Nat → Prop) W, Below wq.heap.size wq W → (∀ k, G k → (SF m E k ∨ k = w.heap.size + 2) ∨ wq.heap.size ≤ k) → Pst G W (fun W => IsKs W (.slice a0 M.length c0) M)) := fun G W hb hG => HK.out.more hb hG
  have HS : Hid (∀ W, Below wq.heap.size wq W → (W.cell? ⟨w.heap.size, 0, none⟩ = some (.slice a0 M.length c0) ∧ W.cell? ⟨w.heap.size + 1, 1, none⟩ = some (.string x.z.t.n) ∧ W.cell? ⟨w.heap.size + 1, 2, none⟩ = some (.string x.z.t.p) ∧ W.cell? ⟨w.heap.size + 1, 3, none⟩ = some (x.z.vo) ∧ W.cell? ⟨w.heap.size + 1, 4, none⟩ = some (x.z.va) ∧ W.cell? ⟨w.heap.size + 1, 5, none⟩ = some (x.z.vc) ∧ W.cell? ⟨w.heap.size + 1, 6, none⟩ = some (.int .i64 x.z.t.nd) ∧ W.cell? ⟨w.heap.size + 1, 7, none⟩ = some (.int .i64 x.z.t.lf) ∧ W.cell? ⟨w.heap.size + 1, 8, none⟩ = some (.int .i64 x.z.t.sq))) := fun W hb => by
    obtain ⟨cb, t0_, t1_, t2_, t3_, t4_, t5_, t6_, t7_, t8_, t9_, t10_, t11_, t12_, t13_, t14_, cr, fz, -⟩ := HCA.out W (Stp.of _ hb)
    exact ⟨cb, t1_, t2_, t3_, t4_, t5_, t6_, t7_, t8_⟩
  have HFl : Hid (∀ W, Below wq.heap.size wq W → ∀ k, (SF m E k ∨ k = w.heap.size + 2) → k < W.heap.size) := fun W hb k hk => Nat.lt_of_lt_of_le (HF.out.1 k hk) hb.size
  have HG1 : Hid (∀ g W, Below wq.heap.size wq W → g < W.heap.size → ∀ k, ((SF m E k ∨ k = w.heap.size + 2) ∨ k = g) → k < W.heap.size) := fun g W hb hg k hk => by
    rcases hk with hk | rfl
    · exact HFl.out W hb k hk
    · exact hg
  have HG0 : Hid (∀ g, wq.heap.size ≤ g → ∀ k, ((SF m E k ∨ k = w.heap.size + 2) ∨ k = g) → w0.heap.size ≤ k) := fun g hg k hk => by
    rcases hk with hk | rfl
    · exact HF.out.2 k hk
    · have := HZ.out.1; have := HZ.out.2; omega
  have HGm : Hid (∀ g, wq.heap.size ≤ g → ∀ k, ((SF m E k ∨ k = w.heap.size + 2) ∨ k = g) → (SF m E k ∨ k = w.heap.size + 2) ∨ wq.heap.size ≤ k) := fun g hg k hk => by
    rcases hk with hk | rfl
    · exact .inl hk
    · exact .inr hg
  clear hp
  go_upto_region 3 with fail
  clear cb t0_ t1_ t2_ t3_ t4_ t5_ t6_ t7_ t8_ t9_ t10_ t11_ t12_ t13_ t14_ cr fz
  go_cut [8] (fun p wx => ∃ g a c M1 yT, p = .pointer (some ⟨g, 0, none⟩) ∧ Hid (LT.t yT = tt) ∧ Hid (Q M1) ∧ Hid (Pst (fun k => SF m E k ∨ k = w.heap.size + 2) wx fun W => IsKs W (.slice a M1.length c) M1 ∧ IsTy W yT.t yT.vo yT.va yT.vc) ∧ Hid (wx.heap[g]? = some (.cells #[.slice a (List.length M1) c, .string yT.t.n, .string yT.t.p, yT.vo, yT.va, yT.vc, .int .i64 yT.t.nd, .int .i64 yT.t.lf, .int .i64 yT.t.sq, .int .i64 z] 65 (0, 0))) ∧ Hid (wq.heap.size ≤ g) ∧ Hid (Below wq.heap.size wq wx))
  case first =>
    clear HCA HK HF HZ HBw HP2 HR
    have HDk : Hid (Below wq.heap.size wq wq.drew) := (Below.refl _ _).drew
    have HDz : Hid (wq.drew.heap.size = wq.heap.size) := rfl
    go_wp2_with fail
    refine wp_region_held_drew (S := fun W => W.cell? ⟨w.heap.size, 0, none⟩ = some (.slice a0 M.length c0) ∧ W.cell? ⟨w.heap.size + 1, 1, none⟩ = some (.string x.z.t.n) ∧ W.cell? ⟨w.heap.size + 1, 2, none⟩ = some (.string x.z.t.p) ∧ W.cell? ⟨w.heap.size + 1, 3, none⟩ = some (x.z.vo) ∧ W.cell? ⟨w.heap.size + 1, 4, none⟩ = some (x.z.va) ∧ W.cell? ⟨w.heap.size + 1, 5, none⟩ = some (x.z.vc) ∧ W.cell? ⟨w.heap.size + 1, 6, none⟩ = some (.int .i64 x.z.t.nd) ∧ W.cell? ⟨w.heap.size + 1, 7, none⟩ = some (.int .i64 x.z.t.lf) ∧ W.cell? ⟨w.heap.size + 1, 8, none⟩ = some (.int .i64 x.z.t.sq)) (by kernel_rfl) (HS.out _ HDk.out) (fun hHeld => ?_)
    generalize wq.drew = wd at *
    refine wpAnyH_take (i := 0) (v := ?_) rfl (by kernel_rfl) (by kernel_rfl) (by kernel_rfl) (fun _ _ _ h => h) (Or.inl ⟨by rfl, ?_⟩) hHeld ?_
    rotate_left 1
    · intro w9 hSw; obtain ⟨g0, g1, g2, g3, g4, g5, g6, g7, g8⟩ := hSw; go_simp; try with_reducible rfl
    change wpAnyH _ _ _ _ _ _ _ (Act.put _ (some 23) _) _
    simp only [Act.put, List.setIfInBounds_toArray, List.set_cons_zero, List.set_cons_succ]
    refine wpAnyH_take (i := 1) (v := ?_) rfl (by kernel_rfl) (by kernel_rfl) (by kernel_rfl) (fun _ _ _ h => h) (Or.inl ⟨by rfl, ?_⟩) hHeld ?_
    rotate_left 1
    · intro w9 hSw; obtain ⟨g0, g1, g2, g3, g4, g5, g6, g7, g8⟩ := hSw; go_simp; try with_reducible rfl
    change wpAnyH _ _ _ _ _ _ _ (Act.put _ (some 24) _) _
    simp only [Act.put, List.setIfInBounds_toArray, List.set_cons_zero, List.set_cons_succ]
    refine wpAnyH_take (i := 2) (v := ?_) rfl (by kernel_rfl) (by kernel_rfl) (by kernel_rfl) (fun _ _ _ h => h) (Or.inl ⟨by rfl, ?_⟩) hHeld ?_
    rotate_left 1
    · intro w9 hSw; obtain ⟨g0, g1, g2, g3, g4, g5, g6, g7, g8⟩ := hSw; go_simp; try with_reducible rfl
    change wpAnyH _ _ _ _ _ _ _ (Act.put _ (some 25) _) _
    simp only [Act.put, List.setIfInBounds_toArray, List.set_cons_zero, List.set_cons_succ]
    refine wpAnyH_ready (rs := [3, 5]) (by kernel_rfl) (by simp) ?_
    refine AllReadyH.cons rfl (fun K9 hK => ?_) (AllReadyH.cons rfl (fun K9 hK => ?_) AllReadyH.nil)
    · go_simp
      refine (HRf.out _ wd (HFl.out _ HDk.out) HFlo.out HDk.out).mono ?_
      rintro e w12 ⟨y, rfl, hy, hyI, hb⟩
      have B12 : Hid (Below wq.heap.size wq w12) := Below.trans HDk.out (hb.mono (Below.size HDk.out))
      have HyI := hyI
      have Hb12 := hb
      go_simp
      refine hK.out _ _ (HS.out _ B12.out) (fun hHeld => ?_)
      clear hK K9
      refine wpAnyH_ready (rs := [4, 5]) (by kernel_rfl) (by simp) ?_
      refine AllReadyH.cons rfl (fun K9 hK => ?_) (AllReadyH.cons rfl (fun K9 hK => ?_) AllReadyH.nil)
      · go_simp
        refine (HPr.out _ w12 y (HFl.out _ B12.out) (HKm.out _ w12 B12.out fun k hk => .inl hk) B12.out hy HyI).mono ?_
        rintro e w14 ⟨a, c, M1, yT, rfl, hyT, hQ, hP9, hb⟩
        have B14 : Hid (Below wq.heap.size wq w14) := Below.trans B12.out (hb.mono (Below.size B12.out))
        have HTe : Hid (LT.t yT = tt) := hyT
        clear hyT
        go_simp
        refine hK.out _ _ (HS.out _ B14.out) (fun hHeld => ?_)
        clear hK K9
        refine wpAnyH_ready (rs := [5]) (by kernel_rfl) (by simp) ?_
        refine AllReadyH.cons rfl (fun K9 hK => ?_) AllReadyH.nil
        go_simp
        have B15 : Hid (Below wq.heap.size wq (w14.alloc (.cells #[.slice none 0 0, .string ⟨#[]⟩, .string ⟨#[]⟩, .slice none 0 0, .slice none 0 0, .slice none 0 0, .int .i64 0, .int .i64 0, .int .i64 0, .int .i64 0] 65))) := Below.trans B14.out ((al_b w14 _).mono (Below.size B14.out))
        refine hK.out _ _ (HS.out _ B15.out) (fun hHeld => ?_)
        clear hK K9
        have hkE : (w14.alloc (.cells #[.slice none 0 0, .string ⟨#[]⟩, .string ⟨#[]⟩, .slice none 0 0, .slice none 0 0, .slice none 0 0, .int .i64 0, .int .i64 0, .int .i64 0, .int .i64 0] 65)).heap[w14.heap.size]? = some (.cells #[.slice none 0 0, .string ⟨#[]⟩, .string ⟨#[]⟩, .slice none 0 0, .slice none 0 0, .slice none 0 0, .int .i64 0, .int .i64 0, .int .i64 0, .int .i64 0] 65 (0, 0)) := new_at w14 (.cells #[.slice none 0 0, .string ⟨#[]⟩, .string ⟨#[]⟩, .slice none 0 0, .slice none 0 0, .slice none 0 0, .int .i64 0, .int .i64 0, .int .i64 0, .int .i64 0] 65)
        have m0 : (w14.alloc (.cells #[.slice none 0 0, .string ⟨#[]⟩, .string ⟨#[]⟩, .slice none 0 0, .slice none 0 0, .slice none 0 0, .int .i64 0, .int .i64 0, .int .i64 0, .int .i64 0] 65)).cell? ⟨w14.heap.size, 0, none⟩ = some (.slice none 0 0) := by rw [Lib.cell_of_heap hkE]; rfl
        have m1 : (w14.alloc (.cells #[.slice none 0 0, .string ⟨#[]⟩, .string ⟨#[]⟩, .slice none 0 0, .slice none 0 0, .slice none 0 0, .int .i64 0, .int .i64 0, .int .i64 0, .int .i64 0] 65)).cell? ⟨w14.heap.size, 1, none⟩ = some (.string ⟨#[]⟩) := by rw [Lib.cell_of_heap hkE]; rfl
        have m2 : (w14.alloc (.cells #[.slice none 0 0, .string ⟨#[]⟩, .string ⟨#[]⟩, .slice none 0 0, .slice none 0 0, .slice none 0 0, .int .i64 0, .int .i64 0, .int .i64 0, .int .i64 0] 65)).cell? ⟨w14.heap.size, 2, none⟩ = some (.string ⟨#[]⟩) := by rw [Lib.cell_of_heap hkE]; rfl
        have m3 : (w14.alloc (.cells #[.slice none 0 0, .string ⟨#[]⟩, .string ⟨#[]⟩, .slice none 0 0, .slice none 0 0, .slice none 0 0, .int .i64 0, .int .i64 0, .int .i64 0, .int .i64 0] 65)).cell? ⟨w14.heap.size, 3, none⟩ = some (.slice none 0 0) := by rw [Lib.cell_of_heap hkE]; rfl
        have m4 : (w14.alloc (.cells #[.slice none 0 0, .string ⟨#[]⟩, .string ⟨#[]⟩, .slice none 0 0, .slice none 0 0, .slice none 0 0, .int .i64 0, .int .i64 0, .int .i64 0, .int .i64 0] 65)).cell? ⟨w14.heap.size, 4, none⟩ = some (.slice none 0 0) := by rw [Lib.cell_of_heap hkE]; rfl
        have m5 : (w14.alloc (.cells #[.slice none 0 0, .string ⟨#[]⟩, .string ⟨#[]⟩, .slice none 0 0, .slice none 0 0, .slice none 0 0, .int .i64 0, .int .i64 0, .int .i64 0, .int .i64 0] 65)).cell? ⟨w14.heap.size, 5, none⟩ = some (.slice none 0 0) := by rw [Lib.cell_of_heap hkE]; rfl
        have m6 : (w14.alloc (.cells #[.slice none 0 0, .string ⟨#[]⟩, .string ⟨#[]⟩, .slice none 0 0, .slice none 0 0, .slice none 0 0, .int .i64 0, .int .i64 0, .int .i64 0, .int .i64 0] 65)).cell? ⟨w14.heap.size, 6, none⟩ = some (.int .i64 0) := by rw [Lib.cell_of_heap hkE]; rfl
        have m7 : (w14.alloc (.cells #[.slice none 0 0, .string ⟨#[]⟩, .string ⟨#[]⟩, .slice none 0 0, .slice none 0 0, .slice none 0 0, .int .i64 0, .int .i64 0, .int .i64 0, .int .i64 0] 65)).cell? ⟨w14.heap.size, 7, none⟩ = some (.int .i64 0) := by rw [Lib.cell_of_heap hkE]; rfl
        have m8 : (w14.alloc (.cells #[.slice none 0 0, .string ⟨#[]⟩, .string ⟨#[]⟩, .slice none 0 0, .slice none 0 0, .slice none 0 0, .int .i64 0, .int .i64 0, .int .i64 0, .int .i64 0] 65)).cell? ⟨w14.heap.size, 8, none⟩ = some (.int .i64 0) := by rw [Lib.cell_of_heap hkE]; rfl
        have m9 : (w14.alloc (.cells #[.slice none 0 0, .string ⟨#[]⟩, .string ⟨#[]⟩, .slice none 0 0, .slice none 0 0, .slice none 0 0, .int .i64 0, .int .i64 0, .int .i64 0, .int .i64 0] 65)).cell? ⟨w14.heap.size, 9, none⟩ = some (.int .i64 0) := by rw [Lib.cell_of_heap hkE]; rfl
        have mf : ∀ j, (w14.alloc (.cells #[.slice none 0 0, .string ⟨#[]⟩, .string ⟨#[]⟩, .slice none 0 0, .slice none 0 0, .slice none 0 0, .int .i64 0, .int .i64 0, .int .i64 0, .int .i64 0] 65)).frozen? ⟨w14.heap.size, j, none⟩ = false := fun j => Lib.frozen_of_heap hkE j
        have hgq : Hid (wq.heap.size ≤ w14.heap.size) := by show _ ≤ _; exact B14.out.size
        have HBe : Hid (Below wq.heap.size wq (((((((((((w14.alloc (.cells #[.slice none 0 0, .string ⟨#[]⟩, .string ⟨#[]⟩, .slice none 0 0, .slice none 0 0, .slice none 0 0, .int .i64 0, .int .i64 0, .int .i64 0, .int .i64 0] 65)).setCell ⟨w14.heap.size, 0, none⟩ (.slice a (List.length M1) c)).setCell ⟨w14.heap.size, 1, none⟩ (.string yT.t.n)).setCell ⟨w14.heap.size, 2, none⟩ (.string yT.t.p)).setCell ⟨w14.heap.size, 3, none⟩ (yT.vo)).setCell ⟨w14.heap.size, 4, none⟩ (yT.va)).setCell ⟨w14.heap.size, 5, none⟩ (yT.vc)).setCell ⟨w14.heap.size, 6, none⟩ (.int .i64 yT.t.nd)).setCell ⟨w14.heap.size, 7, none⟩ (.int .i64 yT.t.lf)).setCell ⟨w14.heap.size, 8, none⟩ (.int .i64 yT.t.sq)).setCell ⟨w14.heap.size, 9, none⟩ (.int .i64 z))) := by
          have hg9 := hgq.out
          exact ((((((((((B15.out.setCell (p := ⟨w14.heap.size, 0, none⟩) hg9 (.slice a (List.length M1) c)).setCell (p := ⟨w14.heap.size, 1, none⟩) hg9 (.string yT.t.n)).setCell (p := ⟨w14.heap.size, 2, none⟩) hg9 (.string yT.t.p)).setCell (p := ⟨w14.heap.size, 3, none⟩) hg9 (yT.vo)).setCell (p := ⟨w14.heap.size, 4, none⟩) hg9 (yT.va)).setCell (p := ⟨w14.heap.size, 5, none⟩) hg9 (yT.vc)).setCell (p := ⟨w14.heap.size, 6, none⟩) hg9 (.int .i64 yT.t.nd)).setCell (p := ⟨w14.heap.size, 7, none⟩) hg9 (.int .i64 yT.t.lf)).setCell (p := ⟨w14.heap.size, 8, none⟩) hg9 (.int .i64 yT.t.sq)).setCell (p := ⟨w14.heap.size, 9, none⟩) hg9 (.int .i64 z))
        have HHe : Hid ((((((((((((w14.alloc (.cells #[.slice none 0 0, .string ⟨#[]⟩, .string ⟨#[]⟩, .slice none 0 0, .slice none 0 0, .slice none 0 0, .int .i64 0, .int .i64 0, .int .i64 0, .int .i64 0] 65)).setCell ⟨w14.heap.size, 0, none⟩ (.slice a (List.length M1) c)).setCell ⟨w14.heap.size, 1, none⟩ (.string yT.t.n)).setCell ⟨w14.heap.size, 2, none⟩ (.string yT.t.p)).setCell ⟨w14.heap.size, 3, none⟩ (yT.vo)).setCell ⟨w14.heap.size, 4, none⟩ (yT.va)).setCell ⟨w14.heap.size, 5, none⟩ (yT.vc)).setCell ⟨w14.heap.size, 6, none⟩ (.int .i64 yT.t.nd)).setCell ⟨w14.heap.size, 7, none⟩ (.int .i64 yT.t.lf)).setCell ⟨w14.heap.size, 8, none⟩ (.int .i64 yT.t.sq)).setCell ⟨w14.heap.size, 9, none⟩ (.int .i64 z)).heap[w14.heap.size]? = some (.cells #[.slice a (List.length M1) c, .string yT.t.n, .string yT.t.p, yT.vo, yT.va, yT.vc, .int .i64 yT.t.nd, .int .i64 yT.t.lf, .int .i64 yT.t.sq, .int .i64 z] 65 (0, 0))) := by
          show _ = _
          exact st10_heapD hkE _ _ _ _ _ _ _ _ _ _
        have HPe : Hid (Pst (fun k => SF m E k ∨ k = w.heap.size + 2) (((((((((((w14.alloc (.cells #[.slice none 0 0, .string ⟨#[]⟩, .string ⟨#[]⟩, .slice none 0 0, .slice none 0 0, .slice none 0 0, .int .i64 0, .int .i64 0, .int .i64 0, .int .i64 0] 65)).setCell ⟨w14.heap.size, 0, none⟩ (.slice a (List.length M1) c)).setCell ⟨w14.heap.size, 1, none⟩ (.string yT.t.n)).setCell ⟨w14.heap.size, 2, none⟩ (.string yT.t.p)).setCell ⟨w14.heap.size, 3, none⟩ (yT.vo)).setCell ⟨w14.heap.size, 4, none⟩ (yT.va)).setCell ⟨w14.heap.size, 5, none⟩ (yT.vc)).setCell ⟨w14.heap.size, 6, none⟩ (.int .i64 yT.t.nd)).setCell ⟨w14.heap.size, 7, none⟩ (.int .i64 yT.t.lf)).setCell ⟨w14.heap.size, 8, none⟩ (.int .i64 yT.t.sq)).setCell ⟨w14.heap.size, 9, none⟩ (.int .i64 z)) fun W => IsKs W (.slice a M1.length c) M1 ∧ IsTy W yT.t yT.vo yT.va yT.vc) := Pst.below hP9 (((((((((((al_b w14 (.cells #[.slice none 0 0, .string ⟨#[]⟩, .string ⟨#[]⟩, .slice none 0 0, .slice none 0 0, .slice none 0 0, .int .i64 0, .int .i64 0, .int .i64 0, .int .i64 0] 65)).setCell (p := ⟨w14.heap.size, 0, none⟩) (Nat.le_refl _) (.slice a (List.length M1) c)).setCell (p := ⟨w14.heap.size, 1, none⟩) (Nat.le_refl _) (.string yT.t.n)).setCell (p := ⟨w14.heap.size, 2, none⟩) (Nat.le_refl _) (.string yT.t.p)).setCell (p := ⟨w14.heap.size, 3, none⟩) (Nat.le_refl _) (yT.vo)).setCell (p := ⟨w14.heap.size, 4, none⟩) (Nat.le_refl _) (yT.va)).setCell (p := ⟨w14.heap.size, 5, none⟩) (Nat.le_refl _) (yT.vc)).setCell (p := ⟨w14.heap.size, 6, none⟩) (Nat.le_refl _) (.int .i64 yT.t.nd)).setCell (p := ⟨w14.heap.size, 7, none⟩) (Nat.le_refl _) (.int .i64 yT.t.lf)).setCell (p := ⟨w14.heap.size, 8, none⟩) (Nat.le_refl _) (.int .i64 yT.t.sq)).setCell (p := ⟨w14.heap.size, 9, none⟩) (Nat.le_refl _) (.int .i64 z))
        have HQe : Hid (Q M1) := hQ
        generalize hWE : (w14.alloc (.cells #[.slice none 0 0, .string ⟨#[]⟩, .string ⟨#[]⟩, .slice none 0 0, .slice none 0 0, .slice none 0 0, .int .i64 0, .int .i64 0, .int .i64 0, .int .i64 0] 65)) = WE at *
        clear hWE hkE
        refine wpAnyH_ready (rs := [6]) (by kernel_rfl) (by simp) ?_
        refine AllReadyH.cons rfl (fun K9 hK => ?_) AllReadyH.nil
        go_simp
        refine hK.out _ _ (HS.out _ HBe.out) (fun hHeld => ?_)
        clear hK K9
        refine wpAnyH_done (by kernel_rfl) ?_ _
        clear hHeld HS HPr HRf HKm HFl HG1 HG0 HGm mf m0 m1 m2 m3 m4 m5 m6 m7 m8 m9
        try go_wp2_with fail
        go_meet
        exact ⟨_, a, c, M1, yT, rfl, HTe, HQe, HPe, HHe, hgq, HBe⟩
      · go_simp
        have B13 : Hid (Below wq.heap.size wq (w12.alloc (.cells #[.slice none 0 0, .string ⟨#[]⟩, .string ⟨#[]⟩, .slice none 0 0, .slice none 0 0, .slice none 0 0, .int .i64 0, .int .i64 0, .int .i64 0, .int .i64 0] 65))) := Below.trans B12.out ((al_b w12 _).mono (Below.size B12.out))
        refine hK.out _ _ (HS.out _ B13.out) (fun hHeld => ?_)
        clear hK K9
        have hg0 : wq.heap.size ≤ w12.heap.size := B12.out.size
        have hgl : w12.heap.size < (w12.alloc (.cells #[.slice none 0 0, .string ⟨#[]⟩, .string ⟨#[]⟩, .slice none 0 0, .slice none 0 0, .slice none 0 0, .int .i64 0, .int .i64 0, .int .i64 0, .int .i64 0] 65)).heap.size := (Array.getElem?_eq_some_iff.1 (new_at w12 (.cells #[.slice none 0 0, .string ⟨#[]⟩, .string ⟨#[]⟩, .slice none 0 0, .slice none 0 0, .slice none 0 0, .int .i64 0, .int .i64 0, .int .i64 0, .int .i64 0] 65))).1
        have hyI2 : Pst (fun k => (SF m E k ∨ k = w.heap.size + 2) ∨ k = w12.heap.size) (w12.alloc (.cells #[.slice none 0 0, .string ⟨#[]⟩, .string ⟨#[]⟩, .slice none 0 0, .slice none 0 0, .slice none 0 0, .int .i64 0, .int .i64 0, .int .i64 0, .int .i64 0] 65)) (fun W => IsTy W y.t y.vo y.va y.vc) := HyI.more (al_b w12 _) fun k hk => by
          rcases hk with hk | rfl
          · exact .inl hk
          · exact .inr (Nat.le_refl _)
        refine wpAnyH_ready (rs := [4]) (by kernel_rfl) (by simp) ?_
        refine AllReadyH.cons rfl (fun K9 hK => ?_) AllReadyH.nil
        go_simp
        refine (HPr.out _ (w12.alloc (.cells #[.slice none 0 0, .string ⟨#[]⟩, .string ⟨#[]⟩, .slice none 0 0, .slice none 0 0, .slice none 0 0, .int .i64 0, .int .i64 0, .int .i64 0, .int .i64 0] 65)) y (HG1.out w12.heap.size _ B13.out hgl) (HKm.out _ (w12.alloc (.cells #[.slice none 0 0, .string ⟨#[]⟩, .string ⟨#[]⟩, .slice none 0 0, .slice none 0 0, .slice none 0 0, .int .i64 0, .int .i64 0, .int .i64 0, .int .i64 0] 65)) B13.out (HGm.out w12.heap.size hg0)) B13.out hy hyI2).mono ?_
        rintro e w14 ⟨a, c, M1, yT, rfl, hyT, hQ, hP9, hb⟩
        have B14 : Hid (Below wq.heap.size wq w14) := Below.trans B13.out (hb.mono (Below.size B13.out))
        have HTe : Hid (LT.t yT = tt) := hyT
        clear hyT
        go_simp
        refine hK.out _ _ (HS.out _ B14.out) (fun hHeld => ?_)
        clear hK K9
        have hkE : (w14).heap[w12.heap.size]? = some (.cells #[.slice none 0 0, .string ⟨#[]⟩, .string ⟨#[]⟩, .slice none 0 0, .slice none 0 0, .slice none 0 0, .int .i64 0, .int .i64 0, .int .i64 0, .int .i64 0] 65 (0, 0)) := (Below.block hb _ hgl).trans (new_at w12 (.cells #[.slice none 0 0, .string ⟨#[]⟩, .string ⟨#[]⟩, .slice none 0 0, .slice none 0 0, .slice none 0 0, .int .i64 0, .int .i64 0, .int .i64 0, .int .i64 0] 65))
        have m0 : (w14).cell? ⟨w12.heap.size, 0, none⟩ = some (.slice none 0 0) := by rw [Lib.cell_of_heap hkE]; rfl
        have m1 : (w14).cell? ⟨w12.heap.size, 1, none⟩ = some (.string ⟨#[]⟩) := by rw [Lib.cell_of_heap hkE]; rfl
        have m2 : (w14).cell? ⟨w12.heap.size, 2, none⟩ = some (.string ⟨#[]⟩) := by rw [Lib.cell_of_heap hkE]; rfl
        have m3 : (w14).cell? ⟨w12.heap.size, 3, none⟩ = some (.slice none 0 0) := by rw [Lib.cell_of_heap hkE]; rfl
        have m4 : (w14).cell? ⟨w12.heap.size, 4, none⟩ = some (.slice none 0 0) := by rw [Lib.cell_of_heap hkE]; rfl
        have m5 : (w14).cell? ⟨w12.heap.size, 5, none⟩ = some (.slice none 0 0) := by rw [Lib.cell_of_heap hkE]; rfl
        have m6 : (w14).cell? ⟨w12.heap.size, 6, none⟩ = some (.int .i64 0) := by rw [Lib.cell_of_heap hkE]; rfl
        have m7 : (w14).cell? ⟨w12.heap.size, 7, none⟩ = some (.int .i64 0) := by rw [Lib.cell_of_heap hkE]; rfl
        have m8 : (w14).cell? ⟨w12.heap.size, 8, none⟩ = some (.int .i64 0) := by rw [Lib.cell_of_heap hkE]; rfl
        have m9 : (w14).cell? ⟨w12.heap.size, 9, none⟩ = some (.int .i64 0) := by rw [Lib.cell_of_heap hkE]; rfl
        have mf : ∀ j, (w14).frozen? ⟨w12.heap.size, j, none⟩ = false := fun j => Lib.frozen_of_heap hkE j
        have hgq : Hid (wq.heap.size ≤ w12.heap.size) := by show _ ≤ _; exact hg0
        have HBe : Hid (Below wq.heap.size wq (((((((((((w14).setCell ⟨w12.heap.size, 0, none⟩ (.slice a (List.length M1) c)).setCell ⟨w12.heap.size, 1, none⟩ (.string yT.t.n)).setCell ⟨w12.heap.size, 2, none⟩ (.string yT.t.p)).setCell ⟨w12.heap.size, 3, none⟩ (yT.vo)).setCell ⟨w12.heap.size, 4, none⟩ (yT.va)).setCell ⟨w12.heap.size, 5, none⟩ (yT.vc)).setCell ⟨w12.heap.size, 6, none⟩ (.int .i64 yT.t.nd)).setCell ⟨w12.heap.size, 7, none⟩ (.int .i64 yT.t.lf)).setCell ⟨w12.heap.size, 8, none⟩ (.int .i64 yT.t.sq)).setCell ⟨w12.heap.size, 9, none⟩ (.int .i64 z))) := by
          have hg9 := hgq.out
          exact ((((((((((B14.out.setCell (p := ⟨w12.heap.size, 0, none⟩) hg9 (.slice a (List.length M1) c)).setCell (p := ⟨w12.heap.size, 1, none⟩) hg9 (.string yT.t.n)).setCell (p := ⟨w12.heap.size, 2, none⟩) hg9 (.string yT.t.p)).setCell (p := ⟨w12.heap.size, 3, none⟩) hg9 (yT.vo)).setCell (p := ⟨w12.heap.size, 4, none⟩) hg9 (yT.va)).setCell (p := ⟨w12.heap.size, 5, none⟩) hg9 (yT.vc)).setCell (p := ⟨w12.heap.size, 6, none⟩) hg9 (.int .i64 yT.t.nd)).setCell (p := ⟨w12.heap.size, 7, none⟩) hg9 (.int .i64 yT.t.lf)).setCell (p := ⟨w12.heap.size, 8, none⟩) hg9 (.int .i64 yT.t.sq)).setCell (p := ⟨w12.heap.size, 9, none⟩) hg9 (.int .i64 z))
        have HHe : Hid ((((((((((((w14).setCell ⟨w12.heap.size, 0, none⟩ (.slice a (List.length M1) c)).setCell ⟨w12.heap.size, 1, none⟩ (.string yT.t.n)).setCell ⟨w12.heap.size, 2, none⟩ (.string yT.t.p)).setCell ⟨w12.heap.size, 3, none⟩ (yT.vo)).setCell ⟨w12.heap.size, 4, none⟩ (yT.va)).setCell ⟨w12.heap.size, 5, none⟩ (yT.vc)).setCell ⟨w12.heap.size, 6, none⟩ (.int .i64 yT.t.nd)).setCell ⟨w12.heap.size, 7, none⟩ (.int .i64 yT.t.lf)).setCell ⟨w12.heap.size, 8, none⟩ (.int .i64 yT.t.sq)).setCell ⟨w12.heap.size, 9, none⟩ (.int .i64 z)).heap[w12.heap.size]? = some (.cells #[.slice a (List.length M1) c, .string yT.t.n, .string yT.t.p, yT.vo, yT.va, yT.vc, .int .i64 yT.t.nd, .int .i64 yT.t.lf, .int .i64 yT.t.sq, .int .i64 z] 65 (0, 0))) := by
          show _ = _
          exact st10_heapD hkE _ _ _ _ _ _ _ _ _ _
        have HPe : Hid (Pst (fun k => SF m E k ∨ k = w.heap.size + 2) (((((((((((w14).setCell ⟨w12.heap.size, 0, none⟩ (.slice a (List.length M1) c)).setCell ⟨w12.heap.size, 1, none⟩ (.string yT.t.n)).setCell ⟨w12.heap.size, 2, none⟩ (.string yT.t.p)).setCell ⟨w12.heap.size, 3, none⟩ (yT.vo)).setCell ⟨w12.heap.size, 4, none⟩ (yT.va)).setCell ⟨w12.heap.size, 5, none⟩ (yT.vc)).setCell ⟨w12.heap.size, 6, none⟩ (.int .i64 yT.t.nd)).setCell ⟨w12.heap.size, 7, none⟩ (.int .i64 yT.t.lf)).setCell ⟨w12.heap.size, 8, none⟩ (.int .i64 yT.t.sq)).setCell ⟨w12.heap.size, 9, none⟩ (.int .i64 z)) fun W => IsKs W (.slice a M1.length c) M1 ∧ IsTy W yT.t yT.vo yT.va yT.vc) := Pst.weaken (F' := fun k => (SF m E k ∨ k = w.heap.size + 2) ∨ k = _) (Pst.move hP9 (stp_set (stp_set (stp_set (stp_set (stp_set (stp_set (stp_set (stp_set (stp_set (stp_set (Stp.rfl' _ _) (.inl (.inr rfl)) 0 _) (.inl (.inr rfl)) 1 _) (.inl (.inr rfl)) 2 _) (.inl (.inr rfl)) 3 _) (.inl (.inr rfl)) 4 _) (.inl (.inr rfl)) 5 _) (.inl (.inr rfl)) 6 _) (.inl (.inr rfl)) 7 _) (.inl (.inr rfl)) 8 _) (.inl (.inr rfl)) 9 _)) fun k hk => .inl hk
        have HQe : Hid (Q M1) := hQ
        generalize hWE : (w14) = WE at *
        clear hWE hkE
        refine wpAnyH_ready (rs := [6]) (by kernel_rfl) (by simp) ?_
        refine AllReadyH.cons rfl (fun K9 hK => ?_) AllReadyH.nil
        go_simp
        refine hK.out _ _ (HS.out _ HBe.out) (fun hHeld => ?_)
        clear hK K9
        refine wpAnyH_done (by kernel_rfl) ?_ _
        clear hHeld HS HPr HRf HKm HFl HG1 HG0 HGm mf m0 m1 m2 m3 m4 m5 m6 m7 m8 m9
        try go_wp2_with fail
        go_meet
        exact ⟨_, a, c, M1, yT, rfl, HTe, HQe, HPe, HHe, hgq, HBe⟩
    · go_simp
      have B13 : Hid (Below wq.heap.size wq (wd.alloc (.cells #[.slice none 0 0, .string ⟨#[]⟩, .string ⟨#[]⟩, .slice none 0 0, .slice none 0 0, .slice none 0 0, .int .i64 0, .int .i64 0, .int .i64 0, .int .i64 0] 65))) := Below.trans HDk.out ((al_b wd _).mono (Below.size HDk.out))
      refine hK.out _ _ (HS.out _ B13.out) (fun hHeld => ?_)
      clear hK K9
      have hg0 : wq.heap.size ≤ wd.heap.size := HDk.out.size
      have hgl0 : wd.heap.size < (wd.alloc (.cells #[.slice none 0 0, .string ⟨#[]⟩, .string ⟨#[]⟩, .slice none 0 0, .slice none 0 0, .slice none 0 0, .int .i64 0, .int .i64 0, .int .i64 0, .int .i64 0] 65)).heap.size := (Array.getElem?_eq_some_iff.1 (new_at wd (.cells #[.slice none 0 0, .string ⟨#[]⟩, .string ⟨#[]⟩, .slice none 0 0, .slice none 0 0, .slice none 0 0, .int .i64 0, .int .i64 0, .int .i64 0, .int .i64 0] 65))).1
      have hgl := hgl0
      refine wpAnyH_ready (rs := [3]) (by kernel_rfl) (by simp) ?_
      refine AllReadyH.cons rfl (fun K9 hK => ?_) AllReadyH.nil
      go_simp
      refine (HRf.out _ (wd.alloc (.cells #[.slice none 0 0, .string ⟨#[]⟩, .string ⟨#[]⟩, .slice none 0 0, .slice none 0 0, .slice none 0 0, .int .i64 0, .int .i64 0, .int .i64 0, .int .i64 0] 65)) (HG1.out wd.heap.size _ B13.out hgl) (HG0.out wd.heap.size hg0) B13.out).mono ?_
      rintro e w12 ⟨y, rfl, hy, hyI, hb⟩
      have B12 : Hid (Below wq.heap.size wq w12) := Below.trans B13.out (hb.mono (Below.size B13.out))
      have HyI := hyI
      have Hb12 := hb
      go_simp
      refine hK.out _ _ (HS.out _ B12.out) (fun hHeld => ?_)
      clear hK K9
      have hgl : wd.heap.size < w12.heap.size := Nat.lt_of_lt_of_le hgl0 Hb12.size
      refine wpAnyH_ready (rs := [4]) (by kernel_rfl) (by simp) ?_
      refine AllReadyH.cons rfl (fun K9 hK => ?_) AllReadyH.nil
      go_simp
      refine (HPr.out _ w12 y (HG1.out wd.heap.size _ B12.out hgl) (HKm.out _ w12 B12.out (HGm.out wd.heap.size hg0)) B12.out hy HyI).mono ?_
      rintro e w14 ⟨a, c, M1, yT, rfl, hyT, hQ, hP9, hb⟩
      have B14 : Hid (Below wq.heap.size wq w14) := Below.trans B12.out (hb.mono (Below.size B12.out))
      have HTe : Hid (LT.t yT = tt) := hyT
      clear hyT
      go_simp
      refine hK.out _ _ (HS.out _ B14.out) (fun hHeld => ?_)
      clear hK K9
      have hkE : (w14).heap[wd.heap.size]? = some (.cells #[.slice none 0 0, .string ⟨#[]⟩, .string ⟨#[]⟩, .slice none 0 0, .slice none 0 0, .slice none 0 0, .int .i64 0, .int .i64 0, .int .i64 0, .int .i64 0] 65 (0, 0)) := (Below.block hb _ hgl).trans ((Below.block Hb12 _ hgl0).trans (new_at wd (.cells #[.slice none 0 0, .string ⟨#[]⟩, .string ⟨#[]⟩, .slice none 0 0, .slice none 0 0, .slice none 0 0, .int .i64 0, .int .i64 0, .int .i64 0, .int .i64 0] 65)))
      have m0 : (w14).cell? ⟨wd.heap.size, 0, none⟩ = some (.slice none 0 0) := by rw [Lib.cell_of_heap hkE]; rfl
      have m1 : (w14).cell? ⟨wd.heap.size, 1, none⟩ = some (.string ⟨#[]⟩) := by rw [Lib.cell_of_heap hkE]; rfl
      have m2 : (w14).cell? ⟨wd.heap.size, 2, none⟩ = some (.string ⟨#[]⟩) := by rw [Lib.cell_of_heap hkE]; rfl
      have m3 : (w14).cell? ⟨wd.heap.size, 3, none⟩ = some (.slice none 0 0) := by rw [Lib.cell_of_heap hkE]; rfl
      have m4 : (w14).cell? ⟨wd.heap.size, 4, none⟩ = some (.slice none 0 0) := by rw [Lib.cell_of_heap hkE]; rfl
      have m5 : (w14).cell? ⟨wd.heap.size, 5, none⟩ = some (.slice none 0 0) := by rw [Lib.cell_of_heap hkE]; rfl
      have m6 : (w14).cell? ⟨wd.heap.size, 6, none⟩ = some (.int .i64 0) := by rw [Lib.cell_of_heap hkE]; rfl
      have m7 : (w14).cell? ⟨wd.heap.size, 7, none⟩ = some (.int .i64 0) := by rw [Lib.cell_of_heap hkE]; rfl
      have m8 : (w14).cell? ⟨wd.heap.size, 8, none⟩ = some (.int .i64 0) := by rw [Lib.cell_of_heap hkE]; rfl
      have m9 : (w14).cell? ⟨wd.heap.size, 9, none⟩ = some (.int .i64 0) := by rw [Lib.cell_of_heap hkE]; rfl
      have mf : ∀ j, (w14).frozen? ⟨wd.heap.size, j, none⟩ = false := fun j => Lib.frozen_of_heap hkE j
      have hgq : Hid (wq.heap.size ≤ wd.heap.size) := by show _ ≤ _; exact hg0
      have HBe : Hid (Below wq.heap.size wq (((((((((((w14).setCell ⟨wd.heap.size, 0, none⟩ (.slice a (List.length M1) c)).setCell ⟨wd.heap.size, 1, none⟩ (.string yT.t.n)).setCell ⟨wd.heap.size, 2, none⟩ (.string yT.t.p)).setCell ⟨wd.heap.size, 3, none⟩ (yT.vo)).setCell ⟨wd.heap.size, 4, none⟩ (yT.va)).setCell ⟨wd.heap.size, 5, none⟩ (yT.vc)).setCell ⟨wd.heap.size, 6, none⟩ (.int .i64 yT.t.nd)).setCell ⟨wd.heap.size, 7, none⟩ (.int .i64 yT.t.lf)).setCell ⟨wd.heap.size, 8, none⟩ (.int .i64 yT.t.sq)).setCell ⟨wd.heap.size, 9, none⟩ (.int .i64 z))) := by
        have hg9 := hgq.out
        exact ((((((((((B14.out.setCell (p := ⟨wd.heap.size, 0, none⟩) hg9 (.slice a (List.length M1) c)).setCell (p := ⟨wd.heap.size, 1, none⟩) hg9 (.string yT.t.n)).setCell (p := ⟨wd.heap.size, 2, none⟩) hg9 (.string yT.t.p)).setCell (p := ⟨wd.heap.size, 3, none⟩) hg9 (yT.vo)).setCell (p := ⟨wd.heap.size, 4, none⟩) hg9 (yT.va)).setCell (p := ⟨wd.heap.size, 5, none⟩) hg9 (yT.vc)).setCell (p := ⟨wd.heap.size, 6, none⟩) hg9 (.int .i64 yT.t.nd)).setCell (p := ⟨wd.heap.size, 7, none⟩) hg9 (.int .i64 yT.t.lf)).setCell (p := ⟨wd.heap.size, 8, none⟩) hg9 (.int .i64 yT.t.sq)).setCell (p := ⟨wd.heap.size, 9, none⟩) hg9 (.int .i64 z))
      have HHe : Hid ((((((((((((w14).setCell ⟨wd.heap.size, 0, none⟩ (.slice a (List.length M1) c)).setCell ⟨wd.heap.size, 1, none⟩ (.string yT.t.n)).setCell ⟨wd.heap.size, 2, none⟩ (.string yT.t.p)).setCell ⟨wd.heap.size, 3, none⟩ (yT.vo)).setCell ⟨wd.heap.size, 4, none⟩ (yT.va)).setCell ⟨wd.heap.size, 5, none⟩ (yT.vc)).setCell ⟨wd.heap.size, 6, none⟩ (.int .i64 yT.t.nd)).setCell ⟨wd.heap.size, 7, none⟩ (.int .i64 yT.t.lf)).setCell ⟨wd.heap.size, 8, none⟩ (.int .i64 yT.t.sq)).setCell ⟨wd.heap.size, 9, none⟩ (.int .i64 z)).heap[wd.heap.size]? = some (.cells #[.slice a (List.length M1) c, .string yT.t.n, .string yT.t.p, yT.vo, yT.va, yT.vc, .int .i64 yT.t.nd, .int .i64 yT.t.lf, .int .i64 yT.t.sq, .int .i64 z] 65 (0, 0))) := by
        show _ = _
        exact st10_heapD hkE _ _ _ _ _ _ _ _ _ _
      have HPe : Hid (Pst (fun k => SF m E k ∨ k = w.heap.size + 2) (((((((((((w14).setCell ⟨wd.heap.size, 0, none⟩ (.slice a (List.length M1) c)).setCell ⟨wd.heap.size, 1, none⟩ (.string yT.t.n)).setCell ⟨wd.heap.size, 2, none⟩ (.string yT.t.p)).setCell ⟨wd.heap.size, 3, none⟩ (yT.vo)).setCell ⟨wd.heap.size, 4, none⟩ (yT.va)).setCell ⟨wd.heap.size, 5, none⟩ (yT.vc)).setCell ⟨wd.heap.size, 6, none⟩ (.int .i64 yT.t.nd)).setCell ⟨wd.heap.size, 7, none⟩ (.int .i64 yT.t.lf)).setCell ⟨wd.heap.size, 8, none⟩ (.int .i64 yT.t.sq)).setCell ⟨wd.heap.size, 9, none⟩ (.int .i64 z)) fun W => IsKs W (.slice a M1.length c) M1 ∧ IsTy W yT.t yT.vo yT.va yT.vc) := Pst.weaken (F' := fun k => (SF m E k ∨ k = w.heap.size + 2) ∨ k = _) (Pst.move hP9 (stp_set (stp_set (stp_set (stp_set (stp_set (stp_set (stp_set (stp_set (stp_set (stp_set (Stp.rfl' _ _) (.inl (.inr rfl)) 0 _) (.inl (.inr rfl)) 1 _) (.inl (.inr rfl)) 2 _) (.inl (.inr rfl)) 3 _) (.inl (.inr rfl)) 4 _) (.inl (.inr rfl)) 5 _) (.inl (.inr rfl)) 6 _) (.inl (.inr rfl)) 7 _) (.inl (.inr rfl)) 8 _) (.inl (.inr rfl)) 9 _)) fun k hk => .inl hk
      have HQe : Hid (Q M1) := hQ
      generalize hWE : (w14) = WE at *
      clear hWE hkE
      refine wpAnyH_ready (rs := [6]) (by kernel_rfl) (by simp) ?_
      refine AllReadyH.cons rfl (fun K9 hK => ?_) AllReadyH.nil
      go_simp
      refine hK.out _ _ (HS.out _ HBe.out) (fun hHeld => ?_)
      clear hK K9
      refine wpAnyH_done (by kernel_rfl) ?_ _
      clear hHeld HS HPr HRf HKm HFl HG1 HG0 HGm mf m0 m1 m2 m3 m4 m5 m6 m7 m8 m9
      try go_wp2_with fail
      go_meet
      exact ⟨_, a, c, M1, yT, rfl, HTe, HQe, HPe, HHe, hgq, HBe⟩
  case rest =>
    obtain ⟨g, a, c, M1, yT, rfl, HTt, HQ1, HK1, HG, Hgq, B6⟩ := hcut
    have hgs : ¬ SF m E g := fun e => by
      have h1 := (HR.out.st.sf e).2
      have h2 := HF.out.1 _ (.inl e)
      have := Hgq.out
      omega
    have HGp : Hid (Pst (SF m E) wc fun W => W.heap[g]? = some (.cells #[.slice a (List.length M1) c, .string yT.t.n, .string yT.t.p, yT.vo, yT.va, yT.vc, .int .i64 yT.t.nd, .int .i64 yT.t.lf, .int .i64 yT.t.sq, .int .i64 z] 65 (0, 0))) := fun W hW => pst_blk (F := SF m E) HG.out hgs W hW
    have HQ7 : Hid (∀ W, Stp wc (SF m E) (SF m E) W → W.heap[w.heap.size + 2]? = some (.cells #[.slice none 0 0] 27 (0, 0))) := fun W hW => (HCA.out W ((Stp.of (SF m E) B6.out).trans hW)).2.2.2.2.2.2.2.2.2.2.2.2.2.2.2.2.2.2
    have HNe : Hid (g ≠ w.heap.size + 2 ∧ w.heap.size + 2 < wc.heap.size) := by
      have h1 := HZ.out.1
      have h2 := Hgq.out
      have h3 := B6.out.size
      show _ ∧ _
      omega
    clear hgs HFl HG1 HG0 HGm HKm HRf HPr HFlo HS
    obtain ⟨cb, t0_, t1_, t2_, t3_, t4_, t5_, t6_, t7_, t8_, t9_, t10_, t11_, t12_, t13_, t14_, cr, fz, -⟩ := HCA.out wc (Stp.of _ B6.out)
    go_wp2_with fail
    clear cb t0_ t1_ t2_ t3_ t4_ t5_ t6_ t7_ t8_ t9_ t10_ t11_ t12_ t13_ t14_ cr fz
    refine (HP2.out _ B6.out).mono ?_
    rintro e w7 ⟨t2, rfl, ht2, hI2, E', X', s1, s2, s3, s4⟩
    have S7 : Hid (Stp wc (SF m E) (SF m E) w7) := s2.same
    have HSz : Hid (wc.heap.size ≤ w7.heap.size) := s2.size
    have HTe : Hid (t2.t = yT.t ∧ SmT t2.t) := ⟨ht2.trans HTt.out.symm, by rw [ht2]; exact HTm.out⟩
    have HI2 : Hid (∀ W, Below w7.heap.size w7 W → IsTy W t2.t t2.vo t2.va t2.vc) := fun W h => hI2.below h
    have HIy : Hid (∀ W, Below w7.heap.size w7 W → IsTy W yT.t yT.vo yT.va yT.vc) := fun W h => (((HK1.out.move (stp_plus s2 _)).below h).get).2
    have HEN : Hid (∀ W, Below w7.heap.size w7 W → ∀ u, DoQ w0 w s m E (.returned (.tuple #[.agg #[.slice a M1.length c], .bool true])) (W.setCell ⟨w.heap.size + 2, 0, none⟩ u)) := fun W hW u => by
      obtain ⟨h1, h2⟩ := HZ.out
      have hsw : Stp w (SF m E) (SF m E') W := (((Stp.of (SF m E) HBw.out).trans (Stp.of (SF m E) B6.out)).trans s2).trans (Stp.of _ hW)
      refine do_end (s1.below hW) (fun W' hW' => (((HK1.out.move (stp_plus s2 _)).below hW) W' hW').1) (HQ7.out W (S7.out.trans (Stp.of _ hW))) ?_ (s4 _ HQ1.out) s3 (by omega) hsw (by omega) u
      exact HR.out.bel.trans ((((Stp.of (SF m E) B6.out).trans s2).trans (Stp.of _ hW)).below HR.out.bel.size fun k hk => (HR.out.st.sf hk).1)
    have HQ8 : Hid (∀ W, Below w7.heap.size w7 W → W.heap[w.heap.size + 2]? = some (.cells #[.slice none 0 0] 27 (0, 0))) := fun W hW => HQ7.out W (S7.out.trans (Stp.of _ hW))
    have HRg : Hid (∀ W, Below w7.heap.size w7 W → Calls Tryz.prog 17 #[ltV t2] W fun e w' => RtP t2.t W e w') := fun W hW => refT_any t2 W (HI2.out W hW) (by have := HTe.out.2.1; omega) (by have := HTe.out.2.2.1; omega)
    have HSm : Hid (∀ (y : LT) W, Below w7.heap.size w7 W → y.t = t2.t → IsTy W y.t y.vo y.va y.vc → Calls Tryz.prog 18 #[ltV y, ltV yT] W fun e w' => e = .returned (.bool true) ∧ Below W.heap.size W w') := fun y W hW e hI => refSameT_ok y yT W (by rw [e, HTe.out.1]) hI (HIy.out W hW) (by rw [e]; exact HTe.out.2)
    obtain ⟨w8, hw8⟩ : ∃ w8, w8 = w7.alloc (.cells (tyA t2.t t2.vo t2.va t2.vc) 35) := ⟨_, rfl⟩
    have hb8 : Below w7.heap.size w7 w8 := by rw [hw8]; exact al_b _ _
    have hn8 : w8.heap[w7.heap.size]? = some (.cells (tyA t2.t t2.vo t2.va t2.vc) 35 (0, 0)) := by rw [hw8]; exact new_at _ _
    have B8 : Hid (Below w7.heap.size w7 w8) := hb8
    have HS3 : Hid (∀ W, Below w8.heap.size w8 W → (W.cell? ⟨g, 0, none⟩ = some (.slice a (List.length M1) c) ∧ W.cell? ⟨g, 1, none⟩ = some (.string yT.t.n) ∧ W.cell? ⟨g, 2, none⟩ = some (.string yT.t.p) ∧ W.cell? ⟨g, 3, none⟩ = some (yT.vo) ∧ W.cell? ⟨g, 4, none⟩ = some (yT.va) ∧ W.cell? ⟨g, 5, none⟩ = some (yT.vc) ∧ W.cell? ⟨g, 6, none⟩ = some (.int .i64 yT.t.nd) ∧ W.cell? ⟨g, 7, none⟩ = some (.int .i64 yT.t.lf) ∧ W.cell? ⟨g, 8, none⟩ = some (.int .i64 yT.t.sq) ∧ W.cell? ⟨g, 9, none⟩ = some (.int .i64 z) ∧ W.cell? ⟨w7.heap.size, 0, none⟩ = some (.string t2.t.n) ∧ W.cell? ⟨w7.heap.size, 1, none⟩ = some (.string t2.t.p) ∧ W.cell? ⟨w7.heap.size, 2, none⟩ = some (t2.vo) ∧ W.cell? ⟨w7.heap.size, 3, none⟩ = some (t2.va) ∧ W.cell? ⟨w7.heap.size, 4, none⟩ = some (t2.vc) ∧ W.cell? ⟨w7.heap.size, 5, none⟩ = some (.int .i64 t2.t.nd) ∧ W.cell? ⟨w7.heap.size, 6, none⟩ = some (.int .i64 t2.t.lf) ∧ W.cell? ⟨w7.heap.size, 7, none⟩ = some (.int .i64 t2.t.sq))) := fun W hW => by
      have h1 := HGp.out W ((S7.out.trans (Stp.of _ hb8)).trans (Stp.of _ hW))
      have h2 := (hW.block _ (Array.getElem?_eq_some_iff.1 hn8).1).trans hn8
      have d : ∀ j, W.cell? ⟨g, j, none⟩ = (#[.slice a (List.length M1) c, .string yT.t.n, .string yT.t.p, yT.vo, yT.va, yT.vc, .int .i64 yT.t.nd, .int .i64 yT.t.lf, .int .i64 yT.t.sq, .int .i64 z] : Array Value)[j]? := fun j => by rw [Lib.cell_of_heap h1]
      have e : ∀ j, W.cell? ⟨w7.heap.size, j, none⟩ = (tyA t2.t t2.vo t2.va t2.vc)[j]? := fun j => by rw [Lib.cell_of_heap h2]
      exact ⟨d 0, d 1, d 2, d 3, d 4, d 5, d 6, d 7, d 8, d 9, e 0, e 1, e 2, e 3, e 4, e 5, e 6, e 7⟩
    have HN8 : Hid (g ≠ w.heap.size + 2 ∧ w7.heap.size ≠ w.heap.size + 2) := by
      have := HNe.out.2
      have := HSz.out
      exact ⟨HNe.out.1, by omega⟩
    have HDk : Hid (Below w8.heap.size w8 w8.drew) := (Below.refl _ _).drew
    clear s1 s2 s3 s4 hb8 hn8 ht2 hI2 HCA HK HF HZ HBw HR HTt HTm HP2 HQ1 HK1 HG HGp Hgq B6 S7 HSz HQ7 HNe HI2 HIy
    have dz : decide (z = z) = true := decide_eq_true rfl
    go_wp2_with fail
    rw [← hw8]
    clear hw8
    refine wp_region_held_drew (S := fun W => W.cell? ⟨g, 0, none⟩ = some (.slice a (List.length M1) c) ∧ W.cell? ⟨g, 1, none⟩ = some (.string yT.t.n) ∧ W.cell? ⟨g, 2, none⟩ = some (.string yT.t.p) ∧ W.cell? ⟨g, 3, none⟩ = some (yT.vo) ∧ W.cell? ⟨g, 4, none⟩ = some (yT.va) ∧ W.cell? ⟨g, 5, none⟩ = some (yT.vc) ∧ W.cell? ⟨g, 6, none⟩ = some (.int .i64 yT.t.nd) ∧ W.cell? ⟨g, 7, none⟩ = some (.int .i64 yT.t.lf) ∧ W.cell? ⟨g, 8, none⟩ = some (.int .i64 yT.t.sq) ∧ W.cell? ⟨g, 9, none⟩ = some (.int .i64 z) ∧ W.cell? ⟨w7.heap.size, 0, none⟩ = some (.string t2.t.n) ∧ W.cell? ⟨w7.heap.size, 1, none⟩ = some (.string t2.t.p) ∧ W.cell? ⟨w7.heap.size, 2, none⟩ = some (t2.vo) ∧ W.cell? ⟨w7.heap.size, 3, none⟩ = some (t2.va) ∧ W.cell? ⟨w7.heap.size, 4, none⟩ = some (t2.vc) ∧ W.cell? ⟨w7.heap.size, 5, none⟩ = some (.int .i64 t2.t.nd) ∧ W.cell? ⟨w7.heap.size, 6, none⟩ = some (.int .i64 t2.t.lf) ∧ W.cell? ⟨w7.heap.size, 7, none⟩ = some (.int .i64 t2.t.sq)) (by kernel_rfl) (HS3.out _ HDk.out) (fun hHeld => ?_)
    generalize w8.drew = wd at *
    refine wpAnyH_take (i := 0) (v := ?_) rfl (by kernel_rfl) (by kernel_rfl) (by kernel_rfl) (fun _ _ _ h => h) (Or.inl ⟨by rfl, ?_⟩) hHeld ?_
    rotate_left 1
    · intro w9 hSw; obtain ⟨g0, g1, g2, g3, g4, g5, g6, g7, g8, g9, g10, g11, g12, g13, g14, g15, g16, g17⟩ := hSw; go_simp; try with_reducible rfl
    change wpAnyH _ _ _ _ _ _ _ (Act.put _ (some 35) _) _
    simp only [Act.put, List.setIfInBounds_toArray, List.set_cons_zero, List.set_cons_succ]
    refine wpAnyH_take (i := 1) (v := ?_) rfl (by kernel_rfl) (by kernel_rfl) (by kernel_rfl) (fun _ _ _ h => h) (Or.inl ⟨by rfl, ?_⟩) hHeld ?_
    rotate_left 1
    · intro w9 hSw; obtain ⟨g0, g1, g2, g3, g4, g5, g6, g7, g8, g9, g10, g11, g12, g13, g14, g15, g16, g17⟩ := hSw; go_simp; try with_reducible rfl
    change wpAnyH _ _ _ _ _ _ _ (Act.put _ (some 36) _) _
    simp only [Act.put, List.setIfInBounds_toArray, List.set_cons_zero, List.set_cons_succ]
    refine wpAnyH_take (i := 2) (v := ?_) rfl (by kernel_rfl) (by kernel_rfl) (by kernel_rfl) (fun _ _ _ h => h) (Or.inl ⟨by rfl, ?_⟩) hHeld ?_
    rotate_left 1
    · intro w9 hSw; obtain ⟨g0, g1, g2, g3, g4, g5, g6, g7, g8, g9, g10, g11, g12, g13, g14, g15, g16, g17⟩ := hSw; go_simp; try with_reducible rfl
    change wpAnyH _ _ _ _ _ _ _ (Act.put _ (some 37) _) _
    simp only [Act.put, List.setIfInBounds_toArray, List.set_cons_zero, List.set_cons_succ]
    refine wpAnyH_take (i := 3) (v := ?_) rfl (by kernel_rfl) (by kernel_rfl) (by kernel_rfl) (fun _ _ _ h => h) (Or.inl ⟨by rfl, ?_⟩) hHeld ?_
    rotate_left 1
    · intro w9 hSw; obtain ⟨g0, g1, g2, g3, g4, g5, g6, g7, g8, g9, g10, g11, g12, g13, g14, g15, g16, g17⟩ := hSw; go_simp; try with_reducible rfl
    change wpAnyH _ _ _ _ _ _ _ (Act.put _ (some 38) _) _
    simp only [Act.put, List.setIfInBounds_toArray, List.set_cons_zero, List.set_cons_succ]
    refine wpAnyH_take (i := 4) (v := ?_) rfl (by kernel_rfl) (by kernel_rfl) (by kernel_rfl) (fun _ _ _ h => h) (Or.inl ⟨by rfl, ?_⟩) hHeld ?_
    rotate_left 1
    · intro w9 hSw; obtain ⟨g0, g1, g2, g3, g4, g5, g6, g7, g8, g9, g10, g11, g12, g13, g14, g15, g16, g17⟩ := hSw; go_simp; try with_reducible rfl
    change wpAnyH _ _ _ _ _ _ _ (Act.put _ (some 39) _) _
    simp only [Act.put, List.setIfInBounds_toArray, List.set_cons_zero, List.set_cons_succ]
    refine wpAnyH_take (i := 5) (v := ?_) rfl (by kernel_rfl) (by kernel_rfl) (by kernel_rfl) (fun _ _ _ h => h) (Or.inl ⟨by rfl, ?_⟩) hHeld ?_
    rotate_left 1
    · intro w9 hSw; obtain ⟨g0, g1, g2, g3, g4, g5, g6, g7, g8, g9, g10, g11, g12, g13, g14, g15, g16, g17⟩ := hSw; go_simp; try with_reducible rfl
    change wpAnyH _ _ _ _ _ _ _ (Act.put _ (some 40) _) _
    simp only [Act.put, List.setIfInBounds_toArray, List.set_cons_zero, List.set_cons_succ]
    refine wpAnyH_take (i := 6) (v := ?_) rfl (by kernel_rfl) (by kernel_rfl) (by kernel_rfl) (fun _ _ _ h => h) (Or.inl ⟨by rfl, ?_⟩) hHeld ?_
    rotate_left 1
    · intro w9 hSw; obtain ⟨g0, g1, g2, g3, g4, g5, g6, g7, g8, g9, g10, g11, g12, g13, g14, g15, g16, g17⟩ := hSw; go_simp; try with_reducible rfl
    change wpAnyH _ _ _ _ _ _ _ (Act.put _ (some 41) _) _
    simp only [Act.put, List.setIfInBounds_toArray, List.set_cons_zero, List.set_cons_succ]
    refine wpAnyH_take (i := 7) (v := ?_) rfl (by kernel_rfl) (by kernel_rfl) (by kernel_rfl) (fun _ _ _ h => h) (Or.inl ⟨by rfl, ?_⟩) hHeld ?_
    rotate_left 1
    · intro w9 hSw; obtain ⟨g0, g1, g2, g3, g4, g5, g6, g7, g8, g9, g10, g11, g12, g13, g14, g15, g16, g17⟩ := hSw; go_simp; try with_reducible rfl
    change wpAnyH _ _ _ _ _ _ _ (Act.put _ (some 42) _) _
    simp only [Act.put, List.setIfInBounds_toArray, List.set_cons_zero, List.set_cons_succ]
    refine wpAnyH_take (i := 9) (v := ?_) rfl (by kernel_rfl) (by kernel_rfl) (by kernel_rfl) (fun _ _ _ h => h) (Or.inl ⟨by rfl, ?_⟩) hHeld ?_
    rotate_left 1
    · intro w9 hSw; obtain ⟨g0, g1, g2, g3, g4, g5, g6, g7, g8, g9, g10, g11, g12, g13, g14, g15, g16, g17⟩ := hSw; go_simp; try with_reducible rfl
    change wpAnyH _ _ _ _ _ _ _ (Act.put _ (some 44) _) _
    simp only [Act.put, List.setIfInBounds_toArray, List.set_cons_zero, List.set_cons_succ]
    refine wpAnyH_take (i := 10) (v := ?_) rfl (by kernel_rfl) (by kernel_rfl) (by kernel_rfl) (fun _ _ _ h => h) (Or.inl ⟨by rfl, ?_⟩) hHeld ?_
    rotate_left 1
    · intro w9 hSw; obtain ⟨g0, g1, g2, g3, g4, g5, g6, g7, g8, g9, g10, g11, g12, g13, g14, g15, g16, g17⟩ := hSw; go_simp; try with_reducible rfl
    change wpAnyH _ _ _ _ _ _ _ (Act.put _ (some 45) _) _
    simp only [Act.put, List.setIfInBounds_toArray, List.set_cons_zero, List.set_cons_succ]
    refine wpAnyH_ready (rs := [8]) (by kernel_rfl) (by simp) ?_
    refine AllReadyH.cons rfl (fun K9 hK => ?_) AllReadyH.nil
    go_simp
    refine (HRg.out _ (B8.out.trans (HDk.out.mono B8.out.size))).mono ?_
    rintro e w9 ⟨y, rfl, hy, hyI, hb⟩
    have D9 : Hid (Below w8.heap.size w8 w9) := HDk.out.trans (hb.mono HDk.out.size)
    have HyI : Hid (y.t = t2.t ∧ IsTy w9 y.t y.vo y.va y.vc) := ⟨hy, hyI⟩
    clear hb hy hyI
    go_simp
    refine hK.out _ _ (HS3.out _ D9.out) (fun hHeld => ?_)
    clear hK K9
    refine wpAnyH_ready (rs := [11]) (by kernel_rfl) (by simp) ?_
    refine AllReadyH.cons rfl (fun K9 hK => ?_) AllReadyH.nil
    go_simp
    refine (HSm.out y _ (B8.out.trans (D9.out.mono B8.out.size)) HyI.out.1 HyI.out.2).mono ?_
    rintro e wx ⟨rfl, hb⟩
    have Dx : Hid (Below w8.heap.size w8 wx) := D9.out.trans (hb.mono D9.out.size)
    clear hb HyI
    go_simp
    refine hK.out _ _ (HS3.out _ Dx.out) (fun hHeld => ?_)
    clear hK K9
    refine wpAnyH_take (i := 12) (v := ?_) rfl (by kernel_rfl) (by kernel_rfl) (by kernel_rfl) (fun _ _ _ h => h) (Or.inl ⟨by rfl, ?_⟩) hHeld ?_
    rotate_left 1
    · intro w9 hSw; obtain ⟨g0, g1, g2, g3, g4, g5, g6, g7, g8, g9, g10, g11, g12, g13, g14, g15, g16, g17⟩ := hSw; go_simp; try with_reducible rfl
    change wpAnyH _ _ _ _ _ _ _ (Act.put _ (some 47) _) _
    simp only [Act.put, List.setIfInBounds_toArray, List.set_cons_zero, List.set_cons_succ]
    have hq := HQ8.out wx (B8.out.trans (Dx.out.mono B8.out.size))
    have cr : wx.cell? ⟨w.heap.size + 2, 0, none⟩ = some (.slice none 0 0) := by rw [Lib.cell_of_heap hq]; rfl
    have fz : ∀ j, wx.frozen? ⟨w.heap.size + 2, j, none⟩ = false := fun j => Lib.frozen_of_heap hq j
    have HSt : Hid (∀ u, ((wx.setCell ⟨w.heap.size + 2, 0, none⟩ u).cell? ⟨g, 0, none⟩ = some (.slice a (List.length M1) c) ∧ (wx.setCell ⟨w.heap.size + 2, 0, none⟩ u).cell? ⟨g, 1, none⟩ = some (.string yT.t.n) ∧ (wx.setCell ⟨w.heap.size + 2, 0, none⟩ u).cell? ⟨g, 2, none⟩ = some (.string yT.t.p) ∧ (wx.setCell ⟨w.heap.size + 2, 0, none⟩ u).cell? ⟨g, 3, none⟩ = some (yT.vo) ∧ (wx.setCell ⟨w.heap.size + 2, 0, none⟩ u).cell? ⟨g, 4, none⟩ = some (yT.va) ∧ (wx.setCell ⟨w.heap.size + 2, 0, none⟩ u).cell? ⟨g, 5, none⟩ = some (yT.vc) ∧ (wx.setCell ⟨w.heap.size + 2, 0, none⟩ u).cell? ⟨g, 6, none⟩ = some (.int .i64 yT.t.nd) ∧ (wx.setCell ⟨w.heap.size + 2, 0, none⟩ u).cell? ⟨g, 7, none⟩ = some (.int .i64 yT.t.lf) ∧ (wx.setCell ⟨w.heap.size + 2, 0, none⟩ u).cell? ⟨g, 8, none⟩ = some (.int .i64 yT.t.sq) ∧ (wx.setCell ⟨w.heap.size + 2, 0, none⟩ u).cell? ⟨g, 9, none⟩ = some (.int .i64 z) ∧ (wx.setCell ⟨w.heap.size + 2, 0, none⟩ u).cell? ⟨w7.heap.size, 0, none⟩ = some (.string t2.t.n) ∧ (wx.setCell ⟨w.heap.size + 2, 0, none⟩ u).cell? ⟨w7.heap.size, 1, none⟩ = some (.string t2.t.p) ∧ (wx.setCell ⟨w.heap.size + 2, 0, none⟩ u).cell? ⟨w7.heap.size, 2, none⟩ = some (t2.vo) ∧ (wx.setCell ⟨w.heap.size + 2, 0, none⟩ u).cell? ⟨w7.heap.size, 3, none⟩ = some (t2.va) ∧ (wx.setCell ⟨w.heap.size + 2, 0, none⟩ u).cell? ⟨w7.heap.size, 4, none⟩ = some (t2.vc) ∧ (wx.setCell ⟨w.heap.size + 2, 0, none⟩ u).cell? ⟨w7.heap.size, 5, none⟩ = some (.int .i64 t2.t.nd) ∧ (wx.setCell ⟨w.heap.size + 2, 0, none⟩ u).cell? ⟨w7.heap.size, 6, none⟩ = some (.int .i64 t2.t.lf) ∧ (wx.setCell ⟨w.heap.size + 2, 0, none⟩ u).cell? ⟨w7.heap.size, 7, none⟩ = some (.int .i64 t2.t.sq))) := fun u => by
      obtain ⟨a0, a1, a2, a3, a4, a5, a6, a7, a8, a9, a10, a11, a12, a13, a14, a15, a16, a17⟩ := HS3.out wx Dx.out
      have o : ∀ b j, b ≠ w.heap.size + 2 → (wx.setCell ⟨w.heap.size + 2, 0, none⟩ u).cell? ⟨b, j, none⟩ = wx.cell? ⟨b, j, none⟩ := fun b j hb => World.cell?_setCell_other _ _ _ _ (by simp only [ne_eq, Addr.mk.injEq, not_and]; intro e; exact absurd e.symm hb)
      exact ⟨(o _ 0 HN8.out.1).trans a0, (o _ 1 HN8.out.1).trans a1, (o _ 2 HN8.out.1).trans a2, (o _ 3 HN8.out.1).trans a3, (o _ 4 HN8.out.1).trans a4, (o _ 5 HN8.out.1).trans a5, (o _ 6 HN8.out.1).trans a6, (o _ 7 HN8.out.1).trans a7, (o _ 8 HN8.out.1).trans a8, (o _ 9 HN8.out.1).trans a9, (o _ 0 HN8.out.2).trans a10, (o _ 1 HN8.out.2).trans a11, (o _ 2 HN8.out.2).trans a12, (o _ 3 HN8.out.2).trans a13, (o _ 4 HN8.out.2).trans a14, (o _ 5 HN8.out.2).trans a15, (o _ 6 HN8.out.2).trans a16, (o _ 7 HN8.out.2).trans a17⟩
    clear hq
    refine wpAnyH_ready (rs := [13]) (by kernel_rfl) (by simp) ?_
    refine AllReadyH.cons rfl (fun K9 hK => ?_) AllReadyH.nil
    go_simp
    refine hK.out _ _ (HSt.out _) (fun hHeld => ?_)
    clear hK K9
    refine wpAnyH_ready (rs := [14]) (by kernel_rfl) (by simp) ?_
    refine AllReadyH.cons rfl (fun K9 hK => ?_) AllReadyH.nil
    go_simp
    refine hK.out _ _ hHeld (fun hHeld => ?_)
    clear hK K9
    refine wpAnyH_done (by kernel_rfl) ?_ _
    have HE : Hid (∀ u, DoQ w0 w s m E (.returned (.tuple #[.agg #[.slice a M1.length c], .bool true])) (wx.setCell ⟨w.heap.size + 2, 0, none⟩ u)) := HEN.out wx (B8.out.trans (Dx.out.mono B8.out.size))
    clear hHeld HS3 HQ8 HDk HN8 HSt HEN B8 D9 Dx HRg HSm HTe
    go_wp2_with fail
    try simp only [Exit.inBlock, Exit.then]
    refine bodyPost_ret (v := .tuple #[.agg #[.slice a (List.length M1) c], .bool true]) ?_ rfl (HE.out _)
    rw [results_c2 rfl]; go_simp
    first | done | exact ⟨rfl, rfl⟩
end Go.Proofs.YtlndgepoekllkaaGreatDoor
