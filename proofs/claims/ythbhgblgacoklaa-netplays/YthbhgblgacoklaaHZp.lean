/- NetPlays: its walk. -/
import Derived.Test.YthbhgblgacoklaaHZo
namespace Go.Proofs.Ythbhgblgacoklaa
open Go.RowKit

set_option maxRecDepth 100000 in
set_option maxHeartbeats 4000000 in
theorem netPlays_walk (v : Value) (l : List Ac) (w : World) (hr : IsRow w 12 v l.length (acCells l)) (hl : l.length ≤ 140737488355328) :
    Calls Try.prog 3 #[v] w fun e w' => e = .returned (.bool true) ∧ Below w.heap.size w w' := by
  obtain ⟨a0, cap0, rfl⟩ := hr.form
  have HR : Hid (IsRow w 12 (.slice a0 l.length cap0) l.length (acCells l)) := hr
  have HN : Hid (Calls Try.prog 8 #[] w fun e w' => e = .returned (nP w.heap.size) ∧ w' = w.alloc (.cells zNet 69)) := new_any w
  have HA : Hid (∀ w, Calls Try.prog 9 #[] w fun e w' => e = .returned (.bool true) ∧ Below w.heap.size w w') := awake12_any
  have HM0 : Hid (NQ w noR noA w.heap.size [] (w.alloc (.cells zNet 69))) := NQ.new w
  have HB0 : Hid (Below w.heap.size w w) := Below.refl _ _
  clear hr
  go_enter Try.func3, Try.ntmps3
  go_wp2_with fail
  refine HN.out.mono ?_
  rintro e W0 ⟨rfl, h0⟩
  rw [← h0] at HM0
  clear h0 HN
  generalize w.heap.size = g at HM0 ⊢
  go_wp2_with fail
  refine (HA.out _).mono ?_
  rintro e W1 ⟨rfl, hb1⟩
  have HM4 : Hid (NS w g W0.heap.size 0 W1) := ⟨noR, noA, .slice none 0 0, .slice none 0 0, [], [], ⟨[], [], (HM0.out.alloc nlB).below hb1, rowS_nil 7, rowS_nil 2⟩, Rel.new, by simp, by simp⟩
  clear hb1 HM0 HA
  generalize W0.heap.size = b6 at *
  go_upto_block 0 with fail
  go_cut [5] (fun i wx => ∃ k : Nat, i = i ∧ k ≤ 60 ∧ NS w g b6 k wx)
  case first =>
    go_wp2_with fail
    go_loopw [5] (fun i wr => ∃ k : Nat, i = .int .i64 (k : Int) ∧ k ≤ 60 ∧ k ≤ l.length ∧ NS w g b6 k wr) (fun i _ => 60 - (intOf i).toNat)
    case atStart => exact ⟨0, rfl, by omega, by omega, HM4.out⟩
    case round =>
      obtain ⟨k, rfl, hk60, hkl, M⟩ := hrel
      clear HM4
      by_cases hlk : k < l.length
      · have dk : decide ((k : Int) < l.length) = true := by simp; omega
        have dk' : decide (k < l.length) = true := by simp; omega
        by_cases h60 : k < 60
        · have d6 : decide ((k : Int) < 60) = true := by simp; omega
          have i1 : (0 : Int) ≤ (k : Int) := by omega
          have i2 : (k : Int) < (l.length : Int) := by omega
          have wk := cast40 k (by omega)
          have HM5 : Hid (NS w g b6 (k + 1) wr) := M.more
          obtain ⟨b, off, rfl, hlt, -, hcA⟩ := acs_at HR.out (by omega)
          have HIn : Hid (∀ W', Below w.heap.size w W' → W'.cell? ⟨b, off + k * 12, none⟩ = some (.int .i64 (l[k]'hlk).k) ∧ W'.cell? ⟨b, off + k * 12 + 1, none⟩ = some (.int .i64 (l[k]'hlk).p.f) ∧ W'.cell? ⟨b, off + k * 12 + 2, none⟩ = some (.int .i64 (l[k]'hlk).p.t) ∧ W'.cell? ⟨b, off + k * 12 + 3, none⟩ = some (.int .i64 (l[k]'hlk).p.fl) ∧ W'.cell? ⟨b, off + k * 12 + 4, none⟩ = some (.int .i64 (l[k]'hlk).p.tl) ∧ W'.cell? ⟨b, off + k * 12 + 5, none⟩ = some (.int .i64 (l[k]'hlk).p.sq) ∧ W'.cell? ⟨b, off + k * 12 + 6, none⟩ = some (.int .i64 (l[k]'hlk).p.ak) ∧ W'.cell? ⟨b, off + k * 12 + 7, none⟩ = some (.string (l[k]'hlk).p.x) ∧ W'.cell? ⟨b, off + k * 12 + 8, none⟩ = some (.int .i64 (l[k]'hlk).f) ∧ W'.cell? ⟨b, off + k * 12 + 9, none⟩ = some (.int .i64 (l[k]'hlk).t) ∧ W'.cell? ⟨b, off + k * 12 + 10, none⟩ = some (.int .i64 (l[k]'hlk).i) ∧ W'.cell? ⟨b, off + k * 12 + 11, none⟩ = some (.bool (l[k]'hlk).on)) := fun W' h => acs_all hlt hcA h k hlk
          clear hcA
          generalize l[k]'hlk = x at *
          obtain ⟨xk, ⟨q0, q1, q2, q3, q4, q5, q6⟩, xf, xt, xi, xon⟩ := x
          dsimp only at HIn
          obtain ⟨R, A, v, u, L, B, hRS, hrel, hL4, hBk⟩ := M
          have hwr : Below w.heap.size w wr := HB0.out.trans (hRS.to.mono HB0.out.size)
          obtain ⟨y0, y1, y2, y3, y4, y5, y6, y7, y8, y9, y10, y11⟩ := HIn.out wr hwr
          by_cases hs : 2000 < q6.size
          · have ds : decide ((2000 : Int) < (q6.size : Int)) = true := by simp; omega
            have ds2 : decide (2000 < q6.size) = true := by simp; omega
            clear hRS hrel hwr HIn
            go_wp2
            go_roundw
            case rel => exact ⟨k + 1, by simp, by omega, by omega, HM5.out⟩
            case measure => simp [intOf]; omega
          · have ds : decide ((2000 : Int) < (q6.size : Int)) = false := by simp; omega
            have ds2 : decide (2000 < q6.size) = false := by simp; omega
            obtain ⟨va, vc, rfl⟩ := hRS.rows.1.form
            obtain ⟨ua, uc, rfl⟩ := hRS.rows.2.form
            have HDo : Hid (Calls Try.prog 10 #[nP g, .agg #[(.slice va L.length vc), (.slice ua B.length uc)], acV ⟨xk, ⟨q0, q1, q2, q3, q4, q5, q6⟩, xf, xt, xi, xon⟩] wr.drew fun e w' => DoQ w g [(b6, nB (.slice va L.length vc) (.slice ua B.length uc))] B.length e w') := dg_any (hRS.below (below_drw wr)) hrel hL4 (by omega) _ (by show q6.size ≤ _; omega)
            have HDb : Hid (Calls Try.prog 10 #[nP g, .agg #[(.slice va L.length vc), (.slice ua B.length uc)], acV ⟨xk, ⟨q0, q1, q2, q3, q4, q5, q6⟩, xf, xt, xi, xon⟩] (wr.drew.alloc nlB) fun e w' => DoQ w g [(b6, nB (.slice va L.length vc) (.slice ua B.length uc)), (wr.heap.size, nlB)] B.length e w') := dg_any ((hRS.below (below_drw wr)).alloc nlB) hrel hL4 (by omega) _ (by show q6.size ≤ _; omega)
            have hSB : SB b6 (.slice va L.length vc) (.slice ua B.length uc) w wr := ⟨hRS.blk (b6, nB (.slice va L.length vc) (.slice ua B.length uc)) (by simp), hwr⟩
            clear hRS hrel hwr HM5
            dsimp only [acV, acA] at HDo HDb
            go_wp2_with fail
            clear y0 y1 y2 y3 y4 y5 y6 y7 y8 y9 y10 y11
            refine wp_region_held_drew (S := fun w' => SB b6 (.slice va L.length vc) (.slice ua B.length uc) w w') (by kernel_rfl) hSB.drew (fun hHeld => ?_)
            refine wpAnyH_take (i := 0) (v := ?_) rfl (by kernel_rfl) (by kernel_rfl) (by kernel_rfl) (fun _ _ _ h => h) (Or.inl ⟨by rfl, ?_⟩) hHeld ?_
            rotate_left 1
            · intro w9 hSw; obtain ⟨hb6, hbl⟩ := hSw; obtain ⟨s0, s1, -, -⟩ := two_at hb6; obtain ⟨t0, t1, t2, t3, t4, t5, t6, t7, t8, t9, t10, t11⟩ := HIn.out w9 hbl; go_simp; try with_reducible rfl
            change wpAnyH _ _ _ _ _ _ _ (Act.put _ (some 35) _) _
            simp only [Act.put, List.setIfInBounds_toArray, List.set_cons_zero, List.set_cons_succ]
            refine wpAnyH_take (i := 1) (v := ?_) rfl (by kernel_rfl) (by kernel_rfl) (by kernel_rfl) (fun _ _ _ h => h) (Or.inl ⟨by rfl, ?_⟩) hHeld ?_
            rotate_left 1
            · intro w9 hSw; obtain ⟨hb6, hbl⟩ := hSw; obtain ⟨s0, s1, -, -⟩ := two_at hb6; obtain ⟨t0, t1, t2, t3, t4, t5, t6, t7, t8, t9, t10, t11⟩ := HIn.out w9 hbl; go_simp; try with_reducible rfl
            change wpAnyH _ _ _ _ _ _ _ (Act.put _ (some 36) _) _
            simp only [Act.put, List.setIfInBounds_toArray, List.set_cons_zero, List.set_cons_succ]
            refine wpAnyH_take (i := 2) (v := ?_) rfl (by kernel_rfl) (by kernel_rfl) (by kernel_rfl) (fun _ _ _ h => h) (Or.inl ⟨by rfl, ?_⟩) hHeld ?_
            rotate_left 1
            · intro w9 hSw; obtain ⟨hb6, hbl⟩ := hSw; obtain ⟨s0, s1, -, -⟩ := two_at hb6; obtain ⟨t0, t1, t2, t3, t4, t5, t6, t7, t8, t9, t10, t11⟩ := HIn.out w9 hbl; go_simp; try with_reducible rfl
            change wpAnyH _ _ _ _ _ _ _ (Act.put _ (some 37) _) _
            simp only [Act.put, List.setIfInBounds_toArray, List.set_cons_zero, List.set_cons_succ]
            refine wpAnyH_take (i := 3) (v := ?_) rfl (by kernel_rfl) (by kernel_rfl) (by kernel_rfl) (fun _ _ _ h => h) (Or.inl ⟨by rfl, ?_⟩) hHeld ?_
            rotate_left 1
            · intro w9 hSw; obtain ⟨hb6, hbl⟩ := hSw; obtain ⟨s0, s1, -, -⟩ := two_at hb6; obtain ⟨t0, t1, t2, t3, t4, t5, t6, t7, t8, t9, t10, t11⟩ := HIn.out w9 hbl; go_simp; try with_reducible rfl
            change wpAnyH _ _ _ _ _ _ _ (Act.put _ (some 38) _) _
            simp only [Act.put, List.setIfInBounds_toArray, List.set_cons_zero, List.set_cons_succ]
            refine wpAnyH_take (i := 4) (v := ?_) rfl (by kernel_rfl) (by kernel_rfl) (by kernel_rfl) (fun _ _ _ h => h) (Or.inl ⟨by rfl, ?_⟩) hHeld ?_
            rotate_left 1
            · intro w9 hSw; obtain ⟨hb6, hbl⟩ := hSw; obtain ⟨s0, s1, -, -⟩ := two_at hb6; obtain ⟨t0, t1, t2, t3, t4, t5, t6, t7, t8, t9, t10, t11⟩ := HIn.out w9 hbl; go_simp; try with_reducible rfl
            change wpAnyH _ _ _ _ _ _ _ (Act.put _ (some 39) _) _
            simp only [Act.put, List.setIfInBounds_toArray, List.set_cons_zero, List.set_cons_succ]
            refine wpAnyH_take (i := 5) (v := ?_) rfl (by kernel_rfl) (by kernel_rfl) (by kernel_rfl) (fun _ _ _ h => h) (Or.inl ⟨by rfl, ?_⟩) hHeld ?_
            rotate_left 1
            · intro w9 hSw; obtain ⟨hb6, hbl⟩ := hSw; obtain ⟨s0, s1, -, -⟩ := two_at hb6; obtain ⟨t0, t1, t2, t3, t4, t5, t6, t7, t8, t9, t10, t11⟩ := HIn.out w9 hbl; go_simp; try with_reducible rfl
            change wpAnyH _ _ _ _ _ _ _ (Act.put _ (some 40) _) _
            simp only [Act.put, List.setIfInBounds_toArray, List.set_cons_zero, List.set_cons_succ]
            refine wpAnyH_ready (rs := [6, 10]) (by kernel_rfl) (by simp) ?_
            refine AllReadyH.cons rfl (fun K hK => ?_) (AllReadyH.cons rfl (fun K hK => ?_) AllReadyH.nil)
            · clear HDb
              go_simp
              refine HDo.out.mono ?_
              rintro e w5 ⟨R2, A2, v2, u2, L2, B2, rfl, hRS2, hrel2, hl2, hbl2⟩
              obtain ⟨va2, vc2, rfl⟩ := hRS2.rows.1.form
              obtain ⟨ua2, uc2, rfl⟩ := hRS2.rows.2.form
              have hw5 : SB b6 (.slice va L.length vc) (.slice ua B.length uc) w w5 := ⟨hRS2.blk (b6, nB (.slice va L.length vc) (.slice ua B.length uc)) (by simp), HB0.out.trans (hRS2.to.mono HB0.out.size)⟩
              have hRS5 := hRS2.alloc (nB (.slice va2 L2.length vc2) (.slice ua2 B2.length uc2))
              obtain ⟨m0, m1, m2, m3⟩ := two_at (hRS5.blk (b6, nB (.slice va L.length vc) (.slice ua B.length uc)) (by simp))
              obtain ⟨n0, n1, -, -⟩ := two_at (hRS5.blk (w5.heap.size, nB (.slice va2 L2.length vc2) (.slice ua2 B2.length uc2)) (by simp))
              have HS5 : Hid (NS w g b6 (k + 1) (((w5.alloc (nB (.slice va2 L2.length vc2) (.slice ua2 B2.length uc2))).setCell ⟨b6, 0, none⟩ (.slice va2 L2.length vc2)).setCell ⟨b6, 1, none⟩ (.slice ua2 B2.length uc2))) := ⟨R2, A2, _, _, L2, B2, (hRS2.below (al_b _ _)).store, hrel2, hl2, by omega⟩
              have HSm : Hid (Calls Try.prog 11 #[nP g, .agg #[(.slice va2 L2.length vc2), (.slice ua2 B2.length uc2)]] (((w5.alloc (nB (.slice va2 L2.length vc2) (.slice ua2 B2.length uc2))).setCell ⟨b6, 0, none⟩ (.slice va2 L2.length vc2)).setCell ⟨b6, 1, none⟩ (.slice ua2 B2.length uc2)) fun e w' => e = .returned (.bool true) ∧ Below (((w5.alloc (nB (.slice va2 L2.length vc2) (.slice ua2 B2.length uc2))).setCell ⟨b6, 0, none⟩ (.slice va2 L2.length vc2)).setCell ⟨b6, 1, none⟩ (.slice ua2 B2.length uc2)).heap.size (((w5.alloc (nB (.slice va2 L2.length vc2) (.slice ua2 B2.length uc2))).setCell ⟨b6, 0, none⟩ (.slice va2 L2.length vc2)).setCell ⟨b6, 1, none⟩ (.slice ua2 B2.length uc2)) w') := by
                have hq : RS w g [(b6, nB (.slice va2 L2.length vc2) (.slice ua2 B2.length uc2))] (((w5.alloc (nB (.slice va2 L2.length vc2) (.slice ua2 B2.length uc2))).setCell ⟨b6, 0, none⟩ (.slice va2 L2.length vc2)).setCell ⟨b6, 1, none⟩ (.slice ua2 B2.length uc2)) R2 A2 (.slice va2 L2.length vc2) (.slice ua2 B2.length uc2) L2 B2 := (hRS2.below (al_b _ _)).store
                obtain ⟨V, hv⟩ := hq.net
                exact same12_any hv hq.rows.1 hq.rows.2 hrel2 hl2 (by omega)
              clear hRS2 hRS5 hrel2 hl2 hbl2 HDo
              go_simp
              refine hK.out _ _ hw5 (fun hHeld => ?_)
              clear hK K
              refine wpAnyH_take (i := 7) (v := ?_) rfl (by kernel_rfl) (by kernel_rfl) (by kernel_rfl) (fun _ _ _ h => h) (Or.inl ⟨by rfl, ?_⟩) hHeld ?_
              rotate_left 1
              · intro w9 hSw; obtain ⟨hb6, hbl⟩ := hSw; go_simp; try with_reducible rfl
              change wpAnyH _ _ _ _ _ _ _ (Act.put _ (some 34) _) _
              simp only [Act.put, List.setIfInBounds_toArray, List.set_cons_zero, List.set_cons_succ]
              refine wpAnyH_take (i := 8) (v := ?_) rfl (by kernel_rfl) (by kernel_rfl) (by kernel_rfl) (fun _ _ _ h => h) (Or.inl ⟨by rfl, ?_⟩) hHeld ?_
              rotate_left 1
              · intro w9 hSw; obtain ⟨hb6, hbl⟩ := hSw; go_simp; try with_reducible rfl
              change wpAnyH _ _ _ _ _ _ _ (Act.put _ (some 42) _) _
              simp only [Act.put, List.setIfInBounds_toArray, List.set_cons_zero, List.set_cons_succ]
              refine wpAnyH_take (i := 9) (v := ?_) rfl (by kernel_rfl) (by kernel_rfl) (by kernel_rfl) (fun _ _ _ h => h) (Or.inl ⟨by rfl, ?_⟩) hHeld ?_
              rotate_left 1
              · intro w9 hSw; obtain ⟨hb6, hbl⟩ := hSw; go_simp; try with_reducible rfl
              change wpAnyH _ _ _ _ _ _ _ (Act.put _ (some 43) _) _
              simp only [Act.put, List.setIfInBounds_toArray, List.set_cons_zero, List.set_cons_succ]
              refine wpAnyH_ready (rs := [10]) (by kernel_rfl) (by simp) ?_
              refine AllReadyH.cons rfl (fun K hK => ?_) AllReadyH.nil
              go_simp
              refine hK.out _ _ (hHeld.al _) (fun hHeld => ?_)
              clear hK K
              refine wpAnyH_ready (rs := [11]) (by kernel_rfl) (by simp) ?_
              refine AllReadyH.cons rfl (fun K hK => ?_) AllReadyH.nil
              go_simp
              refine hK.out _ _ (hw5.al _) (fun hHeld => ?_)
              clear hK K
              refine wpAnyH_ready (rs := [12]) (by kernel_rfl) (by simp) ?_
              refine AllReadyH.cons rfl (fun K hK => ?_) AllReadyH.nil
              go_simp
              refine hK.out _ _ (hHeld) (fun hHeld => ?_)
              clear hK K
              clear hw5 HIn
              refine wpAnyH_done (by kernel_rfl) ?_ _
              clear hHeld
              go_wp2_with fail
              refine HSm.out.mono ?_
              rintro e w9 ⟨rfl, hb9⟩
              have HS9 : Hid (NS w g b6 (k + 1) w9) := HS5.out.below hb9
              clear HSm hb9 HS5
              go_wp2
              go_roundw
              case rel => exact ⟨k + 1, by simp, by omega, by omega, HS9.out⟩
              case measure => simp [intOf]; omega
            · clear HDo
              go_simp
              refine hK.out _ _ (hSB.drew.al _) (fun hHeld => ?_)
              clear hK K
              refine wpAnyH_ready (rs := [6]) (by kernel_rfl) (by simp) ?_
              refine AllReadyH.cons rfl (fun K hK => ?_) AllReadyH.nil
              go_simp
              refine HDb.out.mono ?_
              rintro e w5 ⟨R2, A2, v2, u2, L2, B2, rfl, hRS2, hrel2, hl2, hbl2⟩
              obtain ⟨va2, vc2, rfl⟩ := hRS2.rows.1.form
              obtain ⟨ua2, uc2, rfl⟩ := hRS2.rows.2.form
              have hw5 : SB b6 (.slice va L.length vc) (.slice ua B.length uc) w w5 := ⟨hRS2.blk (b6, nB (.slice va L.length vc) (.slice ua B.length uc)) (by simp), HB0.out.trans (hRS2.to.mono HB0.out.size)⟩
              obtain ⟨z0, z1, z2, z3⟩ := two_at (hRS2.blk (wr.heap.size, nlB) (by simp))
              have hRS5 := hRS2.set2 (.slice va2 L2.length vc2) (.slice ua2 B2.length uc2)
              have hw6 : SB b6 (.slice va L.length vc) (.slice ua B.length uc) w ((w5.setCell ⟨wr.heap.size, 0, none⟩ (.slice va2 L2.length vc2)).setCell ⟨wr.heap.size, 1, none⟩ (.slice ua2 B2.length uc2)) := ⟨hRS5.blk (b6, nB (.slice va L.length vc) (.slice ua B.length uc)) (by simp), HB0.out.trans (hRS5.to.mono HB0.out.size)⟩
              obtain ⟨m0, m1, m2, m3⟩ := two_at hw6.1
              obtain ⟨n0, n1, -, -⟩ := two_at (hRS5.blk (wr.heap.size, nB (.slice va2 L2.length vc2) (.slice ua2 B2.length uc2)) (by simp))
              have HS5 : Hid (NS w g b6 (k + 1) ((((w5.setCell ⟨wr.heap.size, 0, none⟩ (.slice va2 L2.length vc2)).setCell ⟨wr.heap.size, 1, none⟩ (.slice ua2 B2.length uc2)).setCell ⟨b6, 0, none⟩ (.slice va2 L2.length vc2)).setCell ⟨b6, 1, none⟩ (.slice ua2 B2.length uc2))) := ⟨R2, A2, _, _, L2, B2, (hRS5.sub (K' := [(b6, nB (.slice va L.length vc) (.slice ua B.length uc))]) (by simp)).store, hrel2, hl2, by omega⟩
              have HSm : Hid (Calls Try.prog 11 #[nP g, .agg #[(.slice va2 L2.length vc2), (.slice ua2 B2.length uc2)]] ((((w5.setCell ⟨wr.heap.size, 0, none⟩ (.slice va2 L2.length vc2)).setCell ⟨wr.heap.size, 1, none⟩ (.slice ua2 B2.length uc2)).setCell ⟨b6, 0, none⟩ (.slice va2 L2.length vc2)).setCell ⟨b6, 1, none⟩ (.slice ua2 B2.length uc2)) fun e w' => e = .returned (.bool true) ∧ Below ((((w5.setCell ⟨wr.heap.size, 0, none⟩ (.slice va2 L2.length vc2)).setCell ⟨wr.heap.size, 1, none⟩ (.slice ua2 B2.length uc2)).setCell ⟨b6, 0, none⟩ (.slice va2 L2.length vc2)).setCell ⟨b6, 1, none⟩ (.slice ua2 B2.length uc2)).heap.size ((((w5.setCell ⟨wr.heap.size, 0, none⟩ (.slice va2 L2.length vc2)).setCell ⟨wr.heap.size, 1, none⟩ (.slice ua2 B2.length uc2)).setCell ⟨b6, 0, none⟩ (.slice va2 L2.length vc2)).setCell ⟨b6, 1, none⟩ (.slice ua2 B2.length uc2)) w') := by
                have hq : RS w g [(b6, nB (.slice va2 L2.length vc2) (.slice ua2 B2.length uc2))] ((((w5.setCell ⟨wr.heap.size, 0, none⟩ (.slice va2 L2.length vc2)).setCell ⟨wr.heap.size, 1, none⟩ (.slice ua2 B2.length uc2)).setCell ⟨b6, 0, none⟩ (.slice va2 L2.length vc2)).setCell ⟨b6, 1, none⟩ (.slice ua2 B2.length uc2)) R2 A2 (.slice va2 L2.length vc2) (.slice ua2 B2.length uc2) L2 B2 := (hRS5.sub (K' := [(b6, nB (.slice va L.length vc) (.slice ua B.length uc))]) (by simp)).store
                obtain ⟨V, hv⟩ := hq.net
                exact same12_any hv hq.rows.1 hq.rows.2 hrel2 hl2 (by omega)
              clear hRS2 hRS5 hrel2 hl2 hbl2 HDb
              go_simp
              refine hK.out _ _ hw5 (fun hHeld => ?_)
              clear hK K
              refine wpAnyH_take (i := 7) (v := ?_) rfl (by kernel_rfl) (by kernel_rfl) (by kernel_rfl) (fun _ _ _ h => h) (Or.inl ⟨by rfl, ?_⟩) hHeld ?_
              rotate_left 1
              · intro w9 hSw; obtain ⟨hb6, hbl⟩ := hSw; go_simp; try with_reducible rfl
              change wpAnyH _ _ _ _ _ _ _ (Act.put _ (some 34) _) _
              simp only [Act.put, List.setIfInBounds_toArray, List.set_cons_zero, List.set_cons_succ]
              refine wpAnyH_take (i := 8) (v := ?_) rfl (by kernel_rfl) (by kernel_rfl) (by kernel_rfl) (fun _ _ _ h => h) (Or.inl ⟨by rfl, ?_⟩) hHeld ?_
              rotate_left 1
              · intro w9 hSw; obtain ⟨hb6, hbl⟩ := hSw; go_simp; try with_reducible rfl
              change wpAnyH _ _ _ _ _ _ _ (Act.put _ (some 42) _) _
              simp only [Act.put, List.setIfInBounds_toArray, List.set_cons_zero, List.set_cons_succ]
              refine wpAnyH_take (i := 9) (v := ?_) rfl (by kernel_rfl) (by kernel_rfl) (by kernel_rfl) (fun _ _ _ h => h) (Or.inl ⟨by rfl, ?_⟩) hHeld ?_
              rotate_left 1
              · intro w9 hSw; obtain ⟨hb6, hbl⟩ := hSw; go_simp; try with_reducible rfl
              change wpAnyH _ _ _ _ _ _ _ (Act.put _ (some 43) _) _
              simp only [Act.put, List.setIfInBounds_toArray, List.set_cons_zero, List.set_cons_succ]
              refine wpAnyH_ready (rs := [11]) (by kernel_rfl) (by simp) ?_
              refine AllReadyH.cons rfl (fun K hK => ?_) AllReadyH.nil
              go_simp
              refine hK.out _ _ (hw6) (fun hHeld => ?_)
              clear hK K
              refine wpAnyH_ready (rs := [12]) (by kernel_rfl) (by simp) ?_
              refine AllReadyH.cons rfl (fun K hK => ?_) AllReadyH.nil
              go_simp
              refine hK.out _ _ (hHeld) (fun hHeld => ?_)
              clear hK K
              clear hw5 hw6 HIn
              generalize (w5.setCell ⟨wr.heap.size, 0, none⟩ (.slice va2 L2.length vc2)).setCell ⟨wr.heap.size, 1, none⟩ (.slice ua2 B2.length uc2) = Z at *
              refine wpAnyH_done (by kernel_rfl) ?_ _
              clear hHeld
              go_wp2_with fail
              refine HSm.out.mono ?_
              rintro e w9 ⟨rfl, hb9⟩
              have HS9 : Hid (NS w g b6 (k + 1) w9) := HS5.out.below hb9
              clear HSm hb9 HS5
              go_wp2
              go_roundw
              case rel => exact ⟨k + 1, by simp, by omega, by omega, HS9.out⟩
              case measure => simp [intOf]; omega
        · have d6 : decide ((k : Int) < 60) = false := by simp; omega
          have HM : Hid (NS w g b6 k wr) := M
          clear M
          go_wp2
          go_meet
          exact ⟨k, trivial, by omega, HM.out⟩
      · obtain rfl : k = l.length := by omega
        have dk : decide ((l.length : Int) < l.length) = false := by simp
        have HM : Hid (NS w g b6 l.length wr) := M
        clear M
        go_wp2
        go_meet
        exact ⟨l.length, trivial, by omega, HM.out⟩
  case rest =>
  obtain ⟨k, -, hk, R, A, v, u, L, B, hRS, -, -, -⟩ := hcut
  have HF : Hid (Below w.heap.size w wc) := hRS.to
  clear hRS HM4
  go_wp2
  go_ret
  exact ⟨rfl, HF.out⟩
end Go.Proofs.Ythbhgblgacoklaa
