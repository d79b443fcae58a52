/- The law LinkEnds: its walk. -/
import Derived.Test.YtiejehaaglpkoaaLrA
import Derived.Deep.CutBlock
import Derived.Deep.RegionHeld3
import Derived.Deep.DeepCutAuto
namespace Go.Proofs.Ytiejehaaglpkoaa
open Go.RowKit Go.ChangeMaps

theorem may_ends {f : Int} (h1 : 1 ≤ f) (h2 : f ≤ 1099511627775) : mayX (edA f) = true ∧ mayX (edB f) = true := by
  have c : cntB f = true := by simp [cntB]; omega
  have a : cntB 1 = true := by decide
  have b1 : nodeB 1 = true := by decide
  have b2 : nodeB 2 = true := by decide
  constructor
  · show (nodeB 1 && (nodeB 2 && (!decide ((1 : Int) = 2) && (cntB 1 && (cntB 1 && cntB f))))) = true
    rw [a, b1, b2, c]; decide
  · show (nodeB 2 && (nodeB 1 && (!decide ((2 : Int) = 1) && (cntB 1 && (cntB 1 && cntB f))))) = true
    rw [a, b1, b2, c]; decide
/-- Behind i texts. -/
def FW (w : World) (P less i : Nat) (wr : World) : Prop := ∃ a s R, PSn w P a s [] R wr ∧ FE less i s R
theorem fe_0 {less : Nat} (hl : less ≤ 20) : FE less 0 (pr0 (1099511627775 - (less : Int))) noR := by
  refine ⟨GE.norm (k := 0) (pi_0 _ (by omega) (by omega)) (oi_0 _) (vi_0 _) fun i hi => ?_, ?_, ?_, rfl⟩
  · show (([] : List ByteArray)).length ≤ 80
    simp
  · have : Ph (pr0 (1099511627775 - (less : Int))) noR = 0 := rfl
    omega
  · show (([] : List ByteArray)).length = _
    simp
theorem FW.below {w wr w' : World} {P less i : Nat} (h : FW w P less i wr) (hb : Below wr.heap.size wr w') : FW w P less i w' := by
  obtain ⟨a, s, R, h1, h2⟩ := h
  exact ⟨a, s, R, PSn.below h1 hb, h2⟩
theorem FW.cells {w wr : World} {P less i : Nat} (h : FW w P less i wr) : ∃ g0 g1, wr.cell? ⟨P, 0, none⟩ = some (lP g0) ∧ wr.cell? ⟨P, 1, none⟩ = some (lP g1) := by
  obtain ⟨a, s, R, h1, -⟩ := h
  obtain ⟨-, -, pc, -⟩ := PSn.cells h1
  exact ⟨_, _, (pc 0 (by omega)).1, (pc 1 (by omega)).1⟩
def RW (w : World) (P less n : Nat) (wr : World) : Prop := ∃ a s R, PSn w P a s [] R wr ∧ RE less n s R
def IW (w : World) (P less : Nat) (s0 : Pr) (R0 : Nat → List Pk) (k : Nat) (wr : World) : Prop := ∃ a s R, PSn w P a s [] R wr ∧ JV (1099511627775 - (less : Int)) (decide (cntN R0 256 = 0)) (fun i => (s0.L i).b) (fun i => (s0.L i).b + ((s0.L i).o : Int)) (fun i => (s0.S i).length) 56 k s R
theorem bool_at {w : World} {a : Option Addr} {cap : Nat} {l : List Bool} (h : IsRow w 1 (.slice a l.length cap) l.length (l.map .bool)) (i : Nat) (hi : i < l.length) :
    ∃ b off, a = some ⟨b, off, none⟩ ∧ b < w.heap.size ∧ w.cell? ⟨b, off + i, none⟩ = some (.bool (l[i]'hi)) := by
  obtain ⟨b, off, cap', hv, hlt, _, _, hc⟩ := h.open (by omega)
  simp only [Value.slice.injEq] at hv
  exact ⟨b, off, hv.1, hlt, hc i _ (by simp [hi])⟩
theorem sndO_fit {f : Int} {s : Pr} {R : Nat → List Pk} (g : GE f s R) : (∀ p ∈ sndO (s.L 0) tx, p.x.size ≤ 140737488355328) ∧ (sndO (s.L 0) tx).length ≤ 1000 := by
  obtain ⟨-, -, h⟩ := (g.pi.en 0 (by omega)).snd (by omega) (t := tx) (by decide)
  refine ⟨fun p hp => Nat.le_trans (h p hp).2.2.2.2 (by omega), ?_⟩
  unfold sndO
  split
  · rw [pks_len]; unfold goK; omega
  · simp
theorem below_dr3 (W : World) : Below W.heap.size W W.drew := (Below.refl _ _).drew
set_option maxRecDepth 100000 in
set_option maxHeartbeats 4000000 in
theorem linkEnds_walk (x : Int) (v : Value) (l : List Bool) (w : World) (hrow : IsRow w 1 v l.length (l.map .bool)) (_hl : l.length ≤ 140737488355328) :
    Calls Try.prog 7 #[.int .i64 x, v] w fun e w' => e = .returned (.bool true) ∧ Below w.heap.size w w' := by
  obtain ⟨va, vcap, hvf⟩ := hrow.form
  subst hvf
  have HRow : Hid (∀ W, Below w.heap.size w W → IsRow W 1 (.slice va l.length vcap) l.length (l.map .bool)) := fun W h => hrow.below h
  have HAt : Hid (∀ W, Calls Try.prog 32 #[.int .i64 x, .int .i64 21] W fun e w' => e = .returned (.int .i64 (atN x 21 : Int)) ∧ w' = W) := fun W => at_any x 21 (by omega) (by omega) W
  have hle : atN x 21 ≤ 20 := by have := atN_lt x 21 (by decide); omega
  generalize atN x 21 = less at *
  have HFr : Hid (Calls Try.prog 26 #[.int .i64 (1099511627775 - (less : Int))] w fun e w' => ∃ P, e = .returned (.pointer (some ⟨P, 0, none⟩)) ∧ FW w P less 0 w') := (fresh_any (1099511627775 - (less : Int)) (St.nil w) (may_ends (by omega) (by omega)).1 (may_ends (by omega) (by omega)).2).mono fun e w' ⟨P, a, he, h⟩ => ⟨P, he, a, _, _, h, fe_0 hle⟩
  have HAw : Hid (∀ w, Calls Try.prog 10 #[] w fun e w' => e = .returned (.bool true) ∧ Below w.heap.size w w') := awake13_any
  have ws : IntKind.i64.wrap (1099511627775 - (less : Int)) = 1099511627775 - (less : Int) := wrapI (by omega) (by omega)
  clear hrow
  go_enter Try.func7, Try.ntmps7
  go_wp2_with fail
  refine (HAt.out _).mono ?_
  rintro e w0 ⟨rfl, hw0⟩
  have hw1 := hw0.symm
  subst hw1
  clear HAt hw0
  go_wp2_with fail
  refine HFr.out.mono ?_
  rintro e w1 ⟨P, rfl, T1⟩
  have HT1 : Hid (FW w P less 0 w1) := T1
  clear HFr T1 ws
  go_wp2_with fail
  refine (HAw.out _).mono ?_
  rintro e w2 ⟨rfl, hb2⟩
  have HT2 : Hid (FW w P less 0 w2) := HT1.out.below hb2
  obtain ⟨g0, g1, p0, p1⟩ := HT2.out.cells
  clear hb2 HT1 HAw
  have HCm : Hid (∀ a s R W, PSn w P a s [] R W → GE (1099511627775 - (less : Int)) s R → ∀ m : Nat, m < 2 → ∀ n : Int, n = (m : Int) → Calls Try.prog 31 #[.pointer (some ⟨P, 0, none⟩), .int .i64 n, .int .i64 0] W fun e w' => e = .returned (.bool true) ∧ ∃ a', PSn w P a' (cmF m s R).1 [] (cmF m s R).2 w') := fun a s R W h g m hm n hn => by subst hn; exact come_c h g hm
  go_upto_block 0 with fail
  go_cut [6, 7, 8] (fun i o e wx => i = i ∧ o = o ∧ e = e ∧ Hid (FW w P less 40 wx))
  case first =>
    as_aux_lemma =>
    go_wp2_with fail
    go_loopw [6, 7, 8] (fun i o e wr => o = o ∧ e = e ∧ ∃ k : Nat, k ≤ 40 ∧ i = .int .i64 (k : Int) ∧ Hid (FW w P less k wr)) (fun i _ _ _ => 40 - (intOf i).toNat)
    case atStart => exact ⟨rfl, rfl, 0, Nat.zero_le _, rfl, HT2⟩
    case round =>
      obtain ⟨-, -, k, hk, rfl, HF⟩ := hrel
      clear HT2 p0 p1
      by_cases hlk : k < 40
      · have dk : decide ((k : Int) < 40) = true := by simp; omega
        have wk : IntKind.i64.wrap ((k : Int) + 1) = (k : Int) + 1 := wrapI (by omega) (by omega)
        obtain ⟨a, s, R, hPS, hFE⟩ := HF.out
        obtain ⟨wa, hwa⟩ : ∃ wa, wa = wr := ⟨_, rfl⟩
        subst hwa
        have HSn : Hid (Calls Try.prog 13 #[lP (a.gl 0), .string tx] wa fun e w'' => ∃ r v', e = .returned (.tuple #[r, .int .i64 (sndE (s.L 0) tx)]) ∧ PSn w P (adL a 0 v') (setL s 0 (sndL (s.L 0) tx)) [pkT _ r (sndO (s.L 0) tx)] R w'') := hPS.sendL (by omega) (hFE.gi.pi.en 0 (by omega)).ok tx (by decide)
        have c0 := ((PSn.cells hPS).2.2.1 0 (by omega)).1
        have hs80 := hFE.gi.sl 0 (by omega)
        obtain ⟨eA, eB⟩ := hFE.snd hle
        have HFE : Hid (FE less k s R) := hFE
        have HSt : Hid (∀ W a' R', (R' = R ∨ R' = outR R (sndO (s.L 0) tx)) → PSn w P a' (snP s) [] R' W → FE less (k + 1) (snP s) R') := fun W a' R' hR _ => hFE.step hle hR
        have HOz : Hid ((∀ p ∈ sndO (s.L 0) tx, p.x.size ≤ 140737488355328) ∧ (sndO (s.L 0) tx).length ≤ 1000) := sndO_fit hFE.gi
        have HSp : Hid ((sndE (s.L 0) tx = 0 → snP s = setS (setL s 0 (sndL (s.L 0) tx)) 0 (s.S 0 ++ [tx])) ∧ (sndE (s.L 0) tx ≠ 0 → snP s = setL s 0 (sndL (s.L 0) tx))) := ⟨fun h => if_pos h, fun h => if_neg h⟩
        have hcn := hFE.gi.pi.net.2
        clear hPS hFE HF
        generalize a.gl 0 = gl0 at *
        generalize sndE (s.L 0) tx = E at *
        generalize sndO (s.L 0) tx = O at *
        generalize sndL (s.L 0) tx = L5 at *
        generalize snP s = sN at *
        go_wp2_with fail
        refine HSn.out.mono ?_
        rintro e w3 ⟨r, v3, rfl, T3⟩
        have HT3 : Hid (PSn w P (adL a 0 v3) (setL s 0 L5) [pkT _ r O] R w3) := T3
        clear T3 HSn c0
        go_upto_region 9 with fail
        go_cut [60] (fun b wx => b = .bool false ∧ w3 = wx)
        case first =>
          as_aux_lemma =>
          clear HT3 HSp HSt HCm
          by_cases hi : k < less
          · have e0 := eA hi
            subst e0
            have d1 : decide ((k : Int) < (less : Int)) = true := by simp; omega
            have d2 : decide (k < less) = true := by simp; omega
            clear eA eB
            go_wp2
            go_meet
            exact ⟨rfl, rfl⟩
          · have e0 := eB hi
            subst e0
            have d1 : decide ((k : Int) < (less : Int)) = false := by simp; omega
            have d2 : decide (k < less) = false := by simp; omega
            clear eA eB
            go_wp2
            go_meet
            exact ⟨rfl, rfl⟩
        case rest =>
          obtain ⟨rfl, rfl⟩ := hcut
          clear eA eB
          go_upto_if 62 with fail
          go_cut [63] (fun q wx => q = q ∧ ∃ a', Hid (PSn w P a' sN [pkT _ r O] R wx))
          case first =>
            as_aux_lemma =>
            by_cases hE : E = 0
            · subst hE
              have HSp0 := HSp.out.1 rfl
              obtain ⟨hpb, -, pc, pz, -⟩ := HT3.out.cells
              obtain ⟨-, ps, -⟩ := pc 0 (by omega)
              have ps : w3.cell? ⟨P, 3, none⟩ = some (a.vs 0) := ps
              have HTa : Hid (PSn w P (adL a 0 v3) (setL s 0 L5) (blkT _ w3.heap.size (.cells #[.string tx] 9 (0, 0)) :: [pkT _ r O]) R (w3.alloc (.cells #[.string tx] 9)).drew) := (HT3.out.alloc (.cells #[.string tx] 9)).below (below_dr2 _)
              have pa : (w3.alloc (.cells #[.string tx] 9)).cell? ⟨P, 3, none⟩ = some (a.vs 0) := by
                have h9 := HTa.out.cells
                rw [← drew_cell]
                exact (h9.2.2.1 0 (by omega)).2.1
              have HSR : Hid ((w3.alloc (.cells #[.string tx] 9)).drew.ownsRow w.heap.size 9 1 (a.vs 0) (s.S 0).length ((s.S 0).map .string)) := (HTa.out.rows (i := 0) (by omega)).1
              have HTR : Hid (IsRow (w3.alloc (.cells #[.string tx] 9)).drew 1 (.slice (some ⟨w3.heap.size, 0, none⟩) 1 1) [tx].length ([tx].map .string)) := (one_row w3 tx 9).below (below_dr2 _)
              have hz5 : w.heap.size ≤ (w3.alloc (.cells #[.string tx] 9)).drew.heap.size := HTa.out.to.size
              have HKP : Hid (∀ w7, (w3.alloc (.cells #[.string tx] 9)).drew.grownBy w7 (a.vs 0).ownBlock → w7.heap[P]? = some (.cells (pairC (adL a 0 v3)) 66 (0, 0))) := fun w7 hg => HTa.out.keepP (HTa.out.far (i := 0) (by omega)).2 hg
              have hln : (s.S 0).length + [tx].length ≤ 1000000 := by simp; omega
              clear hpb pc HSp HSt HCm
              go_wp2_with fail
              refine wp_region_held_drew (S := fun _ => True) (by kernel_rfl) trivial (fun hHeld => ?_)
              refine wpAnyH_take (i := 0) (v := ?_) rfl (by kernel_rfl) (by kernel_rfl) (by kernel_rfl) (fun _ _ _ h => h) (Or.inl ⟨by rfl, ?_⟩) hHeld ?_
              rotate_left 1
              · intro w9 hSw; go_simp; try with_reducible rfl
              change wpAnyH _ _ _ _ _ _ _ (Act.put _ (some 63) _) _
              simp only [Act.put, List.setIfInBounds_toArray, List.set_cons_zero, List.set_cons_succ]
              refine wpAnyH_take (i := 1) (v := ?_) rfl (by kernel_rfl) (by kernel_rfl) (by kernel_rfl) (fun _ _ _ h => h) (Or.inl ⟨by rfl, ?_⟩) hHeld ?_
              rotate_left 1
              · intro w9 hSw; go_simp; try with_reducible rfl
              change wpAnyH _ _ _ _ _ _ _ (Act.put _ (some 64) _) _
              simp only [Act.put, List.setIfInBounds_toArray, List.set_cons_zero, List.set_cons_succ]
              refine wpAnyH_take (i := 2) (v := ?_) rfl (by kernel_rfl) (by kernel_rfl) (by kernel_rfl) (fun _ _ _ h => h) (Or.inl ⟨by rfl, ?_⟩) hHeld ?_
              rotate_left 1
              · intro w9 hSw; go_simp; try with_reducible rfl
              change wpAnyH _ _ _ _ _ _ _ (Act.put _ (some 65) _) _
              simp only [Act.put, List.setIfInBounds_toArray, List.set_cons_zero, List.set_cons_succ]
              refine wpAnyH_take (i := 3) (v := ?_) rfl (by kernel_rfl) (by kernel_rfl) (by kernel_rfl) (fun _ _ _ h => h) (Or.inl ⟨by rfl, ?_⟩) hHeld ?_
              rotate_left 1
              · intro w9 hSw; go_simp; try with_reducible rfl
              change wpAnyH _ _ _ _ _ _ _ (Act.put _ (some 66) _) _
              simp only [Act.put, List.setIfInBounds_toArray, List.set_cons_zero, List.set_cons_succ]
              refine wpAnyH_take (i := 4) (v := ?_) rfl (by kernel_rfl) (by kernel_rfl) (by kernel_rfl) (fun _ _ _ h => h) (Or.inl ⟨by rfl, ?_⟩) hHeld ?_
              rotate_left 1
              · intro w9 hSw; go_simp; try with_reducible rfl
              change wpAnyH _ _ _ _ _ _ _ (Act.put _ (some 67) _) _
              simp only [Act.put, List.setIfInBounds_toArray, List.set_cons_zero, List.set_cons_succ]
              refine wpAnyH_take (i := 8) (v := ?_) rfl (by kernel_rfl) (by kernel_rfl) (by kernel_rfl) (fun _ _ _ h => h) (Or.inl ⟨by rfl, ?_⟩) hHeld ?_
              rotate_left 1
              · intro w9 hSw; go_simp; try with_reducible rfl
              change wpAnyH _ _ _ _ _ _ _ (Act.put _ (some 71) _) _
              simp only [Act.put, List.setIfInBounds_toArray, List.set_cons_zero, List.set_cons_succ]
              refine wpAnyH_take (i := 9) (v := ?_) rfl (by kernel_rfl) (by kernel_rfl) (by kernel_rfl) (fun _ _ _ h => h) (Or.inl ⟨by rfl, ?_⟩) hHeld ?_
              rotate_left 1
              · intro w9 hSw; go_simp; try with_reducible rfl
              change wpAnyH _ _ _ _ _ _ _ (Act.put _ (some 72) _) _
              simp only [Act.put, List.setIfInBounds_toArray, List.set_cons_zero, List.set_cons_succ]
              refine wpAnyH_ready (rs := [5, 6]) (by kernel_rfl) (by simp) ?_
              refine AllReadyH.cons rfl (fun K hK => ?_) (AllReadyH.cons rfl (fun K hK => ?_) AllReadyH.nil)
              · go_simp
                refine hK.out _ _ trivial (fun hHeld => ?_)
                clear hK K
                refine wpAnyH_ready (rs := [6]) (by kernel_rfl) (by simp) ?_
                refine AllReadyH.cons rfl (fun K hK => ?_) AllReadyH.nil
                go_simp
                refine hK.out _ _ (trivial) (fun hHeld => ?_)
                clear hK K
                refine wpAnyH_ready (rs := [7]) (by kernel_rfl) (by simp) ?_
                refine AllReadyH.cons rfl (fun K hK => ?_) AllReadyH.nil
                refine step_strs (w3.alloc (.cells #[.string tx] 9)).drew rfl (.tmp 68) (.tmp 69) (by rfl) w.heap.size (a.vs 0) (.slice (some ⟨w3.heap.size, 0, none⟩) 1 1) (s.S 0) [tx] (by rfl) (by rfl) HSR.out HTR.out hln hz5 ?_
                intro v8 w8 hown8 hgrow8 hat8
                have hk8 := pair_cells2 (HKP.out w8 hgrow8) (i := 0) (by omega)
                obtain ⟨c8, -, z8⟩ := hk8
                obtain ⟨va8, vcap8, rfl⟩ := (IsRow.own hown8).form
                refine hK.out _ _ trivial (fun hHeld => ?_)
                clear hK K
                change wpAnyH _ _ _ _ _ _ _ (Act.put _ (some 70) _) _
                simp only [Act.put, List.setIfInBounds_toArray, List.set_cons_zero, List.set_cons_succ]
                refine wpAnyH_take (i := 10) (v := ?_) rfl (by kernel_rfl) (by kernel_rfl) (by kernel_rfl) (fun _ _ _ h => h) (Or.inl ⟨by rfl, ?_⟩) hHeld ?_
                rotate_left 1
                · intro w9 hSw; go_simp; try with_reducible rfl
                change wpAnyH _ _ _ _ _ _ _ (Act.put _ (some 73) _) _
                simp only [Act.put, List.setIfInBounds_toArray, List.set_cons_zero, List.set_cons_succ]
                refine wpAnyH_ready (rs := [11]) (by kernel_rfl) (by simp) ?_
                refine AllReadyH.cons rfl (fun K hK => ?_) AllReadyH.nil
                go_simp
                refine hK.out _ _ trivial (fun hHeld => ?_)
                clear hK K hHeld
                refine wpAnyH_done (by kernel_rfl) ?_ _
                have HX9 : Hid (PSn w P (adS (adL a 0 v3) 0 (.slice va8 (s.S 0 ++ [tx]).length vcap8)) (setS (setL s 0 L5) 0 (s.S 0 ++ [tx])) [pkT _ r O] R (w8.setCell ⟨P, 3, none⟩ (.slice va8 (s.S 0 ++ [tx]).length vcap8))) := (HTa.out.sent (i := 0) (by omega) hown8 hgrow8 hat8).tl
                rw [← HSp0] at HX9
                clear hown8 hgrow8 hat8 c8 z8 HTa HSR HTR HKP ps pz pa HSp0
                rw [List.length_append, List.length_singleton] at HX9
                go_wp2_with fail
                go_meet
                exact ⟨trivial, _, HX9⟩
              · go_simp
                refine hK.out _ _ trivial (fun hHeld => ?_)
                clear hK K
                refine wpAnyH_ready (rs := [5]) (by kernel_rfl) (by simp) ?_
                refine AllReadyH.cons rfl (fun K hK => ?_) AllReadyH.nil
                go_simp
                refine hK.out _ _ (trivial) (fun hHeld => ?_)
                clear hK K
                refine wpAnyH_ready (rs := [7]) (by kernel_rfl) (by simp) ?_
                refine AllReadyH.cons rfl (fun K hK => ?_) AllReadyH.nil
                refine step_strs (w3.alloc (.cells #[.string tx] 9)).drew rfl (.tmp 68) (.tmp 69) (by rfl) w.heap.size (a.vs 0) (.slice (some ⟨w3.heap.size, 0, none⟩) 1 1) (s.S 0) [tx] (by rfl) (by rfl) HSR.out HTR.out hln hz5 ?_
                intro v8 w8 hown8 hgrow8 hat8
                have hk8 := pair_cells2 (HKP.out w8 hgrow8) (i := 0) (by omega)
                obtain ⟨c8, -, z8⟩ := hk8
                obtain ⟨va8, vcap8, rfl⟩ := (IsRow.own hown8).form
                refine hK.out _ _ trivial (fun hHeld => ?_)
                clear hK K
                change wpAnyH _ _ _ _ _ _ _ (Act.put _ (some 70) _) _
                simp only [Act.put, List.setIfInBounds_toArray, List.set_cons_zero, List.set_cons_succ]
                refine wpAnyH_take (i := 10) (v := ?_) rfl (by kernel_rfl) (by kernel_rfl) (by kernel_rfl) (fun _ _ _ h => h) (Or.inl ⟨by rfl, ?_⟩) hHeld ?_
                rotate_left 1
                · intro w9 hSw; go_simp; try with_reducible rfl
                change wpAnyH _ _ _ _ _ _ _ (Act.put _ (some 73) _) _
                simp only [Act.put, List.setIfInBounds_toArray, List.set_cons_zero, List.set_cons_succ]
                refine wpAnyH_ready (rs := [11]) (by kernel_rfl) (by simp) ?_
                refine AllReadyH.cons rfl (fun K hK => ?_) AllReadyH.nil
                go_simp
                refine hK.out _ _ trivial (fun hHeld => ?_)
                clear hK K hHeld
                refine wpAnyH_done (by kernel_rfl) ?_ _
                have HX9 : Hid (PSn w P (adS (adL a 0 v3) 0 (.slice va8 (s.S 0 ++ [tx]).length vcap8)) (setS (setL s 0 L5) 0 (s.S 0 ++ [tx])) [pkT _ r O] R (w8.setCell ⟨P, 3, none⟩ (.slice va8 (s.S 0 ++ [tx]).length vcap8))) := (HTa.out.sent (i := 0) (by omega) hown8 hgrow8 hat8).tl
                rw [← HSp0] at HX9
                clear hown8 hgrow8 hat8 c8 z8 HTa HSR HTR HKP ps pz pa HSp0
                rw [List.length_append, List.length_singleton] at HX9
                go_wp2_with fail
                go_meet
                exact ⟨trivial, _, HX9⟩
            · have n0 : (E == 0) = false := by simpa using hE
              have HSp0 := HSp.out.2 hE
              have HX : Hid (PSn w P (adL a 0 v3) sN [pkT _ r O] R w3) := by rw [HSp0]; exact HT3
              clear hE HSp0 HSp HSt HCm HT3
              go_wp2_with fail
              go_meet
              exact ⟨trivial, _, HX⟩
          case rest =>
            obtain ⟨-, a4, HT4⟩ := hcut
            clear HT3 HSp
            obtain ⟨w4, hw4⟩ : ∃ w4, w4 = wc := ⟨_, rfl⟩
            subst hw4
            have HOu : Hid (Calls Try.prog 29 #[.pointer (some ⟨P, 0, none⟩), r] w4 fun e w' => e = .returned (.tuple #[]) ∧ PSn w P a4 sN [] (outR R O) w') := (out_any HT4.out hcn HOz.out.1 HOz.out.2).mono fun _ _ ⟨he, h⟩ => ⟨he, h.tl⟩
            have HRw4 := HRow.out w4 HT4.out.to
            obtain ⟨bb, hbb⟩ : ∃ bb : Bool, bb = !(l.getD k false) := ⟨_, rfl⟩
            go_upto_region 13 with fail
            go_cut [84] (fun b wx => b = .bool bb ∧ w4 = wx)
            case first =>
              as_aux_lemma =>
              clear HOu HT4 HSt HCm
              by_cases hi : k < l.length
              · obtain ⟨b, off, rfl, hlt, cb⟩ := bool_at HRw4 k hi
                have d1 : decide ((l.length : Int) ≤ (k : Int)) = false := by simp; omega
                have d2 : decide (l.length ≤ k) = false := by simp; omega
                have i1 : (0 : Int) ≤ (k : Int) := by omega
                have i2 : (k : Int) < (l.length : Int) := by omega
                have eb : (!(l[k]'hi)) = bb := by rw [hbb, List.getD_eq_getElem?_getD, List.getElem?_eq_getElem hi]; rfl
                generalize (l[k]'hi) = lb at *
                clear hbb HRw4
                subst eb
                go_wp2
                go_meet
                exact ⟨rfl, rfl⟩
              · have d1 : decide ((l.length : Int) ≤ (k : Int)) = true := by simp; omega
                have d2 : decide (l.length ≤ k) = true := by simp; omega
                have eb : bb = true := by rw [hbb, List.getD_eq_getElem?_getD, List.getElem?_eq_none (by omega)]; rfl
                clear hbb HRw4
                subst eb
                go_wp2
                go_meet
                exact ⟨rfl, rfl⟩
            case rest =>
              obtain ⟨rfl, rfl⟩ := hcut
              clear hbb HRw4
              go_upto_if 84 with fail
              go_cut [85] (fun q wx => q = q ∧ ∃ a' R', (R' = R ∨ R' = outR R O) ∧ Hid (PSn w P a' sN [] R' wx))
              case first =>
                as_aux_lemma =>
                cases bb with
                | true =>
                  go_wp2_with fail
                  refine HOu.out.mono ?_
                  rintro e w5 ⟨rfl, T5⟩
                  have HT5 : Hid (PSn w P a4 sN [] (outR R O) w5) := T5
                  clear T5 HOu HT4
                  go_wp2_with fail
                  go_meet
                  exact ⟨trivial, _, _, .inr rfl, HT5⟩
                | false =>
                  have HT5 : Hid (PSn w P a4 sN [] R w4) := HT4.out.tl
                  clear HOu HT4
                  go_wp2_with fail
                  go_meet
                  exact ⟨trivial, _, _, .inl rfl, HT5⟩
              case rest =>
                obtain ⟨-, a5, R5, hR5, HT5⟩ := hcut
                clear HOu HT4
                have hF5 := HSt.out _ _ _ hR5 HT5.out
                have HF5 : Hid (FE less (k + 1) sN R5) := hF5
                obtain ⟨w5, hw5⟩ : ∃ w5, w5 = wc := ⟨_, rfl⟩
                subst hw5
                have HA7 : Hid (Calls Try.prog 31 #[.pointer (some ⟨P, 0, none⟩), .int .i64 1, .int .i64 0] w5 fun e w' => e = .returned (.bool true) ∧ ∃ a', PSn w P a' (cmF 1 sN R5).1 [] (cmF 1 sN R5).2 w') := HCm.out _ _ _ _ HT5.out hF5.gi 1 (by omega) 1 rfl
                have HB7 : Hid (∀ W a', PSn w P a' (cmF 1 sN R5).1 [] (cmF 1 sN R5).2 W → Calls Try.prog 31 #[.pointer (some ⟨P, 0, none⟩), .int .i64 0, .int .i64 0] W fun e w' => e = .returned (.bool true) ∧ ∃ a', PSn w P a' (cmF 0 (cmF 1 sN R5).1 (cmF 1 sN R5).2).1 [] (cmF 0 (cmF 1 sN R5).1 (cmF 1 sN R5).2).2 w') := fun W a' h => HCm.out _ _ _ _ h (hF5.gi.come (by omega)) 0 (by omega) 0 rfl
                have hF6 : FE less (k + 1) (cmF 0 (cmF 1 sN R5).1 (cmF 1 sN R5).2).1 (cmF 0 (cmF 1 sN R5).1 (cmF 1 sN R5).2).2 := (hF5.come (by omega)).come (by omega)
                have HRt : Hid (∀ W a', PSn w P a' (cmF 0 (cmF 1 sN R5).1 (cmF 1 sN R5).2).1 [] (cmF 0 (cmF 1 sN R5).1 (cmF 1 sN R5).2).2 W → Calls Try.prog 28 #[.pointer (some ⟨P, 0, none⟩)] W fun e w' => e = .returned (.bool true) ∧ FW w P less (k + 1) w') := fun W a' h => (right_any h (fun i hi => (hF6.gi.pi.en i hi).ok) (fun i hi => (hF6.gi.oi.rcv i hi).1.early (hF6.gi.oi.rcv i hi).2) (fun i hi => (hF6.gi.oi.rcv i hi).1.pre) (fun i hi => by have := hF6.gi.sl i hi; omega)).mono fun e w' ⟨he, h4⟩ => ⟨he, a', _, _, h4, hF6⟩
                clear hF5 hF6 HT5 HF5 HSt HCm hR5 HFE
                go_wp2_with fail
                refine HA7.out.mono ?_
                rintro e w9 ⟨rfl, a9, T9⟩
                have HT9 : Hid (PSn w P a9 (cmF 1 sN R5).1 [] (cmF 1 sN R5).2 w9) := T9
                clear T9 HA7
                go_wp2_with fail
                refine (HB7.out _ _ HT9.out).mono ?_
                rintro e w10 ⟨rfl, a10, T10⟩
                have HT10 : Hid (PSn w P a10 (cmF 0 (cmF 1 sN R5).1 (cmF 1 sN R5).2).1 [] (cmF 0 (cmF 1 sN R5).1 (cmF 1 sN R5).2).2 w10) := T10
                clear T10 HB7 HT9
                go_wp2_with fail
                refine (HRt.out _ _ HT10.out).mono ?_
                rintro e w11 ⟨rfl, T11⟩
                have HF11 : Hid (FW w P less (k + 1) w11) := T11
                clear T11 HRt HT10
                go_wp2
                go_roundw
                case rel => exact ⟨trivial, trivial, k + 1, by omega, by simp, HF11⟩
                case measure => simp [intOf]; omega
      · have hk4 : k = 40 := by omega
        subst hk4
        have dk : decide (((40 : Nat) : Int) < 40) = false := by decide
        go_wp2
        go_meet
        exact ⟨trivial, trivial, trivial, HF⟩
  case rest =>
    obtain ⟨-, -, -, HF0⟩ := hcut
    have HW0 : Hid (RW w P less 0 wc) := by
      obtain ⟨a, s, R, h1, h2⟩ := HF0.out
      exact ⟨a, s, R, h1, h2.all hle⟩
    clear HF0 HT2 p0 p1 HRow
    obtain ⟨wa, hwa⟩ : ∃ wa, wa = wc := ⟨_, rfl⟩
    subst hwa
    have HCt : Hid (∀ a s R W, PSn w P a s [] R W → GE (1099511627775 - (less : Int)) s R → Calls Try.prog 30 #[nP a.gn] W fun e w' => e = .returned (.int .i64 ((cntN R 256 : Nat) : Int)) ∧ PSn w P a s [] R w') := fun a s R W h g => count_c h g
    go_upto_block 2 with fail
    go_cut [9, 10] (fun n i wx => n = n ∧ i = i ∧ Hid (RW w P less 8 wx))
    case first =>
      as_aux_lemma =>
      go_wp2_with fail
      go_loopw [9, 10] (fun i q wr => q = q ∧ ∃ n : Nat, n ≤ 8 ∧ i = .int .i64 (n : Int) ∧ Hid (RW w P less n wr)) (fun i _ _ => 8 - (intOf i).toNat)
      case atStart => exact ⟨rfl, 0, Nat.zero_le _, rfl, HW0⟩
      case round =>
        clear HW0
        obtain ⟨-, n, hn, rfl, HR⟩ := hrel
        by_cases hln : n < 8
        · have dn : decide ((n : Int) < 8) = true := by simp; omega
          have wn : IntKind.i64.wrap ((n : Int) + 1) = (n : Int) + 1 := wrapI (by omega) (by omega)
          obtain ⟨a, s, R, hPS, hRV⟩ := HR.out
          have HRV : Hid (RE less n s R) := hRV
          have hG0 := hRV.gi
          have HIV : Hid (∀ W a', PSn w P a' s [] (outR R (pks (s.L 0) 0 (s.L 0).o)) W → IW w P less s R 0 W) := fun W a' h => ⟨a', _, _, h, hRV.tick⟩
          obtain ⟨-, -, pc, -, -⟩ := PSn.cells hPS
          have c0 := (pc 0 (by omega)).1
          have HC0 : Hid (Calls Try.prog 20 #[lP (a.gl 0)] wr fun e w' => ∃ r, e = .returned r ∧ PSn w P a s [pkT _ r (pks (s.L 0) 0 (s.L 0).o)] R w') := tick_c hPS hG0 (by omega)
          have HO0 : Hid (∀ W r, PSn w P a s [pkT _ r (pks (s.L 0) 0 (s.L 0).o)] R W → Calls Try.prog 29 #[.pointer (some ⟨P, 0, none⟩), r] W fun e w' => e = .returned (.tuple #[]) ∧ PSn w P a s [] (outR R (pks (s.L 0) 0 (s.L 0).o)) w') := fun W r h => out_c hG0 (by omega) h
          clear hPS hRV pc hG0 HR
          generalize a.gl 0 = gl0 at *
          go_wp2_with fail
          refine HC0.out.mono ?_
          rintro e w3 ⟨r3, rfl, T3⟩
          have HT3 : Hid (PSn w P a s [pkT _ r3 (pks (s.L 0) 0 (s.L 0).o)] R w3) := T3
          clear T3 HC0 c0
          go_wp2_with fail
          refine (HO0.out _ _ HT3.out).mono ?_
          rintro e w6 ⟨rfl, T6⟩
          have HI0 : Hid (IW w P less s R 0 w6) := HIV.out _ _ T6
          clear T6 HT3 HO0 HIV
          go_wp2_with fail
          go_loopw [10] (fun i wr => ∃ k : Nat, k ≤ 200 ∧ i = .int .i64 (k : Int) ∧ Hid (IW w P less s R k wr)) (fun i _ => 200 - (intOf i).toNat)
          case atStart => exact ⟨0, Nat.zero_le _, rfl, HI0⟩
          case round =>
            clear HI0
            obtain ⟨k, hk, rfl, HI⟩ := hrel
            by_cases hlk : k < 200
            · have dk : decide ((k : Int) < 200) = true := by simp; omega
              have wk : IntKind.i64.wrap ((k : Int) + 1) = (k : Int) + 1 := wrapI (by omega) (by omega)
              obtain ⟨a7, s7, R7, hP7, hI7⟩ := HI.out
              have HV7 : Hid (JV (1099511627775 - (less : Int)) (decide (cntN R 256 = 0)) (fun i => (s.L i).b) (fun i => (s.L i).b + ((s.L i).o : Int)) (fun i => (s.S i).length) 56 k s7 R7) := hI7
              have c2 := (PSn.cells hP7).2.1
              have HCt7 : Hid (Calls Try.prog 30 #[nP a7.gn] wr fun e w' => e = .returned (.int .i64 ((cntN R7 256 : Nat) : Int)) ∧ PSn w P a7 s7 [] R7 w') := HCt.out _ _ _ _ hP7 hI7.gi
              have HA7 : Hid (∀ W, PSn w P a7 s7 [] R7 W → Calls Try.prog 31 #[.pointer (some ⟨P, 0, none⟩), .int .i64 0, .int .i64 0] W fun e w' => e = .returned (.bool true) ∧ ∃ a', PSn w P a' (cmF 0 s7 R7).1 [] (cmF 0 s7 R7).2 w') := fun W h => HCm.out _ _ _ _ h hI7.gi 0 (by omega) 0 rfl
              have HB7 : Hid (∀ W a', PSn w P a' (cmF 0 s7 R7).1 [] (cmF 0 s7 R7).2 W → Calls Try.prog 31 #[.pointer (some ⟨P, 0, none⟩), .int .i64 1, .int .i64 0] W fun e w' => e = .returned (.bool true) ∧ ∃ a', PSn w P a' (cmF 1 (cmF 0 s7 R7).1 (cmF 0 s7 R7).2).1 [] (cmF 1 (cmF 0 s7 R7).1 (cmF 0 s7 R7).2).2 w') := fun W a' h => HCm.out _ _ _ _ h (hI7.gi.come (by omega)) 1 (by omega) 1 rfl
              clear hP7 hI7 HI HCt HCm
              generalize a7.gn = gn7 at *
              go_wp2_with fail
              refine HCt7.out.mono ?_
              rintro e w8 ⟨rfl, T8⟩
              have HT8 : Hid (PSn w P a7 s7 [] R7 w8) := T8
              clear T8 HCt7 c2
              by_cases hz : cntN R7 256 = 0
              · have HRn : Hid (RW w P less (n + 1) w8) := ⟨a7, s7, R7, HT8.out, JV.done hle HRV.out HV7.out (.inl hz)⟩
                rw [hz]
                clear hz HA7 HB7 HT8 HV7
                go_wp2
                go_roundw
                case rel => exact ⟨trivial, n + 1, by omega, by simp, HRn⟩
                case measure => simp [intOf]; omega
              · have HNe : Hid (cntN R7 256 ≠ 0) := hz
                have hz' : 0 < cntN R7 256 := by omega
                clear hz
                generalize cntN R7 256 = cc at hz' ⊢
                go_wp2_with fail
                refine (HA7.out _ HT8.out).mono ?_
                rintro e w9 ⟨rfl, a9, T9⟩
                have HT9 : Hid (PSn w P a9 (cmF 0 s7 R7).1 [] (cmF 0 s7 R7).2 w9) := T9
                clear T9 HA7 HT8
                go_wp2_with fail
                refine (HB7.out _ _ HT9.out).mono ?_
                rintro e w10 ⟨rfl, a10, T10⟩
                have HI10 : Hid (IW w P less s R (k + 1) w10) := ⟨a10, _, _, T10, JV.step (by omega) HV7.out HNe.out⟩
                clear T10 HB7 HT9 HV7 HNe
                go_wp2
                go_roundw
                case rel => exact ⟨k + 1, by omega, by simp, HI10⟩
                case measure => simp [intOf]; omega
            · have hk5 : k = 200 := by omega
              obtain ⟨a7, s7, R7, hP7, hI7⟩ := HI.out
              have HRn : Hid (RW w P less (n + 1) wr) := ⟨a7, s7, R7, hP7, JV.done hle HRV.out hI7 (.inr hk5)⟩
              have dk : decide ((k : Int) < 200) = false := by simp; omega
              clear hP7 hI7 HI hk5 HCt HCm
              go_wp2
              go_roundw
              case rel => exact ⟨trivial, n + 1, by omega, by simp, HRn⟩
              case measure => simp [intOf]; omega
        · have hn20 : n = 8 := by omega
          subst hn20
          have dn : decide (((8 : Nat) : Int) < 8) = false := by decide
          go_wp2
          go_meet
          exact ⟨trivial, trivial, HR⟩
    case rest =>
      obtain ⟨-, -, HR⟩ := hcut
      clear HCm HCt HW0
      obtain ⟨wb, hwb⟩ : ∃ wb, wb = wc := ⟨_, rfl⟩
      subst hwb
      obtain ⟨a, s, R, hPS, hRV⟩ := HR.out
      obtain ⟨r1, r2, r3⟩ := hRV.all
      have HB : Hid (Below w.heap.size w wb) := PSn.to hPS
      obtain ⟨-, -, pc, -, -⟩ := PSn.cells hPS
      obtain ⟨c0, -, -⟩ := pc 0 (by omega)
      obtain ⟨c1, -, c6⟩ := pc 1 (by omega)
      have o1 := (PSn.rows hPS (i := 1) (by omega)).2
      obtain ⟨ga1, gc1, eg1⟩ := (IsRow.own o1).form
      rw [r1] at eg1
      rw [eg1] at c6
      have c6 : wb.cell? ⟨P, 6, none⟩ = some (.slice ga1 less gc1) := c6
      have HWa : Hid (Calls Try.prog 24 #[lP (a.gl 1)] wb fun e w' => e = .returned (.int .i64 1099511627775) ∧ w' = wb) := by
        have := wants_any (PSn.lnk hPS (i := 1) (by omega))
        rw [r2] at this
        exact this
      have HLe : Hid (Calls Try.prog 22 #[lP (a.gl 0)] wb fun e w' => e = .returned (.int .i64 0) ∧ w' = wb) := by
        have := left_any (PSn.lnk hPS (i := 0) (by omega))
        rw [r3] at this
        exact this
      clear hPS hRV r1 r2 r3 HR pc o1 eg1
      generalize a.gl 0 = gl0 at *
      generalize a.gl 1 = gl1 at *
      go_wp2_with fail
      refine HWa.out.mono ?_
      rintro e w3 ⟨rfl, h3⟩
      have h3' := h3.symm
      subst h3'
      clear HWa h3
      go_wp2_with fail
      refine HLe.out.mono ?_
      rintro e w3 ⟨rfl, h3⟩
      have h3' := h3.symm
      subst h3'
      clear HLe h3
      go_wp2
      go_ret
      exact ⟨rfl, HB.out⟩
end Go.Proofs.Ytiejehaaglpkoaa
