/- NetLimits: for every int the law returns true. -/
import Derived.Test.YthjdbomgdffhfaaHO
namespace Go.Proofs.Ythjdbomgdffhfaa
open Go.RowKit

/-- The i-th packet of the law. -/
def limP (i : Nat) : Pk := ⟨1, 2 + (i : Int) % 14, 1, 1, (i : Int) + 1, 0, ⟨#[]⟩⟩
theorem lim_chk (i : Nat) (h : i < 1000) : chkP (limP i) = true := by
  unfold chkP limP nodeB cntB seqB
  dsimp only
  simp only [Bool.and_eq_true, decide_eq_true_eq, Bool.or_eq_true, Bool.not_eq_true', decide_eq_false_iff_not]
  exact ⟨⟨by omega, by omega⟩, ⟨by omega, by omega⟩, by omega, ⟨by omega, by omega⟩, ⟨by omega, by omega⟩, ⟨by omega, by omega⟩, ⟨by omega, by omega⟩, by decide, .inl (by decide)⟩
theorem lim_rix (i : Nat) : rix (limP i).f (limP i).t = 18 + i % 14 := by
  show (1 : Int).toNat * 16 + (2 + (i : Int) % 14).toNat = _
  omega
/-- The rows behind so many packets. -/
structure Lim (R : Nat → List Pk) (i : Nat) : Prop where
  cnt : cntN R 256 = min i 400
  wf : WFr R
  one : ∀ c, c < 256 → R c ≠ [] → c / 16 = 1
  two : 0 < i → R 18 ≠ []
theorem Lim.start : Lim noR 0 := ⟨by rw [cnt_none]; rfl, fun c _ h => absurd rfl h, fun c _ h => absurd rfl h, fun h => absurd h (by omega)⟩
theorem Lim.send {R : Nat → List Pk} {i : Nat} (h : Lim R i) (hi : i < 1000) : Lim (sendR R (limP i)) (i + 1) ∧ sendE R (limP i) = if i < 400 then 0 else 6 := by
  have hk := lim_chk i hi
  have hc := h.cnt
  by_cases hf : i < 400
  · have hc4 : cntN R 256 < 400 := by omega
    have e : sendR R (limP i) = up R (18 + i % 14) (R (18 + i % 14) ++ [limP i]) := by unfold sendR; rw [if_pos ⟨hk, hc4⟩, lim_rix]
    have hu := cntN_up R (18 + i % 14) (R (18 + i % 14) ++ [limP i]) 256 (by omega)
    rw [List.length_append, List.length_singleton] at hu
    rw [e]
    refine ⟨⟨by omega, fun c hc hne => ?_, fun c hc hne => ?_, fun _ => ?_⟩, ?_⟩
    · by_cases e : c = 18 + i % 14
      · subst e
        rw [show (18 + i % 14) / 16 = 1 by omega, show (18 + i % 14) % 16 = 2 + i % 14 by omega]
        simp [hopB, nodeB]; omega
      · rw [up_other _ _ e] at hne; exact h.wf c hc hne
    · by_cases e : c = 18 + i % 14
      · omega
      · rw [up_other _ _ e] at hne; exact h.one c hc hne
    · by_cases e : 18 = 18 + i % 14
      · rw [← e, up_same]; simp
      · rw [up_other _ _ e]; exact h.two (by omega)
    · unfold sendE; rw [if_pos hk, if_pos hc4, if_pos hf]
  · have hc4 : ¬ cntN R 256 < 400 := by omega
    have e : sendR R (limP i) = R := by unfold sendR; rw [if_neg (fun q => hc4 q.2)]
    rw [e]
    refine ⟨⟨by omega, h.wf, h.one, fun _ => h.two (by omega)⟩, ?_⟩
    unfold sendE; rw [if_pos hk, if_neg hc4, if_neg hf]
theorem Lim.twice {R : Nat → List Pk} {i : Nat} (h : Lim R i) (hi : 0 < i) : (twiceE R 1 2 0 = if i < 400 then 0 else 6) ∧ cntN (twiceR R 1 2 0) 256 ≤ 400 ∧ WFr (twiceR R 1 2 0) ∧ ∀ c, c < 256 → twiceR R 1 2 0 c ≠ [] → c / 16 = 1 := by
  have h2 := h.two hi
  have hlen : 0 < (R 18).length := List.length_pos_iff.2 h2
  have hl : lookI R 1 2 0 = 0 := by
    unfold lookI
    rw [if_pos (by decide), show rix 1 2 = 18 from rfl, if_neg (by omega)]
  have hc := h.cnt
  by_cases hf : i < 400
  · have hc4 : cntN R 256 < 400 := by omega
    have e1 : twiceE R 1 2 0 = 0 := by unfold twiceE; rw [if_pos hl, if_pos hc4]
    have e2 : twiceR R 1 2 0 = up R 18 (R 18 ++ [(R 18)[(0 : Int).toNat]?.getD zP]) := by unfold twiceR; rw [if_pos e1]; rfl
    have hu := cntN_up R 18 (R 18 ++ [(R 18)[(0 : Int).toNat]?.getD zP]) 256 (by omega)
    rw [List.length_append, List.length_singleton] at hu
    rw [e2]
    refine ⟨by rw [e1, if_pos hf], by omega, fun c hc hne => ?_, fun c hc hne => ?_⟩
    · by_cases e : c = 18
      · subst e; decide
      · rw [up_other _ _ e] at hne; exact h.wf c hc hne
    · by_cases e : c = 18
      · omega
      · rw [up_other _ _ e] at hne; exact h.one c hc hne
  · have hc4 : ¬ cntN R 256 < 400 := by omega
    have e1 : twiceE R 1 2 0 = 6 := by unfold twiceE; rw [if_pos hl, if_neg hc4]
    have e2 : twiceR R 1 2 0 = R := by unfold twiceR; rw [e1]; rfl
    rw [e2]
    exact ⟨by rw [e1, if_neg hf], by omega, h.wf, h.one⟩
theorem cnt_zero {R : Nat → List Pk} : ∀ n, (∀ c, c < n → R c = []) → cntN R n = 0
  | 0, _ => rfl
  | n + 1, h => by
    show cntN R n + (R n).length = 0
    rw [cnt_zero n (fun c hc => h c (by omega)), h n (by omega)]; rfl
theorem clr_all {R : Nat → List Pk} (h : ∀ c, c < 256 → R c ≠ [] → c / 16 = 1) : cntN (clrK R 1 16) 256 = 0 :=
  cnt_zero 256 fun c hc => by
    unfold clrK
    split
    · rfl
    · rename_i hn
      rcases Classical.em (R c = []) with e | e
      · exact e
      · exact absurd (.inl ⟨h c hc e, by omega⟩) hn
theorem many_nat (x : Int) : ∃ N : Nat, 390 ≤ N ∧ N ≤ 409 ∧ 390 + x.tmod 20 % 20 = (N : Int) ∧ -19 ≤ x.tmod 20 ∧ x.tmod 20 ≤ 19 := by
  have h1 : -19 ≤ x.tmod 20 ∧ x.tmod 20 ≤ 19 := by
    have a := Int.tmod_lt_of_pos x (show (0 : Int) < 20 by omega)
    have b := Int.tmod_lt_of_pos (-x) (show (0 : Int) < 20 by omega)
    rw [Int.neg_tmod] at b
    omega
  exact ⟨(390 + x.tmod 20 % 20).toNat, by omega, by omega, by omega, h1.1, h1.2⟩
set_option maxRecDepth 100000 in
set_option maxHeartbeats 4000000 in
theorem netLimits_walk (x : Int) (w : World) : Calls Try.prog 6 #[.int .i64 x] w fun e w' => e = .returned (.bool true) ∧ Below w.heap.size w w' := by
  obtain ⟨N, hN1, hN2, hN, m1, m2⟩ := many_nat x
  have HP : Hid (∀ f t s x w, Calls Try.prog 21 #[.int .i64 f, .int .i64 t, .int .i64 s, .string x] w fun e w' => e = .returned (pV ⟨f, t, 1, 1, s, 0, x⟩) ∧ Below w.heap.size w w') := packet_any
  have HAw : Hid (∀ w, Calls Try.prog 9 #[] w fun e w' => e = .returned (.bool true) ∧ Below w.heap.size w w') := awake12_any
  have S0 := StN.new w
  have HNw : Hid (∀ g, w.heap.size = g → Calls Try.prog 8 #[] w fun e w' => e = .returned (nP g) ∧ w' = w.alloc (.cells zNet 69)) := fun g hg => by have := new_any w; rw [hg] at this; exact this
  obtain ⟨g, hg⟩ : ∃ g, w.heap.size = g := ⟨_, rfl⟩
  rw [hg] at S0
  have H0 : Hid (StN w g [] noR noA (w.alloc (.cells zNet 69))) := S0
  have HC : Hid (Calls Try.prog 8 #[] w fun e w' => e = .returned (nP g) ∧ w' = w.alloc (.cells zNet 69)) := HNw.out g hg
  have HG : Hid (w.heap.size = g) := hg
  clear S0 HNw hg
  have b1 : IntKind.i64.wrap (x.tmod 20 + 20) = x.tmod 20 + 20 := by rw [IntKind.wrap_i64]; omega
  go_enter Try.func6, Try.ntmps6
  go_wp2_with fail
  refine HC.out.mono ?_
  rintro e w1 ⟨rfl, rfl⟩
  go_wp2_with fail
  refine (HAw.out _).mono ?_
  rintro e w2 ⟨rfl, hb⟩
  have T2 : Hid (StN w g [] noR noA w2) := H0.out.below hb
  clear hb H0 HC HAw
  go_wp2_with fail
  go_loopw [4, 5] (fun i _ wr => ∃ k : Nat, k ≤ N ∧ i = .int .i64 (k : Int) ∧ Hid (∃ R, StN w g [] R noA wr ∧ Lim R k)) (fun i _ _ => N - (intOf i).toNat)
  case atStart => exact ⟨0, Nat.zero_le _, rfl, noR, T2.out, Lim.start⟩
  case round =>
    clear T2
    obtain ⟨k, hk, rfl, HR⟩ := hrel
    by_cases hlk : k < N
    · have dk : decide ((k : Int) < (N : Int)) = true := by simp; omega
      have c1 : IntKind.i64.wrap ((k : Int) + 1) = (k : Int) + 1 := by rw [IntKind.wrap_i64]; omega
      have c2 : IntKind.i64.wrap (2 + (k : Int) % 14) = 2 + (k : Int) % 14 := by rw [IntKind.wrap_i64]; omega
      have HS : Hid (∀ w3, Below wr.heap.size wr w3 → Calls Try.prog 18 #[nP g, pV (limP k)] w3 fun e w' => e = .returned (.int .i64 (if k < 400 then 0 else 6)) ∧ ∃ R, StN w g [] R noA w' ∧ Lim R (k + 1)) := fun w3 hb => by
        obtain ⟨R, hs, hl⟩ := HR.out
        have hc := hl.cnt
        obtain ⟨h1, h2⟩ := hl.send (by omega)
        have := (hs.below hb).call (fun V hv => send_any (limP k) (by show (0 : Nat) ≤ _; omega) hv (by omega))
        rw [h2] at this
        exact this.mono fun e w' h => ⟨h.1, _, h.2, h1⟩
      go_wp2_with fail
      refine (HP.out _ _ _ _ _).mono ?_
      rintro e w3 ⟨rfl, hb⟩
      have HSd : Hid (Calls Try.prog 18 #[nP g, pV ⟨1, 2 + (k : Int) % 14, 1, 1, (k : Int) + 1, 0, ⟨#[]⟩⟩] w3 fun e w' => e = .returned (.int .i64 (if k < 400 then 0 else 6)) ∧ ∃ R, StN w g [] R noA w' ∧ Lim R (k + 1)) := HS.out w3 hb
      clear hb HS HR
      go_wp2_with fail
      refine HSd.out.mono ?_
      rintro e w4 ⟨rfl, hR⟩
      have HR : Hid (∃ R, StN w g [] R noA w4 ∧ Lim R (k + 1)) := hR
      clear hR HSd
      by_cases h4 : k < 400
      · have d4 : decide ((k : Int) < 400) = true := by simp; omega
        rw [if_pos h4]
        go_wp2
        go_roundw
        case rel => exact ⟨k + 1, by omega, by simp, HR⟩
        case measure => simp [intOf]; omega
      · have d4 : decide ((k : Int) < 400) = false := by simp; omega
        rw [if_neg h4]
        go_wp2
        go_roundw
        case rel => exact ⟨k + 1, by omega, by simp, HR⟩
        case measure => simp [intOf]; omega
    · have hk' : k = N := by omega
      subst hk'
      have HT : Hid (Calls Try.prog 20 #[nP g, hV 1 2, .int .i64 0] wr fun e w' => e = .returned (.int .i64 (if k < 400 then 0 else 6)) ∧ ∃ R, StN w g [] R noA w' ∧ cntN R 256 ≤ 400 ∧ WFr R ∧ ∀ c, c < 256 → R c ≠ [] → c / 16 = 1) := by
        obtain ⟨R, hs, hl⟩ := HR.out
        have hc := hl.cnt
        obtain ⟨h1, h2⟩ := hl.twice (by omega)
        have := hs.call (fun V hv => twice_any 1 2 0 hv (by omega))
        rw [h1] at this
        exact this.mono fun e w' h => ⟨h.1, _, h.2, h2⟩
      by_cases h4 : k < 400
      · have d4 : decide ((k : Int) < 400) = true := by simp; omega
        rw [if_pos h4] at HT
        clear HR
        go_wp2_with fail
        refine HT.out.mono ?_
        rintro e w5 ⟨rfl, R, hs, hc4, hwf, hone⟩
        have HCl : Hid (Calls Try.prog 22 #[nP g, .int .i64 1] w5 fun e w' => ∃ gone : Nat, gone ≤ 400 ∧ e = .returned (.int .i64 (gone : Int)) ∧ ∃ R, StN w g [] R noA w' ∧ cntN R 256 = 0) := by
          obtain ⟨V, hv, -, hb⟩ := hs
          refine (clear_any 1 hv (by omega) hwf (by omega) (by omega)).mono fun e w' h => ?_
          obtain ⟨gone, he, V', hv', hs', hg'⟩ := h
          have hz := clr_all hone
          refine ⟨gone, by omega, he, _, ⟨V', hv', (fun k o hk => by cases hk), hb.trans (hs'.below hv)⟩, hz⟩
        clear hs hc4 hwf hone HT
        go_wp2_with fail
        refine HCl.out.mono ?_
        rintro e w6 ⟨gone, hg4, rfl, R, hs, hz⟩
        have dg : decide ((gone : Int) ≤ 400) = true := by simp; omega
        have HCo : Hid (Calls Try.prog 23 #[nP g] w6 fun e w' => e = .returned (.int .i64 0) ∧ Below w.heap.size w w') := by
          obtain ⟨V, hv, -, hb⟩ := hs
          have := count_any hv (by omega)
          rw [hz] at this
          exact this.mono fun e w' h => ⟨h.1, by rw [h.2]; exact hb⟩
        clear hs hz HCl
        go_wp2_with fail
        refine HCo.out.mono ?_
        rintro e w7 ⟨rfl, hb⟩
        have HBf : Hid (Below w.heap.size w w7) := hb
        clear hb
        go_wp2
        go_ret
        exact ⟨rfl, HBf.out⟩
      · have d4 : decide ((k : Int) < 400) = false := by simp; omega
        rw [if_neg h4] at HT
        clear HR
        go_wp2_with fail
        refine HT.out.mono ?_
        rintro e w5 ⟨rfl, R, hs, hc4, hwf, hone⟩
        have HCl : Hid (Calls Try.prog 22 #[nP g, .int .i64 1] w5 fun e w' => ∃ gone : Nat, gone ≤ 400 ∧ e = .returned (.int .i64 (gone : Int)) ∧ ∃ R, StN w g [] R noA w' ∧ cntN R 256 = 0) := by
          obtain ⟨V, hv, -, hb⟩ := hs
          refine (clear_any 1 hv (by omega) hwf (by omega) (by omega)).mono fun e w' h => ?_
          obtain ⟨gone, he, V', hv', hs', hg'⟩ := h
          have hz := clr_all hone
          refine ⟨gone, by omega, he, _, ⟨V', hv', (fun k o hk => by cases hk), hb.trans (hs'.below hv)⟩, hz⟩
        clear hs hc4 hwf hone HT
        go_wp2_with fail
        refine HCl.out.mono ?_
        rintro e w6 ⟨gone, hg4, rfl, R, hs, hz⟩
        have dg : decide ((gone : Int) ≤ 400) = true := by simp; omega
        have HCo : Hid (Calls Try.prog 23 #[nP g] w6 fun e w' => e = .returned (.int .i64 0) ∧ Below w.heap.size w w') := by
          obtain ⟨V, hv, -, hb⟩ := hs
          have := count_any hv (by omega)
          rw [hz] at this
          exact this.mono fun e w' h => ⟨h.1, by rw [h.2]; exact hb⟩
        clear hs hz HCl
        go_wp2_with fail
        refine HCo.out.mono ?_
        rintro e w7 ⟨rfl, hb⟩
        have HBf : Hid (Below w.heap.size w w7) := hb
        clear hb
        go_wp2
        go_ret
        exact ⟨rfl, HBf.out⟩
end Go.Proofs.Ythjdbomgdffhfaa
