/- net.isHop, wire.CheckPacket, Count, look: walks. -/
import Derived.Test.YthbhgblgacoklaaHB
namespace Go.Proofs.Ythbhgblgacoklaa
open Go.RowKit

theorem al_b (w : World) (o : Obj) : Below w.heap.size w (w.alloc o) := (Below.refl _ _).alloc (Nat.le_refl _) o
abbrev hV (f t : Int) : Value := .agg #[.int .i64 f, .int .i64 t]
set_option maxRecDepth 100000 in
theorem isHop_any (f t : Int) (w : World) : Calls Try.prog 34 #[hV f t] w fun e w' => e = .returned (.bool (hopB f t)) ∧ w' = w.alloc (.cells #[.int .i64 f, .int .i64 t] 33) := by
  have HN : Hid (∀ n w, Calls Try.prog 40 #[.int .i64 n] w fun e w' => e = .returned (.bool (nodeB n)) ∧ w' = w) := isNode_any
  unfold hopB
  cases h1 : nodeB f with
  | false =>
    rw [Bool.false_and]
    go_enter Try.func34, Try.ntmps34
    go_wp2_with fail
    refine (HN.out _ _).mono ?_
    rintro e w1 ⟨rfl, rfl⟩
    rw [h1]
    go_wp2
    go_ret
    exact ⟨rfl, rfl⟩
  | true =>
    rw [Bool.true_and]
    cases h2 : nodeB t with
    | false =>
      rw [Bool.false_and]
      go_enter Try.func34, Try.ntmps34
      go_wp2_with fail
      refine (HN.out _ _).mono ?_
      rintro e w1 ⟨rfl, rfl⟩
      rw [h1]
      go_wp2_with fail
      refine (HN.out _ _).mono ?_
      rintro e w1 ⟨rfl, rfl⟩
      rw [h2]
      go_wp2
      go_ret
      exact ⟨rfl, rfl⟩
    | true =>
      rw [Bool.true_and]
      have HE : Hid ((f != t) = !decide (f = t)) := by show _ = _; by_cases h : f = t <;> simp [h]
      go_enter Try.func34, Try.ntmps34
      go_wp2_with fail
      refine (HN.out _ _).mono ?_
      rintro e w1 ⟨rfl, rfl⟩
      rw [h1]
      go_wp2_with fail
      refine (HN.out _ _).mono ?_
      rintro e w1 ⟨rfl, rfl⟩
      rw [h2]
      go_wp2
      go_ret
      exact ⟨by rw [← HE.out]; rfl, rfl⟩
set_option maxRecDepth 100000 in
set_option maxHeartbeats 1000000 in
theorem checkP_any (p : Pk) (w : World) (hx : p.x.size ≤ 140737488355328) : Calls Try.prog 36 #[pV p] w fun e w' => e = .returned (.bool (chkP p)) ∧ w' = w.alloc (.cells (pA p) 31) := by
  have HN : Hid (∀ n w, Calls Try.prog 44 #[.int .i64 n] w fun e w' => e = .returned (.bool (nodeB n)) ∧ w' = w) := wNode_any
  have HC : Hid (∀ n w, Calls Try.prog 45 #[.int .i64 n] w fun e w' => e = .returned (.bool (cntB n)) ∧ w' = w) := counts_any
  have HS : Hid (∀ n w, Calls Try.prog 46 #[.int .i64 n] w fun e w' => e = .returned (.bool (seqB n)) ∧ w' = w) := isSeq_any
  have e3 : (p.f != p.t) = !decide (p.f = p.t) := by by_cases h : p.f = p.t <;> simp [h]
  have e8 : decide ((p.x.size : Int) ≤ 32768) = decide (p.x.size ≤ 32768) := by rw [Bool.eq_iff_iff]; simp; omega
  have e9 : p.x.toList.isEmpty = decide (p.x.size = 0) := by
    rw [ByteArray.toList_eq]
    by_cases h : p.x.size = 0
    · rw [decide_eq_true h, show p.x.data.toList = [] from List.eq_nil_of_length_eq_zero (by rw [Array.length_toList]; exact h)]; rfl
    · rw [decide_eq_false h]
      cases e : p.x.data.toList with
      | nil => exact absurd (by have := congrArg List.length e; rwa [Array.length_toList] at this) h
      | cons b l => rfl
  have e10 : (p.sq != 0) = !decide (p.sq = 0) := by by_cases h : p.sq = 0 <;> simp [h]
  cases h1 : nodeB p.f with
  | false =>
    have e0 : chkP p = false := by unfold chkP; rw [h1]; rfl
    rw [e0]; clear e0
    clear e3 e8 e9 e10
    have K : Hid True := trivial
    obtain ⟨pf, pt, pfl, ptl, psq, pak, px⟩ := p
    dsimp only at *
    go_enter Try.func36, Try.ntmps36
    go_wp2_with fail
    refine (HN.out _ _).mono ?_
    rintro e w1 ⟨rfl, rfl⟩
    rw [h1]
    go_wp2
    go_ret
    exact ⟨rfl, rfl⟩
  | true =>
    cases h2 : nodeB p.t with
    | false =>
      have e0 : chkP p = false := by unfold chkP; rw [h1, h2]; rfl
      rw [e0]; clear e0
      clear e3 e8 e9 e10
      have K : Hid True := trivial
      obtain ⟨pf, pt, pfl, ptl, psq, pak, px⟩ := p
      dsimp only at *
      go_enter Try.func36, Try.ntmps36
      go_wp2_with fail
      refine (HN.out _ _).mono ?_
      rintro e w1 ⟨rfl, rfl⟩
      rw [h1]
      go_wp2_with fail
      refine (HN.out _ _).mono ?_
      rintro e w1 ⟨rfl, rfl⟩
      rw [h2]
      go_wp2
      go_ret
      exact ⟨rfl, rfl⟩
    | true =>
      cases h3 : decide (p.f = p.t) with
      | false =>
        cases h4 : cntB p.fl with
        | false =>
          have e0 : chkP p = false := by unfold chkP; rw [h1, h2, h3, h4]; rfl
          rw [e0]; clear e0
          rw [h3] at e3
          clear e8 e9 e10
          have K : Hid True := trivial
          obtain ⟨pf, pt, pfl, ptl, psq, pak, px⟩ := p
          dsimp only at *
          go_enter Try.func36, Try.ntmps36
          go_wp2_with fail
          refine (HN.out _ _).mono ?_
          rintro e w1 ⟨rfl, rfl⟩
          rw [h1]
          go_wp2_with fail
          refine (HN.out _ _).mono ?_
          rintro e w1 ⟨rfl, rfl⟩
          rw [h2]
          go_wp2_with fail
          refine (HC.out _ _).mono ?_
          rintro e w1 ⟨rfl, rfl⟩
          rw [h4]
          go_wp2
          go_ret
          exact ⟨rfl, rfl⟩
        | true =>
          cases h5 : cntB p.tl with
          | false =>
            have e0 : chkP p = false := by unfold chkP; rw [h1, h2, h3, h4, h5]; rfl
            rw [e0]; clear e0
            rw [h3] at e3
            clear e8 e9 e10
            have K : Hid True := trivial
            obtain ⟨pf, pt, pfl, ptl, psq, pak, px⟩ := p
            dsimp only at *
            go_enter Try.func36, Try.ntmps36
            go_wp2_with fail
            refine (HN.out _ _).mono ?_
            rintro e w1 ⟨rfl, rfl⟩
            rw [h1]
            go_wp2_with fail
            refine (HN.out _ _).mono ?_
            rintro e w1 ⟨rfl, rfl⟩
            rw [h2]
            go_wp2_with fail
            refine (HC.out _ _).mono ?_
            rintro e w1 ⟨rfl, rfl⟩
            rw [h4]
            go_wp2_with fail
            refine (HC.out _ _).mono ?_
            rintro e w1 ⟨rfl, rfl⟩
            rw [h5]
            go_wp2
            go_ret
            exact ⟨rfl, rfl⟩
          | true =>
            cases h6 : seqB p.sq with
            | false =>
              have e0 : chkP p = false := by unfold chkP; rw [h1, h2, h3, h4, h5, h6]; rfl
              rw [e0]; clear e0
              rw [h3] at e3
              clear e8 e9 e10
              have K : Hid True := trivial
              obtain ⟨pf, pt, pfl, ptl, psq, pak, px⟩ := p
              dsimp only at *
              go_enter Try.func36, Try.ntmps36
              go_wp2_with fail
              refine (HN.out _ _).mono ?_
              rintro e w1 ⟨rfl, rfl⟩
              rw [h1]
              go_wp2_with fail
              refine (HN.out _ _).mono ?_
              rintro e w1 ⟨rfl, rfl⟩
              rw [h2]
              go_wp2_with fail
              refine (HC.out _ _).mono ?_
              rintro e w1 ⟨rfl, rfl⟩
              rw [h4]
              go_wp2_with fail
              refine (HC.out _ _).mono ?_
              rintro e w1 ⟨rfl, rfl⟩
              rw [h5]
              go_wp2_with fail
              refine (HS.out _ _).mono ?_
              rintro e w1 ⟨rfl, rfl⟩
              rw [h6]
              go_wp2
              go_ret
              exact ⟨rfl, rfl⟩
            | true =>
              cases h7 : seqB p.ak with
              | false =>
                have e0 : chkP p = false := by unfold chkP; rw [h1, h2, h3, h4, h5, h6, h7]; rfl
                rw [e0]; clear e0
                rw [h3] at e3
                clear e8 e9 e10
                have K : Hid True := trivial
                obtain ⟨pf, pt, pfl, ptl, psq, pak, px⟩ := p
                dsimp only at *
                go_enter Try.func36, Try.ntmps36
                go_wp2_with fail
                refine (HN.out _ _).mono ?_
                rintro e w1 ⟨rfl, rfl⟩
                rw [h1]
                go_wp2_with fail
                refine (HN.out _ _).mono ?_
                rintro e w1 ⟨rfl, rfl⟩
                rw [h2]
                go_wp2_with fail
                refine (HC.out _ _).mono ?_
                rintro e w1 ⟨rfl, rfl⟩
                rw [h4]
                go_wp2_with fail
                refine (HC.out _ _).mono ?_
                rintro e w1 ⟨rfl, rfl⟩
                rw [h5]
                go_wp2_with fail
                refine (HS.out _ _).mono ?_
                rintro e w1 ⟨rfl, rfl⟩
                rw [h6]
                go_wp2_with fail
                refine (HS.out _ _).mono ?_
                rintro e w1 ⟨rfl, rfl⟩
                rw [h7]
                go_wp2
                go_ret
                exact ⟨rfl, rfl⟩
              | true =>
                cases h8 : decide (p.x.size ≤ 32768) with
                | false =>
                  have e0 : chkP p = false := by unfold chkP; rw [h1, h2, h3, h4, h5, h6, h7, h8]; rfl
                  rw [e0]; clear e0
                  rw [h3] at e3
                  rw [h8] at e8
                  clear e9 e10
                  have K : Hid True := trivial
                  obtain ⟨pf, pt, pfl, ptl, psq, pak, px⟩ := p
                  dsimp only at *
                  go_enter Try.func36, Try.ntmps36
                  go_wp2_with fail
                  refine (HN.out _ _).mono ?_
                  rintro e w1 ⟨rfl, rfl⟩
                  rw [h1]
                  go_wp2_with fail
                  refine (HN.out _ _).mono ?_
                  rintro e w1 ⟨rfl, rfl⟩
                  rw [h2]
                  go_wp2_with fail
                  refine (HC.out _ _).mono ?_
                  rintro e w1 ⟨rfl, rfl⟩
                  rw [h4]
                  go_wp2_with fail
                  refine (HC.out _ _).mono ?_
                  rintro e w1 ⟨rfl, rfl⟩
                  rw [h5]
                  go_wp2_with fail
                  refine (HS.out _ _).mono ?_
                  rintro e w1 ⟨rfl, rfl⟩
                  rw [h6]
                  go_wp2_with fail
                  refine (HS.out _ _).mono ?_
                  rintro e w1 ⟨rfl, rfl⟩
                  rw [h7]
                  go_wp2
                  go_ret
                  exact ⟨rfl, rfl⟩
                | true =>
                  cases h9 : decide (p.x.size = 0) with
                  | false =>
                    cases h10 : decide (p.sq = 0) with
                    | false =>
                      have e0 : chkP p = true := by unfold chkP; rw [h1, h2, h3, h4, h5, h6, h7, h8, h9, h10]; rfl
                      rw [e0]; clear e0
                      rw [h3] at e3
                      rw [h8] at e8
                      rw [h9] at e9
                      rw [h10] at e10
                      have K : Hid True := trivial
                      obtain ⟨pf, pt, pfl, ptl, psq, pak, px⟩ := p
                      dsimp only at *
                      go_enter Try.func36, Try.ntmps36
                      go_wp2_with fail
                      refine (HN.out _ _).mono ?_
                      rintro e w1 ⟨rfl, rfl⟩
                      rw [h1]
                      go_wp2_with fail
                      refine (HN.out _ _).mono ?_
                      rintro e w1 ⟨rfl, rfl⟩
                      rw [h2]
                      go_wp2_with fail
                      refine (HC.out _ _).mono ?_
                      rintro e w1 ⟨rfl, rfl⟩
                      rw [h4]
                      go_wp2_with fail
                      refine (HC.out _ _).mono ?_
                      rintro e w1 ⟨rfl, rfl⟩
                      rw [h5]
                      go_wp2_with fail
                      refine (HS.out _ _).mono ?_
                      rintro e w1 ⟨rfl, rfl⟩
                      rw [h6]
                      go_wp2_with fail
                      refine (HS.out _ _).mono ?_
                      rintro e w1 ⟨rfl, rfl⟩
                      rw [h7]
                      go_wp2
                      go_ret
                      exact ⟨rfl, rfl⟩
                    | true =>
                      have e0 : chkP p = false := by unfold chkP; rw [h1, h2, h3, h4, h5, h6, h7, h8, h9, h10]; rfl
                      rw [e0]; clear e0
                      rw [h3] at e3
                      rw [h8] at e8
                      rw [h9] at e9
                      rw [h10] at e10
                      have K : Hid True := trivial
                      obtain ⟨pf, pt, pfl, ptl, psq, pak, px⟩ := p
                      dsimp only at *
                      go_enter Try.func36, Try.ntmps36
                      go_wp2_with fail
                      refine (HN.out _ _).mono ?_
                      rintro e w1 ⟨rfl, rfl⟩
                      rw [h1]
                      go_wp2_with fail
                      refine (HN.out _ _).mono ?_
                      rintro e w1 ⟨rfl, rfl⟩
                      rw [h2]
                      go_wp2_with fail
                      refine (HC.out _ _).mono ?_
                      rintro e w1 ⟨rfl, rfl⟩
                      rw [h4]
                      go_wp2_with fail
                      refine (HC.out _ _).mono ?_
                      rintro e w1 ⟨rfl, rfl⟩
                      rw [h5]
                      go_wp2_with fail
                      refine (HS.out _ _).mono ?_
                      rintro e w1 ⟨rfl, rfl⟩
                      rw [h6]
                      go_wp2_with fail
                      refine (HS.out _ _).mono ?_
                      rintro e w1 ⟨rfl, rfl⟩
                      rw [h7]
                      go_wp2
                      go_ret
                      exact ⟨rfl, rfl⟩
                  | true =>
                    have e0 : chkP p = true := by unfold chkP; rw [h1, h2, h3, h4, h5, h6, h7, h8, h9]; rfl
                    rw [e0]; clear e0
                    rw [h3] at e3
                    rw [h8] at e8
                    rw [h9] at e9
                    clear e10
                    have K : Hid True := trivial
                    obtain ⟨pf, pt, pfl, ptl, psq, pak, px⟩ := p
                    dsimp only at *
                    go_enter Try.func36, Try.ntmps36
                    go_wp2_with fail
                    refine (HN.out _ _).mono ?_
                    rintro e w1 ⟨rfl, rfl⟩
                    rw [h1]
                    go_wp2_with fail
                    refine (HN.out _ _).mono ?_
                    rintro e w1 ⟨rfl, rfl⟩
                    rw [h2]
                    go_wp2_with fail
                    refine (HC.out _ _).mono ?_
                    rintro e w1 ⟨rfl, rfl⟩
                    rw [h4]
                    go_wp2_with fail
                    refine (HC.out _ _).mono ?_
                    rintro e w1 ⟨rfl, rfl⟩
                    rw [h5]
                    go_wp2_with fail
                    refine (HS.out _ _).mono ?_
                    rintro e w1 ⟨rfl, rfl⟩
                    rw [h6]
                    go_wp2_with fail
                    refine (HS.out _ _).mono ?_
                    rintro e w1 ⟨rfl, rfl⟩
                    rw [h7]
                    go_wp2
                    go_ret
                    exact ⟨rfl, rfl⟩
      | true =>
        have e0 : chkP p = false := by unfold chkP; rw [h1, h2, h3]; rfl
        rw [e0]; clear e0
        rw [h3] at e3
        clear e8 e9 e10
        have K : Hid True := trivial
        obtain ⟨pf, pt, pfl, ptl, psq, pak, px⟩ := p
        dsimp only at *
        go_enter Try.func36, Try.ntmps36
        go_wp2_with fail
        refine (HN.out _ _).mono ?_
        rintro e w1 ⟨rfl, rfl⟩
        rw [h1]
        go_wp2_with fail
        refine (HN.out _ _).mono ?_
        rintro e w1 ⟨rfl, rfl⟩
        rw [h2]
        go_wp2
        go_ret
        exact ⟨rfl, rfl⟩
/-- How many packets there are in the first rows. -/
def cntN (R : Nat → List Pk) : Nat → Nat
  | 0 => 0
  | n + 1 => cntN R n + (R n).length
theorem cntN_mono (R : Nat → List Pk) : ∀ {a b : Nat}, a ≤ b → cntN R a ≤ cntN R b
  | a, 0, h => by rw [Nat.le_zero.1 h]; exact Nat.le_refl _
  | a, b + 1, h => by
    by_cases e : a = b + 1
    · subst e; exact Nat.le_refl _
    · exact Nat.le_trans (cntN_mono R (show a ≤ b by omega)) (by simp [cntN])
abbrev nP (g : Nat) : Value := .pointer (some ⟨g, 0, none⟩)
set_option maxRecDepth 100000 in
set_option maxHeartbeats 1000000 in
theorem count_any {base : Nat} {w : World} {g : Nat} {V : Nat → Value} {R : Nat → List Pk} {A : Nat → Bool} (hv : NetV base w g V R A) (hc : cntN R 256 ≤ 1000) :
    Calls Try.prog 23 #[nP g] w fun e w' => e = .returned (.int .i64 (cntN R 256)) ∧ w' = w := by
  have HV : Hid (NetV base w g V R A) := hv
  have HM : Hid (∀ a, a ≤ 256 → cntN R a ≤ cntN R 256) := fun a h => cntN_mono R h
  clear hv
  go_enter Try.func23, Try.ntmps23
  go_wp2_with fail
  go_loopw [2, 7] (fun r i wr => ∃ k : Nat, k ≤ 16 ∧ i = .int .i64 (k : Int) ∧ r = .int .i64 ((cntN R (k * 16) : Nat) : Int) ∧ w = wr) (fun _ i _ => 16 - (intOf i).toNat)
  case atStart => exact ⟨0, Nat.zero_le _, rfl, rfl, rfl⟩
  case round =>
    obtain ⟨k, hk, rfl, rfl, rfl⟩ := hrel
    by_cases hlk : k < 16
    · have dk : decide ((k : Int) < 16) = true := by simp; omega
      go_wp2_with fail
      go_loopw [2, 10] (fun r i wr => ∃ j : Nat, j ≤ 16 ∧ i = .int .i64 (j : Int) ∧ r = .int .i64 ((cntN R (k * 16 + j) : Nat) : Int) ∧ w = wr) (fun _ i _ => 16 - (intOf i).toNat)
      case atStart => exact ⟨0, Nat.zero_le _, rfl, rfl, rfl⟩
      case round =>
        obtain ⟨j, hj, rfl, rfl, rfl⟩ := hrel
        by_cases hlj : j < 16
        · have dj : decide ((j : Int) < 16) = true := by simp; omega
          obtain ⟨c1, -, -, -, -⟩ := HV.out.cell (k * 16 + j) (by omega)
          obtain ⟨a0, cap0, hf⟩ := (HV.out.own (k * 16 + j) (by omega)).form
          rw [hf] at c1
          have hm1 := HM.out (k * 16 + j + 1) (by omega)
          have hs : cntN R (k * 16 + j + 1) = cntN R (k * 16 + j) + (R (k * 16 + j)).length := rfl
          have HS : Hid (((cntN R (k * 16 + j) : Nat) : Int) + ((R (k * 16 + j)).length : Int) = ((cntN R (k * 16 + (j + 1)) : Nat) : Int)) := by
            show _ = _
            rw [← Nat.add_assoc, hs]; omega
          have q1 : (0 : Int) ≤ (k : Int) := by omega
          have q2 : (k : Int) < 16 := by omega
          have q3 : (0 : Int) ≤ (j : Int) := by omega
          have q4 : (j : Int) < 16 := by omega
          rw [hs] at hm1
          clear hf hs
          generalize (R (k * 16 + j)).length = n at *
          generalize cntN R (k * 16 + j) = m at *
          go_wp2
          go_roundw
          case rel => exact ⟨j + 1, by omega, by simp, by rw [← HS.out], by trivial⟩
          case measure => simp [intOf]; omega
        · have hj' : j = 16 := by omega
          subst hj'
          go_wp2
          go_roundw
          case rel => exact ⟨k + 1, by omega, by simp, by rw [show (k + 1) * 16 = k * 16 + 16 by omega], by trivial⟩
          case measure => simp [intOf]; omega
    · have hk' : k = 16 := by omega
      subst hk'
      go_wp2
      go_ret
      exact ⟨rfl, by trivial⟩
end Go.Proofs.Ythbhgblgacoklaa
