/- The reference's in, CheckPacket: walks. -/
import Derived.Test.YthbhgblgacoklaaHV
namespace Go.Proofs.Ythbhgblgacoklaa
open Go.RowKit

def inB (a lo hi : Int) : Bool := decide (lo ≤ a) && decide (a ≤ hi)
set_option maxRecDepth 100000 in
theorem refIn_any (a lo hi : Int) (w : World) : Calls Try.prog 47 #[.int .i64 a, .int .i64 lo, .int .i64 hi] w fun e w' => e = .returned (.bool (inB a lo hi)) ∧ w' = w := by
  by_cases h1 : lo ≤ a
  · have e : inB a lo hi = decide (a ≤ hi) := by simp [inB, h1]
    rw [e]
    clear e
    go_enter Try.func47, Try.ntmps47
    go_wp2
    go_ret
    exact ⟨rfl, rfl⟩
  · have e : inB a lo hi = false := by simp [inB, h1]
    rw [e]
    clear e
    go_enter Try.func47, Try.ntmps47
    go_wp2
    go_ret
    exact ⟨rfl, rfl⟩
/-- The nine conditions, one behind the other. -/
theorem chkP_is (p : Pk) : chkP p = (inB p.f 1 15 && (inB p.t 1 15 && ((p.f != p.t) && (inB p.fl 1 1099511627775 && (inB p.tl 1 1099511627775 && (inB p.sq 0 1099511627775 && (inB p.ak 0 1099511627775 && (decide (p.x.size ≤ 32768) && (decide (0 < p.sq) || decide (p.x.size = 0)))))))))) := by
  rw [Bool.eq_iff_iff]
  simp [chkP, nodeB, cntB, seqB, inB, bne]
  intro _ _ _ _ _ _ _ _ _ h _ _ _ _
  constructor
  · rintro (h1 | h1)
    · exact .inr h1
    · exact .inl (by omega)
  · rintro (h1 | h1)
    · exact .inr (by omega)
    · exact .inl h1
set_option maxRecDepth 100000 in
set_option maxHeartbeats 2000000 in
theorem refCheckP_any (p : Pk) (w : World) : Calls Try.prog 41 #[pV p] w fun e w' => e = .returned (.bool (chkP p)) ∧ Below w.heap.size w w' := by
  have HA : Hid (Below w.heap.size w (w.alloc (.cells (pA p) 48))) := al_b w _
  have HI : Hid (∀ a lo hi w, Calls Try.prog 47 #[.int .i64 a, .int .i64 lo, .int .i64 hi] w fun e w' => e = .returned (.bool (inB a lo hi)) ∧ w' = w) := refIn_any
  rw [chkP_is]
  obtain ⟨pf, pt, pfl, ptl, psq, pak, px⟩ := p
  dsimp only
  cases h1 : inB pf 1 15 with
  | false =>
    simp only [Bool.false_and]
    go_enter Try.func41, Try.ntmps41
    go_wp2_with fail
    refine (HI.out _ _ _ _).mono ?_
    rintro e w1 ⟨rfl, hw⟩
    subst hw
    rw [h1]
    go_wp2
    go_ret
    exact ⟨rfl, HA.out⟩
  | true =>
  cases h2 : inB pt 1 15 with
  | false =>
    simp only [Bool.false_and, Bool.true_and]
    go_enter Try.func41, Try.ntmps41
    go_wp2_with fail
    refine (HI.out _ _ _ _).mono ?_
    rintro e w1 ⟨rfl, hw⟩
    subst hw
    rw [h1]
    go_wp2_with fail
    refine (HI.out _ _ _ _).mono ?_
    rintro e w1 ⟨rfl, hw⟩
    subst hw
    rw [h2]
    go_wp2
    go_ret
    exact ⟨rfl, HA.out⟩
  | true =>
  cases h3 : (pf != pt) with
  | false =>
    simp only [Bool.false_and, Bool.true_and]
    go_enter Try.func41, Try.ntmps41
    go_wp2_with fail
    refine (HI.out _ _ _ _).mono ?_
    rintro e w1 ⟨rfl, hw⟩
    subst hw
    rw [h1]
    go_wp2_with fail
    refine (HI.out _ _ _ _).mono ?_
    rintro e w1 ⟨rfl, hw⟩
    subst hw
    rw [h2]
    go_wp2
    go_ret
    exact ⟨rfl, HA.out⟩
  | true =>
  cases h4 : inB pfl 1 1099511627775 with
  | false =>
    simp only [Bool.false_and, Bool.true_and]
    go_enter Try.func41, Try.ntmps41
    go_wp2_with fail
    refine (HI.out _ _ _ _).mono ?_
    rintro e w1 ⟨rfl, hw⟩
    subst hw
    rw [h1]
    go_wp2_with fail
    refine (HI.out _ _ _ _).mono ?_
    rintro e w1 ⟨rfl, hw⟩
    subst hw
    rw [h2]
    go_wp2_with fail
    refine (HI.out _ _ _ _).mono ?_
    rintro e w1 ⟨rfl, hw⟩
    subst hw
    rw [h4]
    go_wp2
    go_ret
    exact ⟨rfl, HA.out⟩
  | true =>
  cases h5 : inB ptl 1 1099511627775 with
  | false =>
    simp only [Bool.false_and, Bool.true_and]
    go_enter Try.func41, Try.ntmps41
    go_wp2_with fail
    refine (HI.out _ _ _ _).mono ?_
    rintro e w1 ⟨rfl, hw⟩
    subst hw
    rw [h1]
    go_wp2_with fail
    refine (HI.out _ _ _ _).mono ?_
    rintro e w1 ⟨rfl, hw⟩
    subst hw
    rw [h2]
    go_wp2_with fail
    refine (HI.out _ _ _ _).mono ?_
    rintro e w1 ⟨rfl, hw⟩
    subst hw
    rw [h4]
    go_wp2_with fail
    refine (HI.out _ _ _ _).mono ?_
    rintro e w1 ⟨rfl, hw⟩
    subst hw
    rw [h5]
    go_wp2
    go_ret
    exact ⟨rfl, HA.out⟩
  | true =>
  cases h6 : inB psq 0 1099511627775 with
  | false =>
    simp only [Bool.false_and, Bool.true_and]
    go_enter Try.func41, Try.ntmps41
    go_wp2_with fail
    refine (HI.out _ _ _ _).mono ?_
    rintro e w1 ⟨rfl, hw⟩
    subst hw
    rw [h1]
    go_wp2_with fail
    refine (HI.out _ _ _ _).mono ?_
    rintro e w1 ⟨rfl, hw⟩
    subst hw
    rw [h2]
    go_wp2_with fail
    refine (HI.out _ _ _ _).mono ?_
    rintro e w1 ⟨rfl, hw⟩
    subst hw
    rw [h4]
    go_wp2_with fail
    refine (HI.out _ _ _ _).mono ?_
    rintro e w1 ⟨rfl, hw⟩
    subst hw
    rw [h5]
    go_wp2_with fail
    refine (HI.out _ _ _ _).mono ?_
    rintro e w1 ⟨rfl, hw⟩
    subst hw
    rw [h6]
    go_wp2
    go_ret
    exact ⟨rfl, HA.out⟩
  | true =>
  cases h7 : inB pak 0 1099511627775 with
  | false =>
    simp only [Bool.false_and, Bool.true_and]
    go_enter Try.func41, Try.ntmps41
    go_wp2_with fail
    refine (HI.out _ _ _ _).mono ?_
    rintro e w1 ⟨rfl, hw⟩
    subst hw
    rw [h1]
    go_wp2_with fail
    refine (HI.out _ _ _ _).mono ?_
    rintro e w1 ⟨rfl, hw⟩
    subst hw
    rw [h2]
    go_wp2_with fail
    refine (HI.out _ _ _ _).mono ?_
    rintro e w1 ⟨rfl, hw⟩
    subst hw
    rw [h4]
    go_wp2_with fail
    refine (HI.out _ _ _ _).mono ?_
    rintro e w1 ⟨rfl, hw⟩
    subst hw
    rw [h5]
    go_wp2_with fail
    refine (HI.out _ _ _ _).mono ?_
    rintro e w1 ⟨rfl, hw⟩
    subst hw
    rw [h6]
    go_wp2_with fail
    refine (HI.out _ _ _ _).mono ?_
    rintro e w1 ⟨rfl, hw⟩
    subst hw
    rw [h7]
    go_wp2
    go_ret
    exact ⟨rfl, HA.out⟩
  | true =>
  cases h8 : decide (px.size ≤ 32768) with
  | false =>
    have q8 : ¬ px.size ≤ 32768 := of_decide_eq_false h8
    have d8 : decide ((px.size : Int) ≤ 32768) = false := by rw [decide_eq_false_iff_not]; omega
    clear h8
    simp only [Bool.false_and, Bool.true_and]
    go_enter Try.func41, Try.ntmps41
    go_wp2_with fail
    refine (HI.out _ _ _ _).mono ?_
    rintro e w1 ⟨rfl, hw⟩
    subst hw
    rw [h1]
    go_wp2_with fail
    refine (HI.out _ _ _ _).mono ?_
    rintro e w1 ⟨rfl, hw⟩
    subst hw
    rw [h2]
    go_wp2_with fail
    refine (HI.out _ _ _ _).mono ?_
    rintro e w1 ⟨rfl, hw⟩
    subst hw
    rw [h4]
    go_wp2_with fail
    refine (HI.out _ _ _ _).mono ?_
    rintro e w1 ⟨rfl, hw⟩
    subst hw
    rw [h5]
    go_wp2_with fail
    refine (HI.out _ _ _ _).mono ?_
    rintro e w1 ⟨rfl, hw⟩
    subst hw
    rw [h6]
    go_wp2_with fail
    refine (HI.out _ _ _ _).mono ?_
    rintro e w1 ⟨rfl, hw⟩
    subst hw
    rw [h7]
    go_wp2
    go_ret
    exact ⟨rfl, HA.out⟩
  | true =>
  have q8 : px.size ≤ 32768 := of_decide_eq_true h8
  have d8 : decide ((px.size : Int) ≤ 32768) = true := by rw [decide_eq_true_eq]; omega
  clear h8
  simp only [Bool.true_and]
  by_cases h9 : 0 < psq
  · rw [decide_eq_true h9, Bool.true_or]
    go_enter Try.func41, Try.ntmps41
    go_wp2_with fail
    refine (HI.out _ _ _ _).mono ?_
    rintro e w1 ⟨rfl, hw⟩
    subst hw
    rw [h1]
    go_wp2_with fail
    refine (HI.out _ _ _ _).mono ?_
    rintro e w1 ⟨rfl, hw⟩
    subst hw
    rw [h2]
    go_wp2_with fail
    refine (HI.out _ _ _ _).mono ?_
    rintro e w1 ⟨rfl, hw⟩
    subst hw
    rw [h4]
    go_wp2_with fail
    refine (HI.out _ _ _ _).mono ?_
    rintro e w1 ⟨rfl, hw⟩
    subst hw
    rw [h5]
    go_wp2_with fail
    refine (HI.out _ _ _ _).mono ?_
    rintro e w1 ⟨rfl, hw⟩
    subst hw
    rw [h6]
    go_wp2_with fail
    refine (HI.out _ _ _ _).mono ?_
    rintro e w1 ⟨rfl, hw⟩
    subst hw
    rw [h7]
    go_wp2
    go_ret
    exact ⟨rfl, HA.out⟩
  · rw [decide_eq_false h9, Bool.false_or]
    have HZ : Hid (px.toList.isEmpty = decide (px.size = 0)) := by
      show _ = _
      rw [ByteArray.toList_eq, show px.size = px.data.toList.length from Array.length_toList.symm]
      cases px.data.toList <;> simp
    go_enter Try.func41, Try.ntmps41
    go_wp2_with fail
    refine (HI.out _ _ _ _).mono ?_
    rintro e w1 ⟨rfl, hw⟩
    subst hw
    rw [h1]
    go_wp2_with fail
    refine (HI.out _ _ _ _).mono ?_
    rintro e w1 ⟨rfl, hw⟩
    subst hw
    rw [h2]
    go_wp2_with fail
    refine (HI.out _ _ _ _).mono ?_
    rintro e w1 ⟨rfl, hw⟩
    subst hw
    rw [h4]
    go_wp2_with fail
    refine (HI.out _ _ _ _).mono ?_
    rintro e w1 ⟨rfl, hw⟩
    subst hw
    rw [h5]
    go_wp2_with fail
    refine (HI.out _ _ _ _).mono ?_
    rintro e w1 ⟨rfl, hw⟩
    subst hw
    rw [h6]
    go_wp2_with fail
    refine (HI.out _ _ _ _).mono ?_
    rintro e w1 ⟨rfl, hw⟩
    subst hw
    rw [h7]
    go_wp2
    go_ret
    exact ⟨by first | (show Ending.returned (.bool px.toList.isEmpty) = _; rw [HZ.out]) | (show Ending.returned (.bool (px.toList == [])) = _; rw [← HZ.out]; cases px.toList <;> rfl) | (show Ending.returned (.bool (decide (0 < psq) || px.toList.isEmpty)) = _; rw [show decide (0 < psq) = false from decide_eq_false (by omega), Bool.false_or, HZ.out]), HA.out⟩
end Go.Proofs.Ythbhgblgacoklaa
