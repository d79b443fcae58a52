/- name.within, Letter, Small, begins, Hash: walks. -/
import Derived.Test.YtkcnkjaeidbjbaaGreatDoorNM
import Derived.Test.YtkcnkjaeidbjbaaGreatDoorU
namespace Go.Proofs.YtkcnkjaeidbjbaaGreatDoor
open Go.RowKit

def inR (c lo hi : Int) : Bool := decide (lo ≤ c ∧ c ≤ hi)
theorem within_any (c lo hi : Int) (w : World) :
    Calls Tryz.prog 73 #[.int .i32 c, .int .i32 lo, .int .i32 hi] w fun e w' => e = .returned (.bool (inR c lo hi)) ∧ w' = w := by
  go_enter Tryz.func73, Tryz.ntmps73
  by_cases h1 : lo ≤ c
  · have hd : decide (lo ≤ c) = true := by simpa using h1
    go_wp2
    go_ret
    refine ⟨?_, rfl⟩
    simp [inR, h1]
  · have hd : decide (lo ≤ c) = false := by simpa using h1
    go_wp2
    go_ret
    refine ⟨?_, rfl⟩
    have : inR c lo hi = false := by simp only [inR, decide_eq_false_iff_not]; omega
    rw [this]
    rfl

def letterZ (c : Int) : Bool := decide ((65 ≤ c ∧ c ≤ 90) ∨ (97 ≤ c ∧ c ≤ 122) ∨ (192 ≤ c ∧ c ≤ 591 ∧ c ≠ 215 ∧ c ≠ 247) ∨ (913 ≤ c ∧ c ≤ 937 ∧ c ≠ 930) ∨ (945 ≤ c ∧ c ≤ 969) ∨ (1040 ≤ c ∧ c ≤ 1103) ∨ (19968 ≤ c ∧ c ≤ 40959))
def bigZ (c : Int) : Bool := decide ((65 ≤ c ∧ c ≤ 90) ∨ (192 ≤ c ∧ c ≤ 222 ∧ c ≠ 215) ∨ (913 ≤ c ∧ c ≤ 937 ∧ c ≠ 930) ∨ (1040 ≤ c ∧ c ≤ 1071))
def smallZ (c : Int) : Int := if bigZ c then c + 32 else c

set_option maxHeartbeats 1000000 in
theorem letter_any (c : Int) (w : World) :
    Calls Tryz.prog 109 #[.int .i32 c] w fun e w' => e = .returned (.bool (letterZ c)) ∧ w' = w := by
  go_enter Tryz.func109, Tryz.ntmps109
  go_wp2_with (go_at_call 73; refine (within_any _ _ _ _).mono ?_; rintro e w' ⟨rfl, rfl⟩)
  all_goals go_ret
  all_goals refine ⟨?_, rfl⟩
  all_goals refine congrArg (fun b => Ending.returned (Value.bool b)) ?_
  all_goals (rw [Bool.eq_iff_iff]; try simp only [inR, decide_eq_true_eq, decide_eq_false_iff_not, beq_iff_eq, beq_eq_false_iff_ne, ne_eq] at *)
  all_goals (simp only [letterZ, Bool.false_eq_true, decide_eq_true_eq, true_iff, false_iff]; omega)

set_option maxHeartbeats 1000000 in
theorem small_any (c : Int) (w : World) (h1 : -2147483648 ≤ c) (h2 : c ≤ 2147483647) :
    Calls Tryz.prog 122 #[.int .i32 c] w fun e w' => e = .returned (.int .i32 (smallZ c)) ∧ w' = w := by
  by_cases hb : bigZ c = true
  · have hs : smallZ c = c + 32 := if_pos hb
    have hc1 : (65 : Int) ≤ c := by simp only [bigZ, decide_eq_true_eq] at hb; omega
    have hc2 : c ≤ (1071 : Int) := by simp only [bigZ, decide_eq_true_eq] at hb; omega
    have HB : Hid (bigZ c = true) := hb
    clear hb
    rw [hs]
    go_enter Tryz.func122, Tryz.ntmps122
    go_wp2_with (go_at_call 73; refine (within_any _ _ _ _).mono ?_; rintro e w' ⟨rfl, rfl⟩)
    all_goals go_ret
    all_goals refine ⟨?_, rfl⟩
    all_goals first
      | rfl
      | (exfalso; have hb := HB.out; simp only [bigZ, inR, decide_eq_true_eq, decide_eq_false_iff_not, beq_iff_eq, beq_eq_false_iff_ne, ne_eq] at *; omega)
  · have hs : smallZ c = c := if_neg hb
    have HB : Hid (¬ bigZ c = true) := hb
    clear hb
    rw [hs]
    go_enter Tryz.func122, Tryz.ntmps122
    go_wp2_with (go_at_call 73; refine (within_any _ _ _ _).mono ?_; rintro e w' ⟨rfl, rfl⟩)
    all_goals go_ret
    all_goals refine ⟨?_, rfl⟩
    all_goals first
      | rfl
      | (exfalso; have hb := HB.out; simp only [bigZ, inR, decide_eq_true_eq, decide_eq_false_iff_not, beq_eq_false_iff_ne, ne_eq] at *; omega)

def beginsZ (c : Int) : Bool := c == 95 || letterZ c
theorem begins_any (c : Int) (w : World) :
    Calls Tryz.prog 72 #[.int .i32 c] w fun e w' => e = .returned (.bool (beginsZ c)) ∧ w' = w := by
  by_cases h : c = 95
  · subst h
    go_enter Tryz.func72, Tryz.ntmps72
    go_wp2_with (go_at_call 109; refine (letter_any _ _).mono ?_; rintro e w' ⟨rfl, rfl⟩)
    go_ret
    exact ⟨rfl, rfl⟩
  · have hd : (c == 95) = false := by simpa using h
    go_enter Tryz.func72, Tryz.ntmps72
    go_wp2_with (go_at_call 109; refine (letter_any _ _).mono ?_; rintro e w' ⟨rfl, rfl⟩)
    go_ret
    refine ⟨?_, rfl⟩
    simp [beginsZ, hd]

theorem letterZ_nat (c : Nat) : letterZ (c : Int) = letterN c := by
  rw [Bool.eq_iff_iff]; simp only [letterZ, letterN, decide_eq_true_eq]; omega
theorem bigZ_nat (c : Nat) : bigZ (c : Int) = bigN c := by
  rw [Bool.eq_iff_iff]; simp only [bigZ, bigN, decide_eq_true_eq]; omega
theorem smallZ_nat (c : Nat) : smallZ (c : Int) = (smallN c : Nat) := by
  unfold smallZ smallN
  rw [bigZ_nat]
  split <;> simp
theorem beginsZ_nat (c : Nat) : beginsZ (c : Int) = beginsN c := by
  unfold beginsZ beginsN
  rw [letterZ_nat]
  congr 1
  rw [Bool.eq_iff_iff]; simp only [beq_iff_eq]; omega
end Go.Proofs.YtkcnkjaeidbjbaaGreatDoor
