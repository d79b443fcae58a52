/- quic.takeFlag, takeText, wholeOf, takeItem: one item at the front of bytes. -/
import Derived.Test.YtfbhalkiilbcoaaGreatDoorH
import Derived.Test.YtfbhalkiilbcoaaGreatDoorU3
import Derived.RegionTactic
namespace Go.Proofs.YtfbhalkiilbcoaaGreatDoor.Q
open Go.RowKit

def tfE (s : ByteArray) : Int := if s.size = 0 then 7 else if 1 < bt s 0 then 3 else 0
def tfV (s : ByteArray) : Int := if tfE s = 0 then bt s 0 else 0
def tfR (s : ByteArray) : ByteArray := if tfE s = 0 then s.extract 1 s.size else ⟨#[]⟩
def ttE (s : ByteArray) : Int := if getE s ≠ 0 then getE s else if 65536 < getV s then 2 else if ((getRest s).size : Int) < getV s then 7 else 0
def ttS (s : ByteArray) : ByteArray := if ttE s = 0 then (getRest s).extract 0 (getV s).toNat else ⟨#[]⟩
def ttR (s : ByteArray) : ByteArray := if ttE s = 0 then (getRest s).extract (getV s).toNat (getRest s).size else ⟨#[]⟩
def wof (n : Int) : Int := if n % 2 = 0 then n / 2 else -(n / 2) - 1

theorem bt_rng' (s : ByteArray) (i : Nat) : 0 ≤ bt s i ∧ bt s i < 256 := bt_rng s i
theorem gval_nn (s : ByteArray) : 0 ≤ gval s ∧ gval s ≤ 4611686018427387903 := by
  have r0 := bt_rng s 0; have r1 := bt_rng s 1; have r2 := bt_rng s 2; have r3 := bt_rng s 3
  have r4 := bt_rng s 4; have r5 := bt_rng s 5; have r6 := bt_rng s 6; have r7 := bt_rng s 7
  unfold gval
  split
  · omega
  split
  · omega
  split
  · omega
  · omega
theorem getV_nn (s : ByteArray) : 0 ≤ getV s ∧ getV s ≤ 4611686018427387903 := by
  unfold getV; split
  · exact gval_nn s
  · omega
theorem size_extract (s : ByteArray) (a b : Nat) (h : b ≤ s.size) : (s.extract a b).size = b - a := by
  rw [ByteArray.size_extract]; omega
theorem getRest_size (s : ByteArray) : (getRest s).size ≤ s.size := by
  unfold getRest; split
  · rw [size_extract _ _ _ (Nat.le_refl _)]; omega
  · exact Nat.zero_le _

set_option maxRecDepth 100000 in
set_option maxHeartbeats 1000000 in
theorem takeFlag_any (s : ByteArray) (w : World) (hs : s.size ≤ 140737488355328) :
    Calls Tryz.prog 101 #[.string s] w fun e w' => e = .returned (.tuple #[.int .i64 (tfV s), .string (tfR s), .int .i64 (tfE s)]) ∧ Below w.heap.size w w' := by
  by_cases h0 : s.size = 0
  · have e1 : tfE s = 7 := by unfold tfE; rw [if_pos h0]
    have e2 : tfV s = 0 := by unfold tfV; rw [if_neg (by omega)]
    have e3 : tfR s = ⟨#[]⟩ := by unfold tfR; rw [if_neg (by omega)]
    rw [e1, e2, e3]
    have hne : s.toList.isEmpty = true := isEmpty_to s h0
    go_enter Tryz.func101, Tryz.ntmps101
    go_wp2
    go_ret3
    exact ⟨rfl, Below.refl _ _⟩
  have hne : s.toList.isEmpty = false := isEmpty_of s (by omega)
  have hlt : (0:Int) < s.size := by omega
  have hlt0 : 0 < s.size := by omega
  have hbt := bt_eq (s := s) (i := 0) hlt0
  by_cases h1 : 1 < bt s 0
  · have e1 : tfE s = 3 := by unfold tfE; rw [if_neg h0, if_pos h1]
    have e2 : tfV s = 0 := by unfold tfV; rw [if_neg (by omega)]
    have e3 : tfR s = ⟨#[]⟩ := by unfold tfR; rw [if_neg (by omega)]
    rw [e1, e2, e3]
    have h1' : (1 : Int) < ((s[0]'hlt0).toNat : Int) := by omega
    clear hbt
    go_enter Tryz.func101, Tryz.ntmps101
    go_wp2
    go_ret3
    exact ⟨rfl, Below.refl _ _⟩
  · have e1 : tfE s = 0 := by unfold tfE; rw [if_neg h0, if_neg h1]
    have e2 : tfV s = bt s 0 := by unfold tfV; rw [if_pos e1]
    have e3 : tfR s = s.extract 1 s.size := by unfold tfR; rw [if_pos e1]
    rw [e1, e2, e3, ← hbt]
    have h1' : ¬ (1 : Int) < ((s[0]'hlt0).toNat : Int) := by omega
    have hlt2 : (1 : Int) ≤ s.size := by omega
    clear hbt
    go_enter Tryz.func101, Tryz.ntmps101
    go_wp2
    go_region
    all_goals go_wp2
    all_goals go_ret3
    all_goals exact ⟨rfl, by repeat (first | exact Below.refl _ _ | refine Below.drew ?_)⟩

set_option maxRecDepth 100000 in
set_option maxHeartbeats 1000000 in
theorem takeText_any (s : ByteArray) (w : World) (hs : s.size ≤ 140737488355328) :
    Calls Tryz.prog 102 #[.string s] w fun e w' => e = .returned (.tuple #[.string (ttS s), .string (ttR s), .int .i64 (ttE s)]) ∧ Below w.heap.size w w' := by
  have hv := getV_nn s
  have hr := getRest_size s
  by_cases h0 : getE s = 0
  · by_cases h1 : 65536 < getV s
    · have e1 : ttE s = 2 := by unfold ttE; rw [if_neg (by omega), if_pos h1]
      have e2 : ttS s = ⟨#[]⟩ := by unfold ttS; rw [if_neg (by omega)]
      have e3 : ttR s = ⟨#[]⟩ := by unfold ttR; rw [if_neg (by omega)]
      rw [e1, e2, e3]
      clear e1 e2 e3
      have H0 : Hid (getE s = 0) := h0
      clear h0
      go_enter Tryz.func102, Tryz.ntmps102
      go_wp2_with fail
      refine (get_any _ _ hs).mono ?_
      rintro e w1 ⟨rfl, hb1⟩
      rw [H0.out]
      go_wp2
      go_ret3
      exact ⟨rfl, hb1⟩
    · by_cases h2 : ((getRest s).size : Int) < getV s
      · have e1 : ttE s = 7 := by unfold ttE; rw [if_neg (by omega), if_neg h1, if_pos h2]
        have e2 : ttS s = ⟨#[]⟩ := by unfold ttS; rw [if_neg (by omega)]
        have e3 : ttR s = ⟨#[]⟩ := by unfold ttR; rw [if_neg (by omega)]
        rw [e1, e2, e3]
        clear e1 e2 e3
        have H0 : Hid (getE s = 0) := h0
        clear h0
        go_enter Tryz.func102, Tryz.ntmps102
        go_wp2_with fail
        refine (get_any _ _ hs).mono ?_
        rintro e w1 ⟨rfl, hb1⟩
        rw [H0.out]
        go_wp2
        go_ret3
        exact ⟨rfl, hb1⟩
      · have e1 : ttE s = 0 := by unfold ttE; rw [if_neg (by omega), if_neg h1, if_neg h2]
        have e2 : ttS s = (getRest s).extract 0 (getV s).toNat := by unfold ttS; rw [if_pos e1]
        have e3 : ttR s = (getRest s).extract (getV s).toNat (getRest s).size := by unfold ttR; rw [if_pos e1]
        rw [e1, e2, e3]
        clear e1 e2 e3
        have H0 : Hid (getE s = 0) := h0
        clear h0
        have h3 : getV s ≤ ((getRest s).size : Int) := by omega
        have h4 : (getV s).toNat ≤ (getRest s).size := by omega
        go_enter Tryz.func102, Tryz.ntmps102
        go_wp2_with fail
        refine (get_any _ _ hs).mono ?_
        rintro e w1 ⟨rfl, hb1⟩
        rw [H0.out]
        go_wp2
        go_region
        all_goals go_wp2
        all_goals go_ret3
        all_goals exact ⟨rfl, by repeat (first | exact hb1 | refine Below.drew ?_)⟩
  · have e1 : ttE s = getE s := by unfold ttE; rw [if_pos h0]
    have e2 : ttS s = ⟨#[]⟩ := by unfold ttS; rw [if_neg (by omega)]
    have e3 : ttR s = ⟨#[]⟩ := by unfold ttR; rw [if_neg (by omega)]
    rw [e1, e2, e3]
    clear e1 e2 e3
    have h0' : (getE s != 0) = true := by rw [bne_iff_ne]; exact h0
    clear h0
    go_enter Tryz.func102, Tryz.ntmps102
    go_wp2_with fail
    refine (get_any _ _ hs).mono ?_
    rintro e w1 ⟨rfl, hb1⟩
    go_wp2
    go_ret3
    exact ⟨rfl, hb1⟩

set_option maxHeartbeats 400000 in
theorem wholeOf_any (n : Int) (w : World) (h0 : 0 ≤ n) (h1 : n ≤ 4611686018427387903) :
    Calls Tryz.prog 100 #[.int .i64 n] w fun e w' => e = .returned (.int .i64 (wof n)) ∧ w' = w := by
  go_enter Tryz.func100, Tryz.ntmps100
  go_wp2
  all_goals go_ret
  all_goals refine ⟨ret_int ?_, rfl⟩
  all_goals unfold wof
  · rw [if_pos (by simp_all)]
  · rw [if_neg (by simp_all)]
end Go.Proofs.YtfbhalkiilbcoaaGreatDoor.Q
