/- The reference's Hex, Digits, escape: walks. -/
import Derived.Test.YtdendpckihckeaaGreatDoorWF
import Derived.Test.YtdendpckihckeaaGreatDoorWC
import Derived.Lib.ItoaNum
namespace Go.Proofs.YtdendpckihckeaaGreatDoor
open Go.RowKit

set_option maxRecDepth 100000 in
set_option maxHeartbeats 2000000 in
theorem refHex_any (n : Nat) (w : World) (h : n < 16) :
    Calls Tryz.prog 98 #[.int .i64 (n : Int)] w fun e w' => e = .returned (.string (str [dg n])) ∧ Below w.heap.size w w' := by
  obtain rfl | rfl | rfl | rfl | rfl | rfl | rfl | rfl | rfl | rfl | rfl | rfl | rfl | rfl | rfl | rfl : n = 0 ∨ n = 1 ∨ n = 2 ∨ n = 3 ∨ n = 4 ∨ n = 5 ∨ n = 6 ∨ n = 7 ∨ n = 8 ∨ n = 9 ∨ n = 10 ∨ n = 11 ∨ n = 12 ∨ n = 13 ∨ n = 14 ∨ n = 15 := by omega
  all_goals
    go_enter Tryz.func98, Tryz.ntmps98
    go_wp2
    rw [cvb1]
    go_wp2
    go_ret
    exact ⟨rfl, (Below.refl _ _).alloc (Nat.le_refl _) _⟩

theorem dec_one {n : Nat} (h : n < 10) : strOfNums [48 + (n : Int)] = str (Lib.decDigits n) := by
  rw [Lib.decDigits, dif_pos h]
  exact str_nums [48 + n] _ (by simp)
theorem dec_more {n : Nat} (h : ¬ n < 10) : str (Lib.decDigits (n / 10)) ++ strOfNums [48 + ((n % 10 : Nat) : Int)] = str (Lib.decDigits n) := by
  conv => rhs; rw [Lib.decDigits, dif_neg h]
  refine ba_eq ?_
  rw [ba_append, str_data, str_data, str_nums [48 + n % 10] _ (by simp), str_data]
  rfl
theorem dec_len : ∀ (k n : Nat), n < 10 ^ k → 0 < k → (Lib.decDigits n).length ≤ k
  | 0, _, _, h => absurd h (by decide)
  | k + 1, n, h, _ => by
    rw [Lib.decDigits]
    by_cases hn : n < 10
    · rw [dif_pos hn]
      show 1 ≤ k + 1
      omega
    · rw [dif_neg hn, List.length_append]
      have hp : 10 ^ (k + 1) = 10 ^ k * 10 := Nat.pow_succ 10 k
      have h1 : n / 10 < 10 ^ k := by omega
      have hk : 0 < k := by
        cases k with
        | zero => simp at h; omega
        | succ k => omega
      have := dec_len k (n / 10) h1 hk
      show _ + 1 ≤ _
      omega
theorem dec_size {n : Nat} (h : n ≤ 9007199254740991) : (str (Lib.decDigits n)).size ≤ 16 := by
  rw [str_size]
  exact dec_len 16 n (by omega) (by decide)
set_option maxRecDepth 100000 in
set_option maxHeartbeats 2000000 in
theorem escape_any (c : Nat) (w : World) (hs : scal c) :
    Calls Tryz.prog 66 #[.int .i64 (c : Int)] w fun e w' => e = .returned (.string (str (shR c))) ∧ Below w.heap.size w w' := by
  have hc : c ≤ 1114111 := by unfold scal at hs; omega
  by_cases h1 : c = 34
  · subst h1
    go_enter Tryz.func66, Tryz.ntmps66
    go_wp2
    go_ret
    exact ⟨rfl, Below.refl _ _⟩
  by_cases h2 : c = 92
  · subst h2
    go_enter Tryz.func66, Tryz.ntmps66
    go_wp2
    go_ret
    exact ⟨rfl, Below.refl _ _⟩
  by_cases h3 : c = 10
  · subst h3
    go_enter Tryz.func66, Tryz.ntmps66
    go_wp2
    go_ret
    exact ⟨rfl, Below.refl _ _⟩
  by_cases h4 : c = 9
  · subst h4
    go_enter Tryz.func66, Tryz.ntmps66
    go_wp2
    go_ret
    exact ⟨rfl, Below.refl _ _⟩
  by_cases h5 : c = 13
  · subst h5
    go_enter Tryz.func66, Tryz.ntmps66
    go_wp2
    go_ret
    exact ⟨rfl, Below.refl _ _⟩
  have k1 : ((c : Int) == 34) = false := by rw [beq_eq_false_iff_ne]; omega
  have k2 : ((c : Int) == 92) = false := by rw [beq_eq_false_iff_ne]; omega
  have k3 : ((c : Int) == 10) = false := by rw [beq_eq_false_iff_ne]; omega
  have k4 : ((c : Int) == 9) = false := by rw [beq_eq_false_iff_ne]; omega
  have k5 : ((c : Int) == 13) = false := by rw [beq_eq_false_iff_ne]; omega
  have k0 : decide ((0 : Int) ≤ c) = true := by simp
  by_cases h6 : c < 16
  · have e : shR c = [92, 117, 123, dg c, 125] := by unfold shR; rw [if_neg h1, if_neg h2, if_neg h3, if_neg h4, if_neg h5, if_pos h6]
    have k6 : decide ((c : Int) < 16) = true := by simp; omega
    rw [e, ← brace]
    clear e h1 h2 h3 h4 h5
    have HX : Hid (∀ w : World, Calls Tryz.prog 98 #[.int .i64 (c : Int)] w fun e w' => e = .returned (.string (str [dg c])) ∧ Below w.heap.size w w') := fun w => refHex_any c w h6
    have hz : (str [dg c]).size = 1 := rfl
    generalize str [dg c] = X at *
    go_enter Tryz.func66, Tryz.ntmps66
    go_wp2_with fail
    refine (HX.out _).mono ?_
    rintro e w1 ⟨rfl, hb1⟩
    go_wp2
    go_ret
    exact ⟨rfl, hb1⟩
  have k6 : decide ((c : Int) < 16) = false := by simp; omega
  have k6' : decide ((16 : Int) ≤ c) = true := by simp; omega
  by_cases h7 : c < 32 ∨ c = 127
  · have e : shR c = [92, 117, 123, dg (c / 16), dg (c % 16), 125] := by unfold shR; rw [if_neg h1, if_neg h2, if_neg h3, if_neg h4, if_neg h5, if_neg h6, if_pos h7]
    have HB : Hid ((((⟨#[92, 117, 123]⟩ : ByteArray) ++ str [dg (c / 16)]) ++ str [dg (c % 16)]) ++ (⟨#[125]⟩ : ByteArray) = str [92, 117, 123, dg (c / 16), dg (c % 16), 125]) := ba_eq (by
      rw [ba_append, ba_append, ba_append, str_data, str_data, str_data]
      rfl)
    rw [e, ← HB.out]
    have HX : Hid (∀ w : World, Calls Tryz.prog 98 #[.int .i64 ((c : Int) / 16)] w fun e w' => e = .returned (.string (str [dg (c / 16)])) ∧ Below w.heap.size w w') := fun w => by
      rw [show (c : Int) / 16 = ((c / 16 : Nat) : Int) by omega]
      exact refHex_any (c / 16) w (by omega)
    have HY : Hid (∀ w : World, Calls Tryz.prog 98 #[.int .i64 ((c : Int) % 16)] w fun e w' => e = .returned (.string (str [dg (c % 16)])) ∧ Below w.heap.size w w') := fun w => by
      rw [show (c : Int) % 16 = ((c % 16 : Nat) : Int) by omega]
      exact refHex_any (c % 16) w (by omega)
    have hz : (str [dg (c / 16)]).size = 1 := rfl
    have hz' : (str [dg (c % 16)]).size = 1 := rfl
    have k7 : decide ((c : Int) < 32) = true ∨ (decide ((c : Int) < 32) = false ∧ ((c : Int) == 127) = true) := by
      by_cases hh : c < 32
      · exact .inl (by simp; omega)
      · exact .inr ⟨by simp; omega, by simp; omega⟩
    generalize str [dg (c / 16)] = X at *
    generalize str [dg (c % 16)] = Y at *
    clear e HB h1 h2 h3 h4 h5 h6 h7
    rcases k7 with k7 | ⟨k7, k8⟩
    all_goals
      go_enter Tryz.func66, Tryz.ntmps66
      go_wp2_with fail
      refine (HX.out _).mono ?_
      rintro e w1 ⟨rfl, hb1⟩
      go_wp2_with fail
      refine (HY.out _).mono ?_
      rintro e w2 ⟨rfl, hb2⟩
      have hB := hb1.trans (hb2.mono hb1.size)
      clear hb1 hb2
      go_wp2
      go_ret
      exact ⟨rfl, hB⟩
  · have e : shR c = enc c := by unfold shR; rw [if_neg h1, if_neg h2, if_neg h3, if_neg h4, if_neg h5, if_neg h6, if_neg h7]
    have k7 : decide ((c : Int) < 32) = false := by simp; omega
    have k8 : ((c : Int) == 127) = false := by rw [beq_eq_false_iff_ne]; omega
    rw [e]
    clear e h1 h2 h3 h4 h5 h6 h7
    go_enter Tryz.func66, Tryz.ntmps66
    go_wp2_with fail
    refine (refBytes_any c _ hs).mono ?_
    rintro e w1 ⟨rfl, hb1⟩
    go_wp2
    go_ret
    exact ⟨rfl, hb1⟩
end Go.Proofs.YtdendpckihckeaaGreatDoor
