/- QuicRises: for every two ints the law returns true, and what was there stays. -/
import Derived.Test.YtcfhghjgphhegabDoorH
import Derived.Test.YtcfhghjgphhegabDoorM2
namespace Go.Proofs.YtcfhghjgphhegabDoor
open Go.RowKit
set_option linter.unusedVariables false

theorem empty_of_size {X : ByteArray} (h : (X.size : Int) = 0) : X.toList.isEmpty = true := isEmpty_to X (by omega)
theorem full_of_size {X : ByteArray} (h : 0 < (X.size : Int)) : X.toList.isEmpty = false := isEmpty_of X (by omega)
theorem qsize_valid {a : Int} (h : ¬ (a < 0 ∨ 4611686018427387903 < a)) : 0 < qsize a := by unfold qsize; rw [if_neg h]; (repeat' split) <;> omega

set_option maxHeartbeats 1000000 in
theorem rises_a1 (a b : Int) (w : World) (hT : Tab w) (X Y : ByteArray) (p q : Int) (HX : Hid (X = strOfNums (numI a))) (HY : Hid (Y = strOfNums (numI b))) (HP : Hid (qsize a = p)) (HQ : Hid (qsize b = q)) (hXs : (X.size : Int) = p) (hYs : (Y.size : Int) = q) (hp : (p == 0) = true) (hXe : X.toList.isEmpty = true) :
    Calls Tryd.prog 4 #[.int .i64 a, .int .i64 b] w fun e w' => e = .returned (.bool true) ∧ Below w.heap.size w w' := by
  have hsz := hT.size
  go_enter Tryd.func4, Tryd.ntmps4
  go_wp2_with fail
  refine (num_any _ _ hT).mono ?_
  rintro e w1 ⟨rfl, hb1⟩
  have hT1 := hT.below hb1 hsz
  rw [← HX.out]
  go_wp2_with fail
  refine (num_any _ _ hT1).mono ?_
  rintro e w2 ⟨rfl, hb2'⟩
  have hb2 := hb1.trans (hb2'.mono hb1.size)
  have hT2 := hT.below hb2 hsz
  clear hb1 hb2' hT1
  rw [← HY.out]
  go_wp2_with (first
    | (go_at_call 15; refine (refSize_any _ _).mono ?_; rintro e w' ⟨rfl, hw⟩; (first | rw [HP.out] | rw [HQ.out]); subst hw)
    | (go_at_call 9; refine (awake_any _ hT2).mono ?_; rintro e w3 ⟨rfl, hb3⟩; have hfin : Hid (Below w.heap.size w w3) := hb2.trans (hb3.mono hb2.size); clear hb3 hb2))
  go_ret
  exact ⟨rfl, hfin.out⟩

set_option maxHeartbeats 1000000 in
theorem rises_a2 (a b : Int) (w : World) (hT : Tab w) (X Y : ByteArray) (p q : Int) (HX : Hid (X = strOfNums (numI a))) (HY : Hid (Y = strOfNums (numI b))) (HP : Hid (qsize a = p)) (HQ : Hid (qsize b = q)) (hXs : (X.size : Int) = p) (hYs : (Y.size : Int) = q) (hp : (p == 0) = false) (hq : (q == 0) = true) (hXe : X.toList.isEmpty = false) (hYe : Y.toList.isEmpty = true) :
    Calls Tryd.prog 4 #[.int .i64 a, .int .i64 b] w fun e w' => e = .returned (.bool true) ∧ Below w.heap.size w w' := by
  have hsz := hT.size
  go_enter Tryd.func4, Tryd.ntmps4
  go_wp2_with fail
  refine (num_any _ _ hT).mono ?_
  rintro e w1 ⟨rfl, hb1⟩
  have hT1 := hT.below hb1 hsz
  rw [← HX.out]
  go_wp2_with fail
  refine (num_any _ _ hT1).mono ?_
  rintro e w2 ⟨rfl, hb2'⟩
  have hb2 := hb1.trans (hb2'.mono hb1.size)
  have hT2 := hT.below hb2 hsz
  clear hb1 hb2' hT1
  rw [← HY.out]
  go_wp2_with (first
    | (go_at_call 15; refine (refSize_any _ _).mono ?_; rintro e w' ⟨rfl, hw⟩; (first | rw [HP.out] | rw [HQ.out]); subst hw)
    | (go_at_call 9; refine (awake_any _ hT2).mono ?_; rintro e w3 ⟨rfl, hb3⟩; have hfin : Hid (Below w.heap.size w w3) := hb2.trans (hb3.mono hb2.size); clear hb3 hb2))
  go_ret
  exact ⟨rfl, hfin.out⟩

set_option maxHeartbeats 1000000 in
theorem rises_b1s (a b : Int) (w : World) (hT : Tab w) (X Y : ByteArray) (p q : Int) (HX : Hid (X = strOfNums (numI a))) (HY : Hid (Y = strOfNums (numI b))) (HP : Hid (qsize a = p)) (HQ : Hid (qsize b = q)) (hXs : (X.size : Int) = p) (hYs : (Y.size : Int) = q) (hp : (p == 0) = false) (hq : (q == 0) = false) (hab : a < b) (hne : (a == b) = false) (hpq : (p != q) = false) (h1 : ¬ q < p) (hsame : (X.toList == Y.toList) = false) (hless : Op.bytesLess X.toList Y.toList = true) :
    Calls Tryd.prog 4 #[.int .i64 a, .int .i64 b] w fun e w' => e = .returned (.bool true) ∧ Below w.heap.size w w' := by
  have hsz := hT.size
  have hle : a ≤ b := by omega
  go_enter Tryd.func4, Tryd.ntmps4
  go_wp2_with fail
  refine (num_any _ _ hT).mono ?_
  rintro e w1 ⟨rfl, hb1⟩
  have hT1 := hT.below hb1 hsz
  rw [← HX.out]
  go_wp2_with fail
  refine (num_any _ _ hT1).mono ?_
  rintro e w2 ⟨rfl, hb2'⟩
  have hb2 := hb1.trans (hb2'.mono hb1.size)
  have hT2 := hT.below hb2 hsz
  clear hb1 hb2' hT1
  rw [← HY.out]
  go_wp2_with (first
    | (go_at_call 15; refine (refSize_any _ _).mono ?_; rintro e w' ⟨rfl, hw⟩; (first | rw [HP.out] | rw [HQ.out]); subst hw)
    | (go_at_call 9; refine (awake_any _ hT2).mono ?_; rintro e w3 ⟨rfl, hb3⟩; have hfin : Hid (Below w.heap.size w w3) := hb2.trans (hb3.mono hb2.size); clear hb3 hb2))
  go_ret
  exact ⟨rfl, hfin.out⟩

set_option maxHeartbeats 1000000 in
theorem rises_b1d (a b : Int) (w : World) (hT : Tab w) (X Y : ByteArray) (p q : Int) (HX : Hid (X = strOfNums (numI a))) (HY : Hid (Y = strOfNums (numI b))) (HP : Hid (qsize a = p)) (HQ : Hid (qsize b = q)) (hXs : (X.size : Int) = p) (hYs : (Y.size : Int) = q) (hp : (p == 0) = false) (hq : (q == 0) = false) (hab : a < b) (hne : (a == b) = false) (hpq : (p != q) = true) (h1 : ¬ q < p) (hsame : (X.toList == Y.toList) = false) :
    Calls Tryd.prog 4 #[.int .i64 a, .int .i64 b] w fun e w' => e = .returned (.bool true) ∧ Below w.heap.size w w' := by
  have hsz := hT.size
  have hle : a ≤ b := by omega
  go_enter Tryd.func4, Tryd.ntmps4
  go_wp2_with fail
  refine (num_any _ _ hT).mono ?_
  rintro e w1 ⟨rfl, hb1⟩
  have hT1 := hT.below hb1 hsz
  rw [← HX.out]
  go_wp2_with fail
  refine (num_any _ _ hT1).mono ?_
  rintro e w2 ⟨rfl, hb2'⟩
  have hb2 := hb1.trans (hb2'.mono hb1.size)
  have hT2 := hT.below hb2 hsz
  clear hb1 hb2' hT1
  rw [← HY.out]
  go_wp2_with (first
    | (go_at_call 15; refine (refSize_any _ _).mono ?_; rintro e w' ⟨rfl, hw⟩; (first | rw [HP.out] | rw [HQ.out]); subst hw)
    | (go_at_call 9; refine (awake_any _ hT2).mono ?_; rintro e w3 ⟨rfl, hb3⟩; have hfin : Hid (Below w.heap.size w w3) := hb2.trans (hb3.mono hb2.size); clear hb3 hb2))
  go_ret
  exact ⟨rfl, hfin.out⟩

set_option maxHeartbeats 1000000 in
theorem rises_b3s (a b : Int) (w : World) (hT : Tab w) (X Y : ByteArray) (p q : Int) (HX : Hid (X = strOfNums (numI a))) (HY : Hid (Y = strOfNums (numI b))) (HP : Hid (qsize a = p)) (HQ : Hid (qsize b = q)) (hXs : (X.size : Int) = p) (hYs : (Y.size : Int) = q) (hp : (p == 0) = false) (hq : (q == 0) = false) (hab : b < a) (hne : (a == b) = false) (hpq : (p != q) = false) (h1 : ¬ p < q) (hsame : (X.toList == Y.toList) = false) (hless : Op.bytesLess X.toList Y.toList = false) :
    Calls Tryd.prog 4 #[.int .i64 a, .int .i64 b] w fun e w' => e = .returned (.bool true) ∧ Below w.heap.size w w' := by
  have hsz := hT.size
  have hle : b ≤ a := by omega
  have hd : decide (a < b) = false := by simp; omega
  go_enter Tryd.func4, Tryd.ntmps4
  go_wp2_with fail
  refine (num_any _ _ hT).mono ?_
  rintro e w1 ⟨rfl, hb1⟩
  have hT1 := hT.below hb1 hsz
  rw [← HX.out]
  go_wp2_with fail
  refine (num_any _ _ hT1).mono ?_
  rintro e w2 ⟨rfl, hb2'⟩
  have hb2 := hb1.trans (hb2'.mono hb1.size)
  have hT2 := hT.below hb2 hsz
  clear hb1 hb2' hT1
  rw [← HY.out]
  go_wp2_with (first
    | (go_at_call 15; refine (refSize_any _ _).mono ?_; rintro e w' ⟨rfl, hw⟩; (first | rw [HP.out] | rw [HQ.out]); subst hw)
    | (go_at_call 9; refine (awake_any _ hT2).mono ?_; rintro e w3 ⟨rfl, hb3⟩; have hfin : Hid (Below w.heap.size w w3) := hb2.trans (hb3.mono hb2.size); clear hb3 hb2))
  go_ret
  exact ⟨rfl, hfin.out⟩

set_option maxHeartbeats 1000000 in
theorem rises_b3d (a b : Int) (w : World) (hT : Tab w) (X Y : ByteArray) (p q : Int) (HX : Hid (X = strOfNums (numI a))) (HY : Hid (Y = strOfNums (numI b))) (HP : Hid (qsize a = p)) (HQ : Hid (qsize b = q)) (hXs : (X.size : Int) = p) (hYs : (Y.size : Int) = q) (hp : (p == 0) = false) (hq : (q == 0) = false) (hab : b < a) (hne : (a == b) = false) (hpq : (p != q) = true) (h1 : ¬ p < q) (hsame : (X.toList == Y.toList) = false) :
    Calls Tryd.prog 4 #[.int .i64 a, .int .i64 b] w fun e w' => e = .returned (.bool true) ∧ Below w.heap.size w w' := by
  have hsz := hT.size
  have hle : b ≤ a := by omega
  go_enter Tryd.func4, Tryd.ntmps4
  go_wp2_with fail
  refine (num_any _ _ hT).mono ?_
  rintro e w1 ⟨rfl, hb1⟩
  have hT1 := hT.below hb1 hsz
  rw [← HX.out]
  go_wp2_with fail
  refine (num_any _ _ hT1).mono ?_
  rintro e w2 ⟨rfl, hb2'⟩
  have hb2 := hb1.trans (hb2'.mono hb1.size)
  have hT2 := hT.below hb2 hsz
  clear hb1 hb2' hT1
  rw [← HY.out]
  go_wp2_with (first
    | (go_at_call 15; refine (refSize_any _ _).mono ?_; rintro e w' ⟨rfl, hw⟩; (first | rw [HP.out] | rw [HQ.out]); subst hw)
    | (go_at_call 9; refine (awake_any _ hT2).mono ?_; rintro e w3 ⟨rfl, hb3⟩; have hfin : Hid (Below w.heap.size w w3) := hb2.trans (hb3.mono hb2.size); clear hb3 hb2))
  go_ret
  exact ⟨rfl, hfin.out⟩

set_option maxHeartbeats 1000000 in
theorem rises_b2 (a b : Int) (w : World) (hT : Tab w) (X Y : ByteArray) (p q : Int) (HX : Hid (X = strOfNums (numI a))) (HY : Hid (Y = strOfNums (numI b))) (HP : Hid (qsize a = p)) (HQ : Hid (qsize b = q)) (hXs : (X.size : Int) = p) (hYs : (Y.size : Int) = q) (hp : (p == 0) = false) (hq : (q == 0) = false) (hab : a ≤ b) (hba : b ≤ a) (hne : (a == b) = true) (hpq : (p != q) = false) (h1 : ¬ p < q) (h2 : ¬ q < p) (hsame : (X.toList == Y.toList) = true) (hless : Op.bytesLess X.toList Y.toList = false) :
    Calls Tryd.prog 4 #[.int .i64 a, .int .i64 b] w fun e w' => e = .returned (.bool true) ∧ Below w.heap.size w w' := by
  have hsz := hT.size
  have hd : decide (a < b) = false := by simp; omega
  go_enter Tryd.func4, Tryd.ntmps4
  go_wp2_with fail
  refine (num_any _ _ hT).mono ?_
  rintro e w1 ⟨rfl, hb1⟩
  have hT1 := hT.below hb1 hsz
  rw [← HX.out]
  go_wp2_with fail
  refine (num_any _ _ hT1).mono ?_
  rintro e w2 ⟨rfl, hb2'⟩
  have hb2 := hb1.trans (hb2'.mono hb1.size)
  have hT2 := hT.below hb2 hsz
  clear hb1 hb2' hT1
  rw [← HY.out]
  go_wp2_with (first
    | (go_at_call 15; refine (refSize_any _ _).mono ?_; rintro e w' ⟨rfl, hw⟩; (first | rw [HP.out] | rw [HQ.out]); subst hw)
    | (go_at_call 9; refine (awake_any _ hT2).mono ?_; rintro e w3 ⟨rfl, hb3⟩; have hfin : Hid (Below w.heap.size w w3) := hb2.trans (hb3.mono hb2.size); clear hb3 hb2))
  go_ret
  exact ⟨rfl, hfin.out⟩

theorem quicRises_walk (a b : Int) (w : World) (hT : Tab w) :
    Calls Tryd.prog 4 #[.int .i64 a, .int .i64 b] w fun e w' => e = .returned (.bool true) ∧ Below w.heap.size w w' := by
  have sa := strOfNums_len a
  have sb := strOfNums_len b
  by_cases ha : a < 0 ∨ 4611686018427387903 < a
  · have e := qsize_0 ha
    exact rises_a1 a b w hT _ _ (qsize a) (qsize b) rfl rfl rfl rfl sa sb (by rw [e]; rfl) (empty_of_size (by omega))
  have ha' := qsize_valid ha
  by_cases hb : b < 0 ∨ 4611686018427387903 < b
  · have e := qsize_0 hb
    exact rises_a2 a b w hT _ _ (qsize a) (qsize b) rfl rfl rfl rfl sa sb (by rw [beq_eq_false_iff_ne]; omega) (by rw [e]; rfl) (full_of_size (by omega)) (empty_of_size (by omega))
  have hb' := qsize_valid hb
  have va : 0 ≤ a ∧ a ≤ 4611686018427387903 := by omega
  have vb : 0 ≤ b ∧ b ≤ 4611686018427387903 := by omega
  have hs := num_same a b va vb
  have zp : (qsize a == 0) = false := by rw [beq_eq_false_iff_ne]; omega
  have zq : (qsize b == 0) = false := by rw [beq_eq_false_iff_ne]; omega
  rcases Int.lt_trichotomy a b with c | c | c
  · have m := qsize_mono a b va.1 (by omega) vb.2
    have hne : (a == b) = false := by rw [beq_eq_false_iff_ne]; omega
    rw [hne] at hs
    by_cases pq : qsize a = qsize b
    · have l := num_less a b va vb pq
      exact rises_b1s a b w hT _ _ (qsize a) (qsize b) rfl rfl rfl rfl sa sb zp zq c hne (by rw [pq]; simp) (by omega) hs (by rw [l]; simp; omega)
    · exact rises_b1d a b w hT _ _ (qsize a) (qsize b) rfl rfl rfl rfl sa sb zp zq c hne (by rw [bne_iff_ne]; exact pq) (by omega) hs
  · subst c
    have l := num_less a a va vb rfl
    exact rises_b2 a a w hT _ _ (qsize a) (qsize a) rfl rfl rfl rfl sa sb zp zq (by omega) (by omega) (by simp) (by simp) (by omega) (by omega) (by simp) (by rw [l]; simp)
  · have m := qsize_mono b a vb.1 (by omega) va.2
    have hne : (a == b) = false := by rw [beq_eq_false_iff_ne]; omega
    rw [hne] at hs
    by_cases pq : qsize a = qsize b
    · have l := num_less a b va vb pq
      exact rises_b3s a b w hT _ _ (qsize a) (qsize b) rfl rfl rfl rfl sa sb zp zq c hne (by rw [pq]; simp) (by omega) hs (by rw [l]; simp; omega)
    · exact rises_b3d a b w hT _ _ (qsize a) (qsize b) rfl rfl rfl rfl sa sb zp zq c hne (by rw [bne_iff_ne]; exact pq) (by omega) hs
end Go.Proofs.YtcfhghjgphhegabDoor
