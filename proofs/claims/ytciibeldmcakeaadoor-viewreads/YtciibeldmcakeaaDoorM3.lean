/- Plain mathematics: the bytes of a number stand at the front of bytes just if its form is the shortest one. -/
import Derived.Test.YtciibeldmcakeaaDoorG
import Derived.Test.YtciibeldmcakeaaDoorM2
namespace Go.Proofs.YtciibeldmcakeaaDoor.Q
open Go.RowKit

theorem toList_strOfNums (xs : List Int) : (strOfNums xs).toList = xs.map fun n => UInt8.ofNat n.toNat := by rw [toList_eq]; exact strOfNums_data xs
theorem numI_len (n : Int) : (numI n).length = (qsize n).toNat := by
  unfold numI qsize
  (repeat' split) <;> rfl
theorem take_bt (s : ByteArray) (k : Nat) (h : k ≤ s.size) : s.data.toList.take k = (List.range k).map fun i => UInt8.ofNat (bt s i).toNat := by
  apply List.ext_getElem
  · simp; omega
  · intro i h1 h2
    have hi : i < s.size := by simp at h1; omega
    simp only [List.getElem_take, List.getElem_map, List.getElem_range]
    rw [← bt_eq hi]
    simp
    rfl
theorem extract_front (s : ByteArray) (k : Nat) : (s.extract 0 k).toList = s.data.toList.take k := by
  rw [toList_eq]
  simp [ByteArray.data_extract]

theorem cons_eq {a b : Int} {l m : List UInt8} (h : a = b) (h' : l = m) : UInt8.ofNat a.toNat :: l = UInt8.ofNat b.toNat :: m := by rw [h, h']

theorem num_front (s : ByteArray) (h : gsz s ≤ s.size) : ((strOfNums (numI (gval s))).toList == (s.extract 0 (gsz s)).toList) = decide (qsize (gval s) = gsz s) := by
  have r0 := bt_rng s 0
  have r1 := bt_rng s 1
  have r2 := bt_rng s 2
  have r3 := bt_rng s 3
  have r4 := bt_rng s 4
  have r5 := bt_rng s 5
  have r6 := bt_rng s 6
  have r7 := bt_rng s 7
  rw [toList_strOfNums, extract_front, take_bt s _ h]
  by_cases hq : qsize (gval s) = gsz s
  · rw [decide_eq_true hq, beq_iff_eq]
    by_cases c1 : bt s 0 < 64
    · have g1 : gsz s = 1 := by unfold gsz; rw [if_pos (by omega)]
      have g2 : gval s = bt s 0 % 64 := by unfold gval; rw [if_pos (by omega)]
      rw [g1] at hq ⊢
      have hlo : 0 ≤ gval s ∧ gval s < 64 := by
        unfold qsize at hq
        repeat' split at hq
        all_goals omega
      rw [numI_1 hlo.1 hlo.2]
      generalize gval s = V at *
      clear hq hlo h
      subst g2
      simp only [List.map_cons, List.map_nil, show List.range 1 = [0] from rfl]
      repeat (refine cons_eq (by omega) ?_)
      rfl
    by_cases c2 : bt s 0 < 128
    · have g1 : gsz s = 2 := by unfold gsz; rw [if_neg (by omega), if_pos (by omega)]
      have g2 : gval s = (bt s 0 % 64) * 256 + bt s 1 := by unfold gval; rw [if_neg (by omega), if_pos (by omega)]
      rw [g1] at hq ⊢
      have hlo : 64 ≤ gval s ∧ gval s < 16384 := by
        unfold qsize at hq
        repeat' split at hq
        all_goals omega
      rw [numI_2 hlo.1 hlo.2]
      generalize gval s = V at *
      clear hq hlo h
      subst g2
      simp only [List.map_cons, List.map_nil, show List.range 2 = [0, 1] from rfl]
      repeat (refine cons_eq (by omega) ?_)
      rfl
    by_cases c4 : bt s 0 < 192
    · have g1 : gsz s = 4 := by unfold gsz; rw [if_neg (by omega), if_neg (by omega), if_pos (by omega)]
      have g2 : gval s = (((bt s 0 % 64) * 256 + bt s 1) * 256 + bt s 2) * 256 + bt s 3 := by unfold gval; rw [if_neg (by omega), if_neg (by omega), if_pos (by omega)]
      rw [g1] at hq ⊢
      have hlo : 16384 ≤ gval s ∧ gval s < 1073741824 := by
        unfold qsize at hq
        repeat' split at hq
        all_goals omega
      rw [numI_4 hlo.1 hlo.2]
      generalize gval s = V at *
      clear hq hlo h
      subst g2
      simp only [List.map_cons, List.map_nil, show List.range 4 = [0, 1, 2, 3] from rfl]
      repeat (refine cons_eq (by omega) ?_)
      rfl
    · have g1 : gsz s = 8 := by unfold gsz; rw [if_neg (by omega), if_neg (by omega), if_neg (by omega)]
      have g2 : gval s = (((((((bt s 0 % 64) * 256 + bt s 1) * 256 + bt s 2) * 256 + bt s 3) * 256 + bt s 4) * 256 + bt s 5) * 256 + bt s 6) * 256 + bt s 7 := by unfold gval; rw [if_neg (by omega), if_neg (by omega), if_neg (by omega)]
      rw [g1] at hq ⊢
      have hlo : 1073741824 ≤ gval s ∧ gval s ≤ 4611686018427387903 := by
        unfold qsize at hq
        repeat' split at hq
        all_goals omega
      rw [numI_8 hlo.1 hlo.2]
      generalize gval s = V at *
      clear hq hlo h
      subst g2
      simp only [List.map_cons, List.map_nil, show List.range 8 = [0, 1, 2, 3, 4, 5, 6, 7] from rfl]
      repeat (refine cons_eq (by omega) ?_)
      rfl
  · rw [decide_eq_false hq, beq_eq_false_iff_ne]
    intro e
    have := congrArg List.length e
    simp only [List.length_map, numI_len, List.length_range] at this
    have h0 : 0 ≤ qsize (gval s) := by unfold qsize; (repeat' split) <;> omega
    omega

end Go.Proofs.YtciibeldmcakeaaDoor.Q
