/- NameCompares: for every two texts the law returns true. -/
import Derived.Test.YtncnjaplbkjgdaaDoorNE
import Derived.Test.YtncnjaplbkjgdaaDoorNZd
import Derived.Test.YtncnjaplbkjgdaaDoorNUr
namespace Go.Proofs.YtncnjaplbkjgdaaDoor
open Go.RowKit

set_option maxHeartbeats 1000000 in
theorem under_no2 (a b : ByteArray) (w : World) (ha : a.size ≤ 1000000) (hb : b.size ≤ 1000000) (ca : checkL a.data.toList = 0) (hc : checkL b.data.toList ≠ 0) :
    Calls Tryd.prog 17 #[.string a, .string b] w fun e w' => e = .returned (.bool false) ∧ Below w.heap.size w w' := by
  have hc' : (checkL b.data.toList != 0) = true := by rw [bne_iff_ne]; exact hc
  go_enter Tryd.func17, Tryd.ntmps17
  go_wp2_with fail
  refine (check_any a _ (by omega)).mono ?_
  rintro e w1 ⟨rfl, hb1⟩
  rw [ca]
  go_wp2_with fail
  refine (check_any b _ (by omega)).mono ?_
  rintro e w2 ⟨rfl, hb2'⟩
  have hb2 := hb1.trans (hb2'.mono hb1.size)
  clear hb1 hb2'
  go_wp2
  go_ret
  exact ⟨rfl, hb2⟩
theorem under_any (a b : ByteArray) (w : World) (ha : a.size ≤ 1000000) (hb : b.size ≤ 1000000) (hT : UT w) :
    Calls Tryd.prog 17 #[.string a, .string b] w fun e w' => e = .returned (.bool (underL a.data.toList b.data.toList)) ∧ Below w.heap.size w w' := by
  by_cases ca : checkL a.data.toList = 0
  · by_cases cb : checkL b.data.toList = 0
    · have e : underL a.data.toList b.data.toList = Lib.hasPrefix (foldL a.data.toList ++ [46]) (foldL b.data.toList ++ [46]) := by rw [underL, decide_eq_true ⟨ca, cb⟩, Bool.true_and, under_cut]
      rw [e]
      exact under_names a b w ha hb hT ca cb
    · have e : underL a.data.toList b.data.toList = false := by rw [underL, decide_eq_false (fun h => cb h.2), Bool.false_and]
      rw [e]
      exact under_no2 a b w ha hb ca cb
  · have e : underL a.data.toList b.data.toList = false := by rw [underL, decide_eq_false (fun h => ca h.1), Bool.false_and]
    rw [e]
    exact under_no a b w ha ca

theorem same_dec (a b : List UInt8) : sameL a b = ((str (foldL a)).toList == (str (foldL b)).toList) := by
  rw [ByteArray.toList_eq, ByteArray.toList_eq, str_data, str_data, sameL, Bool.eq_iff_iff, beq_iff_eq, decide_eq_true_eq]

set_option maxRecDepth 100000 in
set_option maxHeartbeats 2000000 in
theorem nameCompares_walk (a b : ByteArray) (w : World) (hsa : a.size ≤ 140737488355328) (hsb : b.size ≤ 140737488355328) (hT : UT w) :
    Calls Tryd.prog 4 #[.string a, .string b] w fun e w' => e = .returned (.bool true) ∧ Below w.heap.size w w' := by
  by_cases g1 : 2000 < a.size
  · have g1' : (2000 : Int) < a.size := by omega
    go_enter Tryd.func4, Tryd.ntmps4
    go_wp2_with fail
    refine (awake_any _ hT).mono ?_
    rintro e w1 ⟨rfl, hb1⟩
    go_wp2
    go_ret
    exact ⟨rfl, hb1⟩
  have g1' : decide ((2000 : Int) < a.size) = false := by simp; omega
  by_cases g2 : 2000 < b.size
  · have g2' : (2000 : Int) < b.size := by omega
    go_enter Tryd.func4, Tryd.ntmps4
    go_wp2_with fail
    refine (awake_any _ hT).mono ?_
    rintro e w1 ⟨rfl, hb1⟩
    go_wp2
    go_ret
    exact ⟨rfl, hb1⟩
  have g2' : decide ((2000 : Int) < b.size) = false := by simp; omega
  have HS : Hid _ := same_dec a.data.toList b.data.toList
  have HFa : Hid (∀ w, Calls Tryd.prog 16 #[.string a] w fun e w' => e = .returned (.string (str (foldL a.data.toList))) ∧ Below w.heap.size w w') := fun w => refFold_any a w (by omega)
  have HFb : Hid (∀ w, Calls Tryd.prog 16 #[.string b] w fun e w' => e = .returned (.string (str (foldL b.data.toList))) ∧ Below w.heap.size w w') := fun w => refFold_any b w (by omega)
  generalize str (foldL a.data.toList) = x at *
  generalize str (foldL b.data.toList) = y at *
  go_enter Tryd.func4, Tryd.ntmps4
  go_wp2_with fail
  refine (awake_any _ hT).mono ?_
  rintro e w1 ⟨rfl, hb1⟩
  go_wp2_with fail
  refine (compare_any a b _ (by omega) (by omega) (Utf8Tabs_below hT hb1)).mono ?_
  rintro e w2 ⟨rfl, hb2'⟩
  have hb2 := hb1.trans (hb2'.mono hb1.size)
  clear hb1 hb2'
  go_wp2_with fail
  refine (refCompare_any a b _ (by omega) (by omega)).mono ?_
  rintro e w3 ⟨rfl, hb3'⟩
  have hb3 := hb2.trans (hb3'.mono hb2.size)
  clear hb2 hb3'
  go_wp2_with fail
  refine (same_any a b _ (by omega) (by omega) (Utf8Tabs_below hT hb3)).mono ?_
  rintro e w4 ⟨rfl, hb4'⟩
  rw [HS.out]
  have hb4 := hb3.trans (hb4'.mono hb3.size)
  clear hb3 hb4'
  go_wp2_with fail
  refine (HFa.out _).mono ?_
  rintro e w5 ⟨rfl, hb5'⟩
  have hb5 := hb4.trans (hb5'.mono hb4.size)
  clear hb4 hb5'
  go_wp2_with fail
  refine (HFb.out _).mono ?_
  rintro e w6 ⟨rfl, hb6'⟩
  have hb6 := hb5.trans (hb6'.mono hb5.size)
  clear hb5 hb6'
  go_wp2_with fail
  refine (under_any a b _ (by omega) (by omega) (Utf8Tabs_below hT hb6)).mono ?_
  rintro e w7 ⟨rfl, hb7'⟩
  have hb7 := hb6.trans (hb7'.mono hb6.size)
  clear hb6 hb7'
  go_wp2_with fail
  refine (refUnder_any a b _ (by omega) (by omega)).mono ?_
  rintro e w8 ⟨rfl, hb8'⟩
  have hb8 : Hid (Below w.heap.size w w8) := hb7.trans (hb8'.mono hb7.size)
  clear hb7 hb8'
  go_wp2
  go_ret
  exact ⟨rfl, hb8.out⟩
end Go.Proofs.YtncnjaplbkjgdaaDoor
