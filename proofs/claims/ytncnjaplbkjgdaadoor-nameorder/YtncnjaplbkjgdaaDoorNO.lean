/- NameOrder: for every three texts the law returns true. -/
import Derived.Test.YtncnjaplbkjgdaaDoorNE
import Derived.Test.YtncnjaplbkjgdaaDoorNDc
import Derived.Test.YtncnjaplbkjgdaaDoorNG
namespace Go.Proofs.YtncnjaplbkjgdaaDoor
open Go.RowKit

theorem cmpL_anti (a b : List UInt8) : cmpL a b = - cmpL b a := cmp_anti _ _
theorem cmpL_vals (a b : List UInt8) : cmpL a b = -1 ∨ cmpL a b = 0 ∨ cmpL a b = 1 := cmp_vals _ _
theorem cmpL_same (a b : List UInt8) : (cmpL a b == 0) = sameL a b := by
  rw [Bool.eq_iff_iff, beq_iff_eq, sameL, decide_eq_true_eq]
  exact ⟨cmp_zero _ _, fun h => by unfold cmpL; rw [h]; exact cmp_self _⟩
theorem cmpL_trans {a b c : List UInt8} (h1 : cmpL a b = -1) (h2 : cmpL b c = -1) : cmpL a c = -1 := cmp_trans _ _ _ h1 h2
theorem cmpL_eq {a b : List UInt8} (h : cmpL a b = 0) : foldL a = foldL b := cmp_zero _ _ h


set_option maxRecDepth 100000 in
set_option maxHeartbeats 2000000 in
theorem order_lt (a b c : ByteArray) (w : World) (ha : a.size ≤ 500) (hb : b.size ≤ 500) (hc : c.size ≤ 500) (hT : UT w) (eab : cmpL a.data.toList b.data.toList = -1) :
    Calls Tryd.prog 6 #[.string a, .string b, .string c] w fun e w' => e = .returned (.bool true) ∧ Below w.heap.size w w' := by
  have eba : cmpL b.data.toList a.data.toList = 1 := by have := cmpL_anti a.data.toList b.data.toList; omega
  have esm : sameL a.data.toList b.data.toList = false := by rw [← cmpL_same, eab]; rfl
  have ga : ¬ (500 : Int) < a.size := by omega
  have gb : ¬ (500 : Int) < b.size := by omega
  have gc : ¬ (500 : Int) < c.size := by omega
  have ha : a.size ≤ 1000000 := by omega
  have hb : b.size ≤ 1000000 := by omega
  have hc : c.size ≤ 1000000 := by omega
  go_enter Tryd.func6, Tryd.ntmps6
  go_wp2_with fail
  refine (compare_any a b _ ha hb hT).mono ?_
  rintro e w1 ⟨rfl, hb1'⟩
  rw [eab]
  have hb1 := hb1'
  clear hb1'
  go_wp2_with fail
  refine (compare_any b a _ hb ha (Utf8Tabs_below hT hb1)).mono ?_
  rintro e w2 ⟨rfl, hb2'⟩
  rw [eba]
  have hb2 := hb1.trans (hb2'.mono hb1.size)
  clear hb1 hb2'
  go_wp2_with fail
  refine (same_any a b _ ha hb (Utf8Tabs_below hT hb2)).mono ?_
  rintro e w3 ⟨rfl, hb3'⟩
  rw [esm]
  have hb3 := hb2.trans (hb3'.mono hb2.size)
  clear hb2 hb3'
  go_wp2_with fail
  refine (check_any a _ (by omega)).mono ?_
  rintro e w4 ⟨rfl, hb4'⟩
  have hb4 := hb3.trans (hb4'.mono hb3.size)
  clear hb3 hb4'
  by_cases ca : checkL a.data.toList = 0
  · rw [ca]
    go_wp2_with fail
    refine (check_any b _ (by omega)).mono ?_
    rintro e w5 ⟨rfl, hb5'⟩
    have hb5 := hb4.trans (hb5'.mono hb4.size)
    clear hb4 hb5'
    by_cases cb : checkL b.data.toList = 0
    · rw [cb]
      go_wp2_with fail
      refine (check_any c _ (by omega)).mono ?_
      rintro e w6 ⟨rfl, hb6'⟩
      have hb6 := hb5.trans (hb6'.mono hb5.size)
      clear hb5 hb6'
      by_cases cc : checkL c.data.toList = 0
      · rw [cc]
        go_wp2_with fail
        refine (compare_any b c _ hb hc (Utf8Tabs_below hT hb6)).mono ?_
        rintro e w7 ⟨rfl, hb7'⟩
        have hb7 := hb6.trans (hb7'.mono hb6.size)
        clear hb6 hb7'
        go_wp2_with fail
        refine (compare_any a c _ ha hc (Utf8Tabs_below hT hb7)).mono ?_
        rintro e w8 ⟨rfl, hb8'⟩
        have hb8 := hb7.trans (hb8'.mono hb7.size)
        clear hb7 hb8'
        rcases cmpL_vals b.data.toList c.data.toList with ebc | ebc | ebc
        · rw [ebc]
          rw [cmpL_trans eab ebc]
          go_wp2_with fail
          refine (awake_any _ (Utf8Tabs_below hT hb8)).mono ?_
          rintro e w9 ⟨rfl, hb9'⟩
          have hb9 := hb8.trans (hb9'.mono hb8.size)
          clear hb8 hb9'
          go_wp2
          go_ret
          exact ⟨rfl, hb9⟩
        · rw [ebc]
          go_wp2_with fail
          refine (awake_any _ (Utf8Tabs_below hT hb8)).mono ?_
          rintro e w9 ⟨rfl, hb9'⟩
          have hb9 := hb8.trans (hb9'.mono hb8.size)
          clear hb8 hb9'
          go_wp2
          go_ret
          exact ⟨rfl, hb9⟩
        · rw [ebc]
          go_wp2_with fail
          refine (awake_any _ (Utf8Tabs_below hT hb8)).mono ?_
          rintro e w9 ⟨rfl, hb9'⟩
          have hb9 := hb8.trans (hb9'.mono hb8.size)
          clear hb8 hb9'
          go_wp2
          go_ret
          exact ⟨rfl, hb9⟩
      · have cc' : (checkL c.data.toList != 0) = true := by rw [bne_iff_ne]; exact cc
        go_wp2_with fail
        refine (awake_any _ (Utf8Tabs_below hT hb6)).mono ?_
        rintro e w7 ⟨rfl, hb7'⟩
        have hb7 := hb6.trans (hb7'.mono hb6.size)
        clear hb6 hb7'
        go_wp2
        go_ret
        exact ⟨rfl, hb7⟩
    · have cb' : (checkL b.data.toList != 0) = true := by rw [bne_iff_ne]; exact cb
      go_wp2_with fail
      refine (awake_any _ (Utf8Tabs_below hT hb5)).mono ?_
      rintro e w6 ⟨rfl, hb6'⟩
      have hb6 := hb5.trans (hb6'.mono hb5.size)
      clear hb5 hb6'
      go_wp2
      go_ret
      exact ⟨rfl, hb6⟩
  · have ca' : (checkL a.data.toList != 0) = true := by rw [bne_iff_ne]; exact ca
    go_wp2_with fail
    refine (awake_any _ (Utf8Tabs_below hT hb4)).mono ?_
    rintro e w5 ⟨rfl, hb5'⟩
    have hb5 := hb4.trans (hb5'.mono hb4.size)
    clear hb4 hb5'
    go_wp2
    go_ret
    exact ⟨rfl, hb5⟩

set_option maxRecDepth 100000 in
set_option maxHeartbeats 2000000 in
theorem order_eq (a b c : ByteArray) (w : World) (ha : a.size ≤ 500) (hb : b.size ≤ 500) (hc : c.size ≤ 500) (hT : UT w) (eab : cmpL a.data.toList b.data.toList = 0) :
    Calls Tryd.prog 6 #[.string a, .string b, .string c] w fun e w' => e = .returned (.bool true) ∧ Below w.heap.size w w' := by
  have eba : cmpL b.data.toList a.data.toList = 0 := by have := cmpL_anti a.data.toList b.data.toList; omega
  have esm : sameL a.data.toList b.data.toList = true := by rw [← cmpL_same, eab]; rfl
  have HE : Hid (cmpL b.data.toList c.data.toList = cmpL a.data.toList c.data.toList ∧ keyL a.data.toList = keyL b.data.toList) := by
    have e := cmpL_eq eab
    show _ ∧ _
    unfold cmpL keyL
    rw [e]
    exact ⟨rfl, rfl⟩
  have ga : ¬ (500 : Int) < a.size := by omega
  have gb : ¬ (500 : Int) < b.size := by omega
  have gc : ¬ (500 : Int) < c.size := by omega
  have ha : a.size ≤ 1000000 := by omega
  have hb : b.size ≤ 1000000 := by omega
  have hc : c.size ≤ 1000000 := by omega
  go_enter Tryd.func6, Tryd.ntmps6
  go_wp2_with fail
  refine (compare_any a b _ ha hb hT).mono ?_
  rintro e w1 ⟨rfl, hb1'⟩
  rw [eab]
  have hb1 := hb1'
  clear hb1'
  go_wp2_with fail
  refine (compare_any b a _ hb ha (Utf8Tabs_below hT hb1)).mono ?_
  rintro e w2 ⟨rfl, hb2'⟩
  rw [eba]
  have hb2 := hb1.trans (hb2'.mono hb1.size)
  clear hb1 hb2'
  go_wp2_with fail
  refine (same_any a b _ ha hb (Utf8Tabs_below hT hb2)).mono ?_
  rintro e w3 ⟨rfl, hb3'⟩
  rw [esm]
  have hb3 := hb2.trans (hb3'.mono hb2.size)
  clear hb2 hb3'
  go_wp2_with fail
  refine (check_any a _ (by omega)).mono ?_
  rintro e w4 ⟨rfl, hb4'⟩
  have hb4 := hb3.trans (hb4'.mono hb3.size)
  clear hb3 hb4'
  by_cases ca : checkL a.data.toList = 0
  · rw [ca]
    go_wp2_with fail
    refine (check_any b _ (by omega)).mono ?_
    rintro e w5 ⟨rfl, hb5'⟩
    have hb5 := hb4.trans (hb5'.mono hb4.size)
    clear hb4 hb5'
    by_cases cb : checkL b.data.toList = 0
    · rw [cb]
      go_wp2_with fail
      refine (check_any c _ (by omega)).mono ?_
      rintro e w6 ⟨rfl, hb6'⟩
      have hb6 := hb5.trans (hb6'.mono hb5.size)
      clear hb5 hb6'
      by_cases cc : checkL c.data.toList = 0
      · rw [cc]
        go_wp2_with fail
        refine (compare_any b c _ hb hc (Utf8Tabs_below hT hb6)).mono ?_
        rintro e w7 ⟨rfl, hb7'⟩
        have hb7 := hb6.trans (hb7'.mono hb6.size)
        clear hb6 hb7'
        go_wp2_with fail
        refine (compare_any a c _ ha hc (Utf8Tabs_below hT hb7)).mono ?_
        rintro e w8 ⟨rfl, hb8'⟩
        have hb8 := hb7.trans (hb8'.mono hb7.size)
        clear hb7 hb8'
        rw [HE.out.1]
        go_wp2_with fail
        refine (awake_any _ (Utf8Tabs_below hT hb8)).mono ?_
        rintro e w9 ⟨rfl, hb9'⟩
        have hb9 := hb8.trans (hb9'.mono hb8.size)
        clear hb8 hb9'
        go_wp2_with fail
        refine (key_any a _ ha (Utf8Tabs_below hT hb9)).mono ?_
        rintro e w10 ⟨rfl, hb10'⟩
        rw [HE.out.2]
        have hb10 := hb9.trans (hb10'.mono hb9.size)
        clear hb9 hb10'
        go_wp2_with fail
        refine (key_any b _ hb (Utf8Tabs_below hT hb10)).mono ?_
        rintro e w11 ⟨rfl, hb11'⟩
        have hb11 := hb10.trans (hb11'.mono hb10.size)
        clear hb10 hb11'
        go_wp2
        go_ret
        exact ⟨rfl, hb11⟩
      · have cc' : (checkL c.data.toList != 0) = true := by rw [bne_iff_ne]; exact cc
        go_wp2_with fail
        refine (awake_any _ (Utf8Tabs_below hT hb6)).mono ?_
        rintro e w7 ⟨rfl, hb7'⟩
        have hb7 := hb6.trans (hb7'.mono hb6.size)
        clear hb6 hb7'
        go_wp2
        go_ret
        exact ⟨rfl, hb7⟩
    · have cb' : (checkL b.data.toList != 0) = true := by rw [bne_iff_ne]; exact cb
      go_wp2_with fail
      refine (awake_any _ (Utf8Tabs_below hT hb5)).mono ?_
      rintro e w6 ⟨rfl, hb6'⟩
      have hb6 := hb5.trans (hb6'.mono hb5.size)
      clear hb5 hb6'
      go_wp2
      go_ret
      exact ⟨rfl, hb6⟩
  · have ca' : (checkL a.data.toList != 0) = true := by rw [bne_iff_ne]; exact ca
    go_wp2_with fail
    refine (awake_any _ (Utf8Tabs_below hT hb4)).mono ?_
    rintro e w5 ⟨rfl, hb5'⟩
    have hb5 := hb4.trans (hb5'.mono hb4.size)
    clear hb4 hb5'
    go_wp2
    go_ret
    exact ⟨rfl, hb5⟩

set_option maxRecDepth 100000 in
set_option maxHeartbeats 2000000 in
theorem order_gt (a b c : ByteArray) (w : World) (ha : a.size ≤ 500) (hb : b.size ≤ 500) (hc : c.size ≤ 500) (hT : UT w) (eab : cmpL a.data.toList b.data.toList = 1) :
    Calls Tryd.prog 6 #[.string a, .string b, .string c] w fun e w' => e = .returned (.bool true) ∧ Below w.heap.size w w' := by
  have eba : cmpL b.data.toList a.data.toList = -1 := by have := cmpL_anti a.data.toList b.data.toList; omega
  have esm : sameL a.data.toList b.data.toList = false := by rw [← cmpL_same, eab]; rfl
  have ga : ¬ (500 : Int) < a.size := by omega
  have gb : ¬ (500 : Int) < b.size := by omega
  have gc : ¬ (500 : Int) < c.size := by omega
  have ha : a.size ≤ 1000000 := by omega
  have hb : b.size ≤ 1000000 := by omega
  have hc : c.size ≤ 1000000 := by omega
  go_enter Tryd.func6, Tryd.ntmps6
  go_wp2_with fail
  refine (compare_any a b _ ha hb hT).mono ?_
  rintro e w1 ⟨rfl, hb1'⟩
  rw [eab]
  have hb1 := hb1'
  clear hb1'
  go_wp2_with fail
  refine (compare_any b a _ hb ha (Utf8Tabs_below hT hb1)).mono ?_
  rintro e w2 ⟨rfl, hb2'⟩
  rw [eba]
  have hb2 := hb1.trans (hb2'.mono hb1.size)
  clear hb1 hb2'
  go_wp2_with fail
  refine (same_any a b _ ha hb (Utf8Tabs_below hT hb2)).mono ?_
  rintro e w3 ⟨rfl, hb3'⟩
  rw [esm]
  have hb3 := hb2.trans (hb3'.mono hb2.size)
  clear hb2 hb3'
  go_wp2_with fail
  refine (check_any a _ (by omega)).mono ?_
  rintro e w4 ⟨rfl, hb4'⟩
  have hb4 := hb3.trans (hb4'.mono hb3.size)
  clear hb3 hb4'
  by_cases ca : checkL a.data.toList = 0
  · rw [ca]
    go_wp2_with fail
    refine (check_any b _ (by omega)).mono ?_
    rintro e w5 ⟨rfl, hb5'⟩
    have hb5 := hb4.trans (hb5'.mono hb4.size)
    clear hb4 hb5'
    by_cases cb : checkL b.data.toList = 0
    · rw [cb]
      go_wp2_with fail
      refine (check_any c _ (by omega)).mono ?_
      rintro e w6 ⟨rfl, hb6'⟩
      have hb6 := hb5.trans (hb6'.mono hb5.size)
      clear hb5 hb6'
      by_cases cc : checkL c.data.toList = 0
      · rw [cc]
        go_wp2_with fail
        refine (compare_any b c _ hb hc (Utf8Tabs_below hT hb6)).mono ?_
        rintro e w7 ⟨rfl, hb7'⟩
        have hb7 := hb6.trans (hb7'.mono hb6.size)
        clear hb6 hb7'
        go_wp2_with fail
        refine (compare_any a c _ ha hc (Utf8Tabs_below hT hb7)).mono ?_
        rintro e w8 ⟨rfl, hb8'⟩
        have hb8 := hb7.trans (hb8'.mono hb7.size)
        clear hb7 hb8'
        go_wp2_with fail
        refine (awake_any _ (Utf8Tabs_below hT hb8)).mono ?_
        rintro e w9 ⟨rfl, hb9'⟩
        have hb9 := hb8.trans (hb9'.mono hb8.size)
        clear hb8 hb9'
        go_wp2
        go_ret
        exact ⟨rfl, hb9⟩
      · have cc' : (checkL c.data.toList != 0) = true := by rw [bne_iff_ne]; exact cc
        go_wp2_with fail
        refine (awake_any _ (Utf8Tabs_below hT hb6)).mono ?_
        rintro e w7 ⟨rfl, hb7'⟩
        have hb7 := hb6.trans (hb7'.mono hb6.size)
        clear hb6 hb7'
        go_wp2
        go_ret
        exact ⟨rfl, hb7⟩
    · have cb' : (checkL b.data.toList != 0) = true := by rw [bne_iff_ne]; exact cb
      go_wp2_with fail
      refine (awake_any _ (Utf8Tabs_below hT hb5)).mono ?_
      rintro e w6 ⟨rfl, hb6'⟩
      have hb6 := hb5.trans (hb6'.mono hb5.size)
      clear hb5 hb6'
      go_wp2
      go_ret
      exact ⟨rfl, hb6⟩
  · have ca' : (checkL a.data.toList != 0) = true := by rw [bne_iff_ne]; exact ca
    go_wp2_with fail
    refine (awake_any _ (Utf8Tabs_below hT hb4)).mono ?_
    rintro e w5 ⟨rfl, hb5'⟩
    have hb5 := hb4.trans (hb5'.mono hb4.size)
    clear hb4 hb5'
    go_wp2
    go_ret
    exact ⟨rfl, hb5⟩

set_option maxHeartbeats 1000000 in
theorem nameOrder_walk (a b c : ByteArray) (w : World) (hsa : a.size ≤ 140737488355328) (hsb : b.size ≤ 140737488355328) (hsc : c.size ≤ 140737488355328) (hT : UT w) :
    Calls Tryd.prog 6 #[.string a, .string b, .string c] w fun e w' => e = .returned (.bool true) ∧ Below w.heap.size w w' := by
  by_cases g1 : 500 < a.size
  · have g1' : (500 : Int) < a.size := by omega
    go_enter Tryd.func6, Tryd.ntmps6
    go_wp2_with fail
    refine (awake_any _ hT).mono ?_
    rintro e w1 ⟨rfl, hb1⟩
    go_wp2
    go_ret
    exact ⟨rfl, hb1⟩
  have g1' : decide ((500 : Int) < a.size) = false := by simp; omega
  by_cases g2 : 500 < b.size
  · have g2' : (500 : Int) < b.size := by omega
    go_enter Tryd.func6, Tryd.ntmps6
    go_wp2_with fail
    refine (awake_any _ hT).mono ?_
    rintro e w1 ⟨rfl, hb1⟩
    go_wp2
    go_ret
    exact ⟨rfl, hb1⟩
  have g2' : decide ((500 : Int) < b.size) = false := by simp; omega
  by_cases g3 : 500 < c.size
  · have g3' : (500 : Int) < c.size := by omega
    go_enter Tryd.func6, Tryd.ntmps6
    go_wp2_with fail
    refine (awake_any _ hT).mono ?_
    rintro e w1 ⟨rfl, hb1⟩
    go_wp2
    go_ret
    exact ⟨rfl, hb1⟩
  rcases cmpL_vals a.data.toList b.data.toList with h | h | h
  · exact order_lt a b c w (by omega) (by omega) (by omega) hT h
  · exact order_eq a b c w (by omega) (by omega) (by omega) hT h
  · exact order_gt a b c w (by omega) (by omega) (by omega) hT h
end Go.Proofs.YtncnjaplbkjgdaaDoor
