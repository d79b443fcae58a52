/- NameChecks: for every text the law returns true. -/
import Derived.Test.YtncnjaplbkjgdaaDoorNE
import Derived.Test.YtncnjaplbkjgdaaDoorNZ
import Derived.Test.YtncnjaplbkjgdaaDoorNSm
namespace Go.Proofs.YtncnjaplbkjgdaaDoor
open Go.RowKit

theorem cutB_small (s : ByteArray) (hc : checkL s.data.toList = 0) : (cutB s.data.toList).length ≤ 140737488355328 := by
  have P := parts_of hc
  rw [P.cut, List.length_map]
  have := P.few
  omega
set_option maxRecDepth 100000 in
set_option maxHeartbeats 2000000 in
theorem nameChecks_walk (s : ByteArray) (w : World) (hs : s.size ≤ 140737488355328) (hT : UT w) (hM : ML w) :
    Calls Tryd.prog 3 #[.string s] w fun e w' => e = .returned (.bool true) ∧ Below w.heap.size w w' := by
  by_cases g1 : 2000 < s.size
  · have g1' : (2000 : Int) < s.size := by omega
    go_enter Tryd.func3, Tryd.ntmps3
    go_wp2_with fail
    refine (awake_any _ hT).mono ?_
    rintro e w1 ⟨rfl, hb1⟩
    go_wp2
    go_ret
    exact ⟨rfl, hb1⟩
  have g1' : ¬ (2000 : Int) < s.size := by omega
  go_enter Tryd.func3, Tryd.ntmps3
  go_wp2_with fail
  refine (awake_any _ hT).mono ?_
  rintro e w1 ⟨rfl, hb1⟩
  go_wp2_with fail
  refine (check_any s _ (by omega)).mono ?_
  rintro e w2 ⟨rfl, hb2'⟩
  have hb2 := hb1.trans (hb2'.mono hb1.size)
  clear hb1 hb2'
  go_wp2_with fail
  refine (refCheck_any s _ (by omega)).mono ?_
  rintro e w3 ⟨rfl, hb3'⟩
  have hb3 := hb2.trans (hb3'.mono hb2.size)
  clear hb2 hb3'
  by_cases hc : checkL s.data.toList = 0
  · have hl := cutB_small s hc
    go_wp2_with fail
    refine (parts_ok s _ (by omega) (ML_below hM hb3) hc).mono ?_
    rintro e w4 ⟨v4, rfl, hv4, hb4'⟩
    have hb4 := hb3.trans (hb4'.mono hb3.size)
    clear hb3 hb4'
    go_wp2_with fail
    refine (refParts_ok s _ (by omega) hc).mono ?_
    rintro e w5 ⟨v5, rfl, hv5, hb5'⟩
    have hb5 := hb4.trans (hb5'.mono hb4.size)
    have hv4' := hv4.below hb5'
    clear hb4 hb5' hv4
    go_wp2_with fail
    refine (sameTexts_eq v4 v5 _ _ hv4' hv5 hl).mono ?_
    rintro e w6 ⟨rfl, hb6'⟩
    have hb6 : Hid (Below w.heap.size w w6) := hb5.trans (hb6'.mono hb5.size)
    clear hb5 hb6' hv4' hv5
    go_wp2
    go_ret
    exact ⟨rfl, hb6.out⟩
  · go_wp2_with fail
    refine (parts_no s _ (by omega) hc).mono ?_
    rintro e w4 ⟨rfl, hb4'⟩
    have hb4 := hb3.trans (hb4'.mono hb3.size)
    clear hb3 hb4'
    go_wp2_with fail
    refine (refParts_no s _ (by omega) hc).mono ?_
    rintro e w5 ⟨rfl, hb5'⟩
    have hb5 := hb4.trans (hb5'.mono hb4.size)
    clear hb4 hb5'
    go_wp2_with fail
    refine (sameTexts_eq (.slice none 0 0) (.slice none 0 0) [] _ (IsRow.nil _ _) (IsRow.nil _ _) (by decide)).mono ?_
    rintro e w6 ⟨rfl, hb6'⟩
    have hb6 : Hid (Below w.heap.size w w6) := hb5.trans (hb6'.mono hb5.size)
    clear hb5 hb6'
    go_wp2
    go_ret
    exact ⟨rfl, hb6.out⟩
end Go.Proofs.YtncnjaplbkjgdaaDoor
