/- NameFolded: for every text the law returns true. -/
import Derived.Test.YtncnjaplbkjgdaaDoorNE
import Derived.Test.YtncnjaplbkjgdaaDoorNDc
import Derived.Test.YtncnjaplbkjgdaaDoorNDr
import Derived.Test.YtncnjaplbkjgdaaDoorNG
namespace Go.Proofs.YtncnjaplbkjgdaaDoor
open Go.RowKit

theorem fold_same (l : List UInt8) : sameL l (foldL l) = true := by unfold sameL; rw [foldL_idem]; simp
theorem fold_cmp (l : List UInt8) : cmpL l (foldL l) = 0 := by unfold cmpL; rw [foldL_idem]; exact cmp_self _
theorem fold_key (l : List UInt8) : keyL (foldL l) = keyL l := by unfold keyL; rw [foldL_idem]
theorem fold_count (l : List UInt8) : countL (foldL l) = countL l := by unfold countL; rw [foldL_valid, foldL_count]

set_option maxRecDepth 100000 in
set_option maxHeartbeats 2000000 in
theorem nameFolded_walk (s : ByteArray) (w : World) (hs : s.size ≤ 140737488355328) (hT : UT w) :
    Calls Tryd.prog 5 #[.string s] w fun e w' => e = .returned (.bool true) ∧ Below w.heap.size w w' := by
  by_cases g1 : 2000 < s.size
  · have g1' : (2000 : Int) < s.size := by omega
    go_enter Tryd.func5, Tryd.ntmps5
    go_wp2_with fail
    refine (awake_any _ hT).mono ?_
    rintro e w1 ⟨rfl, hb1⟩
    go_wp2
    go_ret
    exact ⟨rfl, hb1⟩
  have g1' : ¬ (2000 : Int) < s.size := by omega
  have hz := fold_size s
  have e1 : checkL (str (foldL s.data.toList)).data.toList = checkL s.data.toList := by rw [str_data, foldL_check]
  have e2 : str (foldL (str (foldL s.data.toList)).data.toList) = str (foldL s.data.toList) := by rw [str_data, foldL_idem]
  have e3 : sameL s.data.toList (str (foldL s.data.toList)).data.toList = true := by rw [str_data]; exact fold_same _
  have e4 : cmpL s.data.toList (str (foldL s.data.toList)).data.toList = 0 := by rw [str_data]; exact fold_cmp _
  have e5 : keyL (str (foldL s.data.toList)).data.toList = keyL s.data.toList := by rw [str_data]; exact fold_key _
  have e6 : countL (str (foldL s.data.toList)).data.toList = countL s.data.toList := by rw [str_data]; exact fold_count _
  have HF : Hid (∀ w, UT w → Calls Tryd.prog 19 #[.string s] w fun e w' => e = .returned (.string (str (foldL s.data.toList))) ∧ Below w.heap.size w w') := fun w h => fold_any s w (by omega) h
  generalize str (foldL s.data.toList) = f at *
  go_enter Tryd.func5, Tryd.ntmps5
  go_wp2_with fail
  refine (HF.out _ hT).mono ?_
  rintro e w1 ⟨rfl, hb1⟩
  go_wp2_with fail
  refine (awake_any _ (Utf8Tabs_below hT hb1)).mono ?_
  rintro e w2 ⟨rfl, hb2'⟩
  have hb2 := hb1.trans (hb2'.mono hb1.size)
  clear hb1 hb2'
  go_wp2_with fail
  refine (check_any f _ (by omega)).mono ?_
  rintro e w3 ⟨rfl, hb3'⟩
  rw [e1]
  have hb3 := hb2.trans (hb3'.mono hb2.size)
  clear hb2 hb3'
  go_wp2_with fail
  refine (check_any s _ (by omega)).mono ?_
  rintro e w4 ⟨rfl, hb4'⟩
  have hb4 := hb3.trans (hb4'.mono hb3.size)
  clear hb3 hb4'
  go_wp2_with fail
  refine (fold_any f _ (by omega) (Utf8Tabs_below hT hb4)).mono ?_
  rintro e w5 ⟨rfl, hb5'⟩
  rw [e2]
  have hb5 := hb4.trans (hb5'.mono hb4.size)
  clear hb4 hb5'
  go_wp2_with fail
  refine (same_any s f _ (by omega) (by omega) (Utf8Tabs_below hT hb5)).mono ?_
  rintro e w6 ⟨rfl, hb6'⟩
  rw [e3]
  have hb6 := hb5.trans (hb6'.mono hb5.size)
  clear hb5 hb6'
  go_wp2_with fail
  refine (compare_any s f _ (by omega) (by omega) (Utf8Tabs_below hT hb6)).mono ?_
  rintro e w7 ⟨rfl, hb7'⟩
  rw [e4]
  have hb7 := hb6.trans (hb7'.mono hb6.size)
  clear hb6 hb7'
  go_wp2_with fail
  refine (key_any f _ (by omega) (Utf8Tabs_below hT hb7)).mono ?_
  rintro e w8 ⟨rfl, hb8'⟩
  rw [e5]
  have hb8 := hb7.trans (hb8'.mono hb7.size)
  clear hb7 hb8'
  go_wp2_with fail
  refine (key_any s _ (by omega) (Utf8Tabs_below hT hb8)).mono ?_
  rintro e w9 ⟨rfl, hb9'⟩
  have hb9 := hb8.trans (hb9'.mono hb8.size)
  clear hb8 hb9'
  go_wp2_with fail
  refine (runes_any f _ (by omega) (Utf8Tabs_below hT hb9)).mono ?_
  rintro e wa ⟨rfl, hba'⟩
  rw [e6]
  have hba := hb9.trans (hba'.mono hb9.size)
  clear hb9 hba'
  go_wp2_with fail
  refine (runes_any s _ (by omega) (Utf8Tabs_below hT hba)).mono ?_
  rintro e wb ⟨rfl, hbb'⟩
  have hbb : Hid (Below w.heap.size w wb) := hba.trans (hbb'.mono hba.size)
  clear hba hbb'
  go_wp2
  go_ret
  exact ⟨rfl, hbb.out⟩
end Go.Proofs.YtncnjaplbkjgdaaDoor
