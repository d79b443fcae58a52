/- NameFolds: for every text the law returns true. -/
import Derived.Test.YtnhonedlonplaaaDoorNE
import Derived.Test.YtnhonedlonplaaaDoorNN
namespace Go.Proofs.YtnhonedlonplaaaDoor
open Go.RowKit

set_option maxRecDepth 100000 in
set_option maxHeartbeats 2000000 in
theorem nameFolds_walk (s : ByteArray) (w : World) (hs : s.size ≤ 140737488355328) (hT : UT w) :
    Calls Tryd.prog 6 #[.string s] w fun e w' => e = .returned (.bool true) ∧ Below w.heap.size w w' := by
  by_cases g1 : 2000 < s.size
  · have g1' : (2000 : Int) < s.size := by omega
    go_enter Tryd.func6, Tryd.ntmps6
    go_wp2_with fail
    refine (awake_any _ hT).mono ?_
    rintro e w1 ⟨rfl, hb1⟩
    go_wp2
    go_ret
    exact ⟨rfl, hb1⟩
  have g1' : ¬ (2000 : Int) < s.size := by omega
  have hs2 : s.size ≤ 1000000 := by omega
  have hz := fold_size s
  have HK : Hid (hashL (str (foldL s.data.toList)).data.toList = keyL s.data.toList) := by show _ = _; rw [str_data]; rfl
  go_enter Tryd.func6, Tryd.ntmps6
  go_wp2_with fail
  refine (refFold_any s _ hs2).mono ?_
  rintro e w1 ⟨rfl, hb1⟩
  go_wp2_with fail
  refine (awake_any _ (Utf8Tabs_below hT hb1)).mono ?_
  rintro e w2 ⟨rfl, hb2'⟩
  have hb2 := hb1.trans (hb2'.mono hb1.size)
  clear hb1 hb2'
  go_wp2_with fail
  refine (fold_any s _ hs2 (Utf8Tabs_below hT hb2)).mono ?_
  rintro e w3 ⟨rfl, hb3'⟩
  have hb3 := hb2.trans (hb3'.mono hb2.size)
  clear hb2 hb3'
  go_wp2_with fail
  refine (hash_any s _ (by omega)).mono ?_
  rintro e w' ⟨rfl, rfl⟩
  go_wp2_with fail
  refine (refHash_any s _ (by omega)).mono ?_
  rintro e w' ⟨rfl, rfl⟩
  go_wp2_with fail
  refine (key_any s _ hs2 (Utf8Tabs_below hT hb3)).mono ?_
  rintro e w4 ⟨rfl, hb4'⟩
  have hb4 : Hid (Below w.heap.size w w4) := hb3.trans (hb4'.mono hb3.size)
  clear hb3 hb4'
  go_wp2_with fail
  refine (refHash_any _ _ (by omega)).mono ?_
  rintro e w' ⟨rfl, rfl⟩
  rw [HK.out]
  go_wp2
  go_ret
  exact ⟨rfl, hb4.out⟩
end Go.Proofs.YtnhonedlonplaaaDoor
