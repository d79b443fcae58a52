/- QuicNums: for every n and z the law returns true, and what was there stays. -/
import Derived.Test.YtcfhghjgphhegaaDoorH
import Derived.Test.YtcfhghjgphhegaaDoorR
namespace Go.Proofs.YtcfhghjgphhegaaDoor
open Go.RowKit
set_option maxHeartbeats 400000 in
theorem quicNums_walk (n z : Int) (w : World) (hT : Tab w) :
    Calls Tryd.prog 3 #[.int .i64 n, .int .i64 z] w fun e w' => e = .returned (.bool true) ∧ Below w.heap.size w w' := by
  have hsz := hT.size
  go_enter Tryd.func3, Tryd.ntmps3
  have hb0 := Below.refl w.heap.size w
  have hT0 := hT
  go_wp2_with fail
  refine (awake_any _ hT).mono ?_
  rintro e w1 ⟨rfl, hb1'⟩
  have hb1 := hb0.trans (hb1'.mono hb0.size)
  have hT1 := hT.below hb1 hsz
  clear hb0 hb1' hT0
  go_wp2_with fail
  refine (num_any _ _ hT1).mono ?_
  rintro e w2 ⟨rfl, hb2'⟩
  have hb2 := hb1.trans (hb2'.mono hb1.size)
  have hT2 := hT.below hb2 hsz
  clear hb1 hb2' hT1
  go_wp2_with fail
  refine (refNum_any _ _).mono ?_
  rintro e w3 ⟨rfl, hb3'⟩
  have hb3 := hb2.trans (hb3'.mono hb2.size)
  have hT3 := hT.below hb3 hsz
  clear hb2 hb3' hT2
  go_wp2_with fail
  refine (whole_any _ _ hT3).mono ?_
  rintro e w4 ⟨rfl, hb4'⟩
  have hb4 := hb3.trans (hb4'.mono hb3.size)
  have hT4 := hT.below hb4 hsz
  clear hb3 hb4' hT3
  go_wp2_with fail
  refine (refWhole_any _ _).mono ?_
  rintro e w5 ⟨rfl, hb5'⟩
  have hb5 := hb4.trans (hb5'.mono hb4.size)
  have hT5 := hT.below hb5 hsz
  clear hb4 hb5' hT4
  go_wp2_with (first | (go_at_call 14; refine (size_any _ _).mono ?_; rintro e _ ⟨rfl, rfl⟩) | (go_at_call 15; refine (refSize_any _ _).mono ?_; rintro e _ ⟨rfl, rfl⟩))
  go_ret
  exact ⟨rfl, hb5⟩
end Go.Proofs.YtcfhghjgphhegaaDoor
