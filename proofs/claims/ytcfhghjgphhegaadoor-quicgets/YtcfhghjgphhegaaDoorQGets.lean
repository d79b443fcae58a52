/- QuicGets: for every text the law returns true, and what was there stays. -/
import Derived.Test.YtcfhghjgphhegaaDoorH
import Derived.Test.YtcfhghjgphhegaaDoorK2
namespace Go.Proofs.YtcfhghjgphhegaaDoor
open Go.RowKit
set_option maxHeartbeats 400000 in
theorem quicGets_walk (s : ByteArray) (w : World) (hs : s.size ≤ 140737488355328) (hT : Tab w) :
    Calls Tryd.prog 4 #[.string s] w fun e w' => e = .returned (.bool true) ∧ Below w.heap.size w w' := by
  have hsz := hT.size
  go_enter Tryd.func4, Tryd.ntmps4
  go_wp2_with fail
  refine (get_any _ _ hs).mono ?_
  rintro e w1 ⟨rfl, hb1⟩
  go_wp2_with fail
  refine (refGet_any _ _ hs).mono ?_
  rintro e w2 ⟨rfl, hb2'⟩
  have hb2 := hb1.trans (hb2'.mono hb1.size)
  have hT2 := hT.below hb2 hsz
  clear hb1 hb2'
  go_wp2_with fail
  refine (awake_any _ ?_).mono ?_
  · exact hT2.below ((Below.refl _ _).alloc (Nat.le_refl _) _) hT2.size
  rintro e w3 ⟨rfl, hb3⟩
  obtain ⟨hc, hf, hbl, hz⟩ := part_cells0 hb3
  have hfin : Hid (Below w.heap.size w w3) := hb2.trans (hbl.mono hb2.size)
  clear hb2 hb3 hbl hT2
  go_wp2
  go_ret
  exact ⟨rfl, hfin.out⟩
end Go.Proofs.YtcfhghjgphhegaaDoor
