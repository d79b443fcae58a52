/- value.scanRune and scanText at the examples, Scan, Parse; the law's awake: walks. -/
import Derived.Test.YtdendpckihckeaaGreatDoorVJ
namespace Go.Proofs.YtdendpckihckeaaGreatDoor
open Go.RowKit

theorem T16_drew {w : World} (h : T16 w) : T16 w.drew := h
theorem sr97 : str (showR 97) = ⟨#[97]⟩ := by decide +kernel
theorem srFF : str (showR 65533) = ⟨#[239, 191, 189]⟩ := by decide +kernel
theorem dec97 : Lib.decodeGo ⟨#[97]⟩ = (97, 1) := by decide +kernel
theorem dec0 : Lib.decodeGo ⟨#[]⟩ = (65533, 0) := by decide +kernel
theorem showRune_97 (w : World) (hT : T16 w) : Calls Tryz.prog 74 #[.int .i32 97] w fun e w' => e = .returned (.string ⟨#[97]⟩) ∧ Below w.heap.size w w' := by
  have := showRune_any 97 w (by unfold scal; omega) (by omega) hT
  rw [sr97] at this
  exact this
theorem showRune_FF (w : World) (hT : T16 w) : Calls Tryz.prog 74 #[.int .i32 65533] w fun e w' => e = .returned (.string ⟨#[239, 191, 189]⟩) ∧ Below w.heap.size w w' := by
  have := showRune_any 65533 w (by unfold scal; omega) (by omega) hT
  rw [srFF] at this
  exact this
set_option maxRecDepth 100000 in
set_option maxHeartbeats 2000000 in
theorem scanRune_a (w : World) (hT : T16 w) (hU : UT w) :
    Calls Tryz.prog 55 #[.string ⟨#[97]⟩] w fun e w' => e = .returned (.tuple #[.int .i32 97, .int .i64 1]) ∧ Below w.heap.size w w' := by
  have hx : (⟨#[97]⟩ : ByteArray).extract 0 1 = ⟨#[97]⟩ := by decide
  go_enter Tryz.func55, Tryz.ntmps55
  go_wp2_with fail
  refine (Tryz.strings_HasPrefix _ _ _).mono ?_
  rintro e w1 ⟨rfl, rfl⟩
  rw [show Lib.hasPrefix (⟨#[97]⟩ : ByteArray).data.toList (⟨#[92]⟩ : ByteArray).data.toList = false from by decide]
  go_wp2_with fail
  refine (Tryz.utf8_DecodeRuneInString _ _ hU).mono ?_
  rintro e w2 ⟨rfl, hb2⟩
  rw [dec97]
  have hT2 := T16_below hT hb2
  go_wp2
  go_region_held3 (fun w' => True) (trivial) (first | (go_at_call 74; refine (showRune_97 _ ?_).mono ?_; exact T16_drew hT2; rintro e w' ⟨rfl, hb3⟩))
  all_goals go_wp2
  all_goals go_ret2
  all_goals exact ⟨rfl, hb2.trans ((Below.drew (Below.refl _ _)).trans (hb3.mono (by have := hb2.size; simpa using this)))⟩
set_option maxRecDepth 100000 in
set_option maxHeartbeats 2000000 in
theorem scanRune_e (w : World) (hT : T16 w) (hU : UT w) :
    Calls Tryz.prog 55 #[.string ⟨#[]⟩] w fun e w' => e = .returned (.tuple #[.int .i32 0, .int .i64 0]) ∧ Below w.heap.size w w' := by
  have hx : (⟨#[]⟩ : ByteArray).extract 0 0 = ⟨#[]⟩ := by decide
  go_enter Tryz.func55, Tryz.ntmps55
  go_wp2_with fail
  refine (Tryz.strings_HasPrefix _ _ _).mono ?_
  rintro e w1 ⟨rfl, rfl⟩
  rw [show Lib.hasPrefix (⟨#[]⟩ : ByteArray).data.toList (⟨#[92]⟩ : ByteArray).data.toList = false from by decide]
  go_wp2_with fail
  refine (Tryz.utf8_DecodeRuneInString _ _ hU).mono ?_
  rintro e w2 ⟨rfl, hb2⟩
  rw [dec0]
  have hT2 := T16_below hT hb2
  go_wp2
  go_region_held3 (fun w' => True) (trivial) (first | (go_at_call 74; refine (showRune_FF _ ?_).mono ?_; exact T16_drew hT2; rintro e w' ⟨rfl, hb3⟩))
  all_goals go_wp2
  all_goals go_ret2
  all_goals exact ⟨rfl, hb2.trans ((Below.drew (Below.refl _ _)).trans (hb3.mono (by have := hb2.size; simpa using this)))⟩
end Go.Proofs.YtdendpckihckeaaGreatDoor
