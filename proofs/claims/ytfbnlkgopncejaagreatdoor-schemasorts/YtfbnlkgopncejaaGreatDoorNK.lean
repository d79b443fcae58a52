/- The reference's Letter, Small, Hash: walks. -/
import Derived.Test.YtfbnlkgopncejaaGreatDoorNB
namespace Go.Proofs.YtfbnlkgopncejaaGreatDoor
open Go.RowKit

set_option maxRecDepth 100000 in
set_option maxHeartbeats 2000000 in
theorem refLetter_any (c : Int) (w : World) :
    Calls Tryz.prog 97 #[.int .i64 c] w fun e w' => e = .returned (.bool (letterZ c)) ∧ w' = w := by
  go_enter Tryz.func97, Tryz.ntmps97
  go_wp2
  all_goals go_ret
  all_goals refine ⟨?_, rfl⟩
  all_goals refine congrArg (fun b => Ending.returned (Value.bool b)) ?_
  all_goals (rw [Bool.eq_iff_iff]; try simp only [decide_eq_true_eq, bne_iff_ne, ne_eq] at *)
  all_goals (simp only [letterZ, Bool.false_eq_true, Bool.or_eq_true, Bool.and_eq_true, bne_iff_ne, ne_eq, decide_eq_true_eq, true_iff, false_iff]; omega)

set_option maxRecDepth 100000 in
set_option maxHeartbeats 2000000 in
theorem refSmall_any (c : Int) (w : World) (h1 : -2147483648 ≤ c) (h2 : c ≤ 2147483647) :
    Calls Tryz.prog 63 #[.int .i64 c] w fun e w' => e = .returned (.int .i64 (smallZ c)) ∧ w' = w := by
  go_enter Tryz.func63, Tryz.ntmps63
  go_wp2
  all_goals go_ret
  all_goals refine ⟨?_, rfl⟩
  all_goals refine congrArg (fun b => Ending.returned (Value.int .i64 b)) ?_
  all_goals first | (simp only [smallZ, bigZ, decide_eq_true_eq, ne_eq] at *; split <;> omega) | rfl
end Go.Proofs.YtfbnlkgopncejaaGreatDoor
