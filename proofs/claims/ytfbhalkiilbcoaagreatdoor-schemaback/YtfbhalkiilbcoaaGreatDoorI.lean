/- Items: which may be (quic.mayBe and the reference's May). -/
import Derived.Test.YtfbhalkiilbcoaaGreatDoorR
import Derived.Test.YtfbhalkiilbcoaaGreatDoorG
import Derived.Test.YtfbhalkiilbcoaaGreatDoorU2
import Derived.Deep.Light
namespace Go.Proofs.YtfbhalkiilbcoaaGreatDoor.Q
open Go.RowKit
set_option linter.unusedVariables false

theorem ret_bool {a b : Bool} (h : a = b) : Ending.returned (.bool a) = .returned (.bool b) := by rw [h]
theorem qpos (n : Int) : (0 < qsize n) ↔ (0 ≤ n ∧ n ≤ 4611686018427387903) := by
  unfold qsize; (repeat' split) <;> constructor <;> intro <;> omega
theorem nil_size (s : ByteArray) : s.toList = [] ↔ s.size = 0 := by
  rw [toList_eq]
  constructor
  · intro h; have := congrArg List.length h; simpa using this
  · intro h; exact List.eq_nil_of_length_eq_zero (by simpa using h)

/-- May an item be? -/
def mayB (k n : Int) (s : ByteArray) : Bool :=
  if k = 1 then s.toList.isEmpty && decide (0 ≤ n ∧ n ≤ 4611686018427387903)
  else if k = 2 then s.toList.isEmpty && decide (-2305843009213693952 ≤ n ∧ n ≤ 2305843009213693951)
  else if k = 3 then s.toList.isEmpty && decide (n = 0 ∨ n = 1)
  else if k = 4 then decide (n = 0 ∧ s.size ≤ 65536)
  else false

set_option maxHeartbeats 1000000 in
theorem mayBe_any (k n : Int) (s : ByteArray) (w : World) (hs : s.size ≤ 140737488355328) :
    Calls Tryz.prog 53 #[.agg #[.int .i64 k, .int .i64 n, .string s]] w fun e w' => e = .returned (.bool (mayB k n s)) ∧ Below w.heap.size w w' := by
  go_enter Tryz.func53, Tryz.ntmps53
  go_wp2_with (first | (go_at_call 61; refine (size_any _ _).mono ?_; rintro e _ ⟨rfl, rfl⟩) | go_in)
  all_goals go_ret
  all_goals refine ⟨ret_bool ?_, (Below.refl _ _).alloc (Nat.le_refl _) _⟩
  all_goals go_light
  all_goals simp_all [mayB, qpos, nil_size]
  all_goals first | omega | (rw [Bool.eq_iff_iff]; simp; omega)
end Go.Proofs.YtfbhalkiilbcoaaGreatDoor.Q
