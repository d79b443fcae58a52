/- The reference's Num, Whole, MayWhole: their walks. -/
import Derived.Test.YtfbhalkiilbcoaaGreatDoorU
import Derived.Test.YtfbhalkiilbcoaaGreatDoorM
import Derived.Test.YtfbhalkiilbcoaaGreatDoorN
namespace Go.Proofs.YtfbhalkiilbcoaaGreatDoor.Q
open Go.RowKit

theorem info_u8 : (Tryz.prog.info? 5).map (fun i => (i.zero, i.size, i.bytes)) = some (some (.int .u8 0), 1, 1) := by kernel_rfl

/-- 'string(b)' of a row that the call owns, its first byte turned. -/
theorem cv_own0 (w : World) (g cap l : Nat) (ys xs : List Int) (hl : xs.length = l) (z : Int) (C : List Value) (hC : C = ys.map (Value.int .u8)) (hys : ∃ y t, ys = y :: t ∧ xs = z :: t) (hc : ∀ j u, C[j]? = some u → w.cell? ⟨g, j, none⟩ = some u) :
    (convert 71 9 (.slice (some ⟨g, 0, none⟩) l cap)).run Tryz.prog (w.setCell ⟨g, 0, none⟩ (.int .u8 z)) = .ok (.string (strOfNums xs)) (w.setCell ⟨g, 0, none⟩ (.int .u8 z)) := by
  obtain ⟨y, t, rfl, rfl⟩ := hys
  subst hC
  refine run_convert_bytes_arg _ 71 5 Tryz.underlying71 Tryz.underlying5 g 0 l cap (z :: t) hl ?_ 9 Tryz.underlying9
  intro i hi
  have hi' : i < (z :: t).length := by omega
  rw [Nat.zero_add]
  match i, hi' with
  | 0, _ =>
    rw [World.cell?_setCell_same _ _ _ (hc 0 (.int .u8 y) (by simp))]
    simp
  | k + 1, hk =>
    rw [World.cell?_setCell_other _ _ _ _ (by simp)]
    simp at hk
    rw [hc (k + 1) (.int .u8 (t.getD k 0)) (by simp [hk])]
    simp [hk]
theorem cv_own (w : World) (g cap l : Nat) (xs : List Int) (hl : xs.length = l) (hc : ∀ j u, (xs.map (Value.int .u8))[j]? = some u → w.cell? ⟨g, j, none⟩ = some u) :
    (convert 71 9 (.slice (some ⟨g, 0, none⟩) l cap)).run Tryz.prog w = .ok (.string (strOfNums xs)) w := by
  refine run_convert_bytes_arg _ 71 5 Tryz.underlying71 Tryz.underlying5 g 0 l cap xs hl ?_ 9 Tryz.underlying9
  intro i hi
  rw [Nat.zero_add]
  have : i < xs.length := by omega
  rw [hc i (.int .u8 (xs.getD i 0)) (by simp [this])]


/-- A whole number's own number: what is written for it. -/
def zig (z : Int) : Int := if z < -2305843009213693952 ∨ 2305843009213693951 < z then -1 else if z < 0 then -2 * z - 1 else 2 * z

theorem zig_no {z : Int} (h : z < -2305843009213693952 ∨ 2305843009213693951 < z) : numI (zig z) = [] := by unfold zig; rw [if_pos h]; exact numI_0 (by omega)
theorem zig_neg {z : Int} (h : -2305843009213693952 ≤ z) (h1 : z < 0) : zig z = -2 * z - 1 := by unfold zig; rw [if_neg (by omega), if_pos h1]
theorem zig_pos {z : Int} (h : 0 ≤ z) (h1 : z ≤ 2305843009213693951) : zig z = 2 * z := by unfold zig; rw [if_neg (by omega), if_neg (by omega)]
set_option maxHeartbeats 400000 in
theorem whole_any (z : Int) (w : World) (hT : Tab w) :
    Calls Tryz.prog 79 #[.int .i64 z] w fun e w' => e = .returned (.string (strOfNums (numI (zig z)))) ∧ Below w.heap.size w w' := by
  by_cases h0 : z < -2305843009213693952 ∨ 2305843009213693951 < z
  · have hz : Hid (numI (zig z) = []) := zig_no h0
    rcases h0 with h0 | h0
    · go_enter Tryz.func79, Tryz.ntmps79
      go_wp2_with (first | (go_at_call 36; refine (num_any _ _ hT).mono ?_; rintro e w' ⟨rfl, hb⟩) | go_in)
      go_ret
      exact ⟨by rw [hz.out]; rfl, Below.refl _ _⟩
    · have h0' : -2305843009213693952 ≤ z := by omega
      have h0'' : (!decide (z ≤ 2305843009213693951)) = true := by simp; omega
      go_enter Tryz.func79, Tryz.ntmps79
      go_wp2_with (first | (go_at_call 36; refine (num_any _ _ hT).mono ?_; rintro e w' ⟨rfl, hb⟩) | go_in)
      go_ret
      exact ⟨by rw [hz.out]; rfl, Below.refl _ _⟩
  · have ha : -2305843009213693952 ≤ z := by omega
    have hzb : z ≤ 2305843009213693951 := by omega
    clear h0
    by_cases h1 : z < 0
    · go_enter Tryz.func79, Tryz.ntmps79
      go_wp2_with (first | (go_at_call 36; refine (num_any _ _ hT).mono ?_; rintro e w' ⟨rfl, hb⟩) | go_in)
      go_ret
      exact ⟨ret_str (congrArg numI (by have e := zig_neg ha h1; omega)), by assumption⟩
    · go_enter Tryz.func79, Tryz.ntmps79
      go_wp2_with (first | (go_at_call 36; refine (num_any _ _ hT).mono ?_; rintro e w' ⟨rfl, hb⟩) | go_in)
      go_ret
      exact ⟨ret_str (congrArg numI (by have e := zig_pos (by omega) hzb; omega)), by assumption⟩
end Go.Proofs.YtfbhalkiilbcoaaGreatDoor.Q
