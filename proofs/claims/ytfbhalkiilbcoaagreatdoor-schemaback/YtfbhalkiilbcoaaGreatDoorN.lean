/- The program's own walks: quic.Size and the reference's, math/bits.TrailingZeros at 1, 2, 4, 8, quic.Num. -/
import Derived.Test.YtfbhalkiilbcoaaGreatDoorU
import Derived.Test.YtfbhalkiilbcoaaGreatDoorM
namespace Go.Proofs.YtfbhalkiilbcoaaGreatDoor.Q
open Go.RowKit

set_option maxHeartbeats 400000 in
theorem size_any (n : Int) (w : World) :
    Calls Tryz.prog 61 #[.int .i64 n] w fun e w' => e = .returned (.int .i64 (qsize n)) ∧ w' = w := by
  go_enter Tryz.func61, Tryz.ntmps61
  go_wp2
  all_goals
    go_ret
    refine ⟨ret_int ?_, rfl⟩
    unfold qsize
    repeat (first | rw [if_pos (by omega)] | rw [if_neg (by omega)])


structure Tab (w : World) : Prop where
  c0 : w.cell? ⟨5, 0, none⟩ = some (.int .u8 0)
  c1 : w.cell? ⟨5, 1, none⟩ = some (.int .u8 1)
  c3 : w.cell? ⟨5, 3, none⟩ = some (.int .u8 2)
  c7 : w.cell? ⟨5, 7, none⟩ = some (.int .u8 3)



theorem tzkey_1 : IntKind.u64.wrap (bits BinOp.and IntKind.u64 1 (IntKind.u64.wrap (-1)) * 285870213051353865) / 288230376151711744 = 0 := by decide +kernel
set_option maxHeartbeats 400000 in
theorem tz_1 (w : World) (h : Tab w) : Calls Tryz.prog 62 #[.int .u64 1] w fun e w' => e = .returned (.int .i64 0) ∧ w' = w := by
  have hc := h.c0
  go_enter Tryz.func62, Tryz.ntmps62
  go_wp2_with (first | simp only [tzkey_1] | go_in)
  go_ret
  exact ⟨rfl, rfl⟩

theorem tzkey_2 : IntKind.u64.wrap (bits BinOp.and IntKind.u64 2 (IntKind.u64.wrap (-2)) * 285870213051353865) / 288230376151711744 = 1 := by decide +kernel
set_option maxHeartbeats 400000 in
theorem tz_2 (w : World) (h : Tab w) : Calls Tryz.prog 62 #[.int .u64 2] w fun e w' => e = .returned (.int .i64 1) ∧ w' = w := by
  have hc := h.c1
  go_enter Tryz.func62, Tryz.ntmps62
  go_wp2_with (first | simp only [tzkey_2] | go_in)
  go_ret
  exact ⟨rfl, rfl⟩

theorem tzkey_4 : IntKind.u64.wrap (bits BinOp.and IntKind.u64 4 (IntKind.u64.wrap (-4)) * 285870213051353865) / 288230376151711744 = 3 := by decide +kernel
set_option maxHeartbeats 400000 in
theorem tz_4 (w : World) (h : Tab w) : Calls Tryz.prog 62 #[.int .u64 4] w fun e w' => e = .returned (.int .i64 2) ∧ w' = w := by
  have hc := h.c3
  go_enter Tryz.func62, Tryz.ntmps62
  go_wp2_with (first | simp only [tzkey_4] | go_in)
  go_ret
  exact ⟨rfl, rfl⟩

theorem tzkey_8 : IntKind.u64.wrap (bits BinOp.and IntKind.u64 8 (IntKind.u64.wrap (-8)) * 285870213051353865) / 288230376151711744 = 7 := by decide +kernel
set_option maxHeartbeats 400000 in
theorem tz_8 (w : World) (h : Tab w) : Calls Tryz.prog 62 #[.int .u64 8] w fun e w' => e = .returned (.int .i64 3) ∧ w' = w := by
  have hc := h.c7
  go_enter Tryz.func62, Tryz.ntmps62
  go_wp2_with (first | simp only [tzkey_8] | go_in)
  go_ret
  exact ⟨rfl, rfl⟩


theorem Tab.below {B : Nat} {w w' : World} (h : Tab w) (hb : Below B w w') (hB : 5 < B) : Tab w' :=
  ⟨(hb.cell (p := ⟨5, 0, none⟩) hB).trans h.c0, (hb.cell (p := ⟨5, 1, none⟩) hB).trans h.c1, (hb.cell (p := ⟨5, 3, none⟩) hB).trans h.c3, (hb.cell (p := ⟨5, 7, none⟩) hB).trans h.c7⟩
theorem Tab.size {w : World} (h : Tab w) : 5 < w.heap.size := by
  exact block_lt_of_cell h.c0




theorem cv_any (w : World) (xs : List Int) (l : Nat) (hl : xs.length = l) (C : Array Value) (hC : C = (xs.map (Value.int .u8)).toArray) :
    (convert 71 9 (.slice (some ⟨w.heap.size, 0, none⟩) l l)).run Tryz.prog (w.alloc (.cells C 5)).drew = .ok (.string (strOfNums xs)) (w.alloc (.cells C 5)).drew := by
  refine run_convert_bytes_arg _ 71 5 Tryz.underlying71 Tryz.underlying5 w.heap.size 0 l l xs hl ?_ 9 Tryz.underlying9
  intro i hi
  subst hC
  rw [World.cell?_drew, World.cell?_alloc_at _ _ _ _ rfl]
  have : i < xs.length := by omega
  simp [List.getD, this]

theorem mk1 (w : World) : (Instr.makeSlice 71 (.int .i64 1) (.int .i64 1)).run Tryz.prog w = .ok (.slice (some ⟨w.heap.size, 0, none⟩) 1 1) (w.alloc (.cells #[.int .u8 0] 5)) := by kernel_rfl
theorem cv1 (w : World) (a : Int) : (convert 71 9 (.slice (some ⟨w.heap.size, 0, none⟩) 1 1)).run Tryz.prog (w.alloc (.cells #[.int .u8 a] 5)).drew = .ok (.string (strOfNums [a])) (w.alloc (.cells #[.int .u8 a] 5)).drew :=
  cv_any w [a] 1 rfl _ rfl
set_option maxHeartbeats 800000 in
theorem num_1 (n : Int) (w : World) (h0 : 0 ≤ n) (h1 : n < 64) (hT : Tab w) :
    Calls Tryz.prog 36 #[.int .i64 n] w fun e w' => e = .returned (.string (strOfNums (numI n))) ∧ Below w.heap.size w w' := by
  have hm := mk1
  have hcv := cv1
  have hsz := hT.size
  go_enter Tryz.func36, Tryz.ntmps36
  go_wp2_with (go_at_call 61; refine (size_any _ _).mono ?_; rw [qsize_1 h0 h1]; rintro e _ ⟨rfl, rfl⟩)
  refine wp_loop_rounds 2 ?_
  rw [rounds_succ]
  go_wp2
  rw [rounds_succ]
  go_wp2
  go_region_with (go_at_call 62; refine (tz_1 _ ?_).mono ?_; exact hT.below (by repeat (first | exact Below.refl _ _ | refine Below.drew ?_ | refine Below.alloc ?_ (Nat.le_refl _) _)) hsz; rintro e _ ⟨rfl, rfl⟩)
  all_goals go_wp2
  all_goals go_ret
  all_goals
    refine ⟨ret_str ?_, (((Below.refl _ _).alloc (Nat.le_refl _) _).drew)⟩
    rw [numI_1 h0 h1, (or_at _ (by omega) (by omega)).2.2.2]

theorem mk2 (w : World) : (Instr.makeSlice 71 (.int .i64 2) (.int .i64 2)).run Tryz.prog w = .ok (.slice (some ⟨w.heap.size, 0, none⟩) 2 2) (w.alloc (.cells #[.int .u8 0, .int .u8 0] 5)) := by kernel_rfl
theorem cv2 (w : World) (a b : Int) : (convert 71 9 (.slice (some ⟨w.heap.size, 0, none⟩) 2 2)).run Tryz.prog (w.alloc (.cells #[.int .u8 a, .int .u8 b] 5)).drew = .ok (.string (strOfNums [a, b])) (w.alloc (.cells #[.int .u8 a, .int .u8 b] 5)).drew :=
  cv_any w [a, b] 2 rfl _ rfl
set_option maxHeartbeats 800000 in
theorem num_2 (n : Int) (w : World) (h0 : 64 ≤ n) (h1 : n < 16384) (hT : Tab w) :
    Calls Tryz.prog 36 #[.int .i64 n] w fun e w' => e = .returned (.string (strOfNums (numI n))) ∧ Below w.heap.size w w' := by
  have hm := mk2
  have hcv := cv2
  have hsz := hT.size
  go_enter Tryz.func36, Tryz.ntmps36
  go_wp2_with (go_at_call 61; refine (size_any _ _).mono ?_; rw [qsize_2 h0 h1]; rintro e _ ⟨rfl, rfl⟩)
  refine wp_loop_rounds 3 ?_
  rw [rounds_succ]
  go_wp2
  rw [rounds_succ]
  go_wp2
  rw [rounds_succ]
  go_wp2
  go_region_with (go_at_call 62; refine (tz_2 _ ?_).mono ?_; exact hT.below (by repeat (first | exact Below.refl _ _ | refine Below.drew ?_ | refine Below.alloc ?_ (Nat.le_refl _) _)) hsz; rintro e _ ⟨rfl, rfl⟩)
  all_goals go_wp2
  all_goals go_ret
  all_goals
    refine ⟨ret_str ?_, (((Below.refl _ _).alloc (Nat.le_refl _) _).drew)⟩
    rw [numI_2 h0 h1, (or_at _ (by omega) (by omega)).1]

theorem mk4 (w : World) : (Instr.makeSlice 71 (.int .i64 4) (.int .i64 4)).run Tryz.prog w = .ok (.slice (some ⟨w.heap.size, 0, none⟩) 4 4) (w.alloc (.cells #[.int .u8 0, .int .u8 0, .int .u8 0, .int .u8 0] 5)) := by kernel_rfl
theorem cv4 (w : World) (a b c d : Int) : (convert 71 9 (.slice (some ⟨w.heap.size, 0, none⟩) 4 4)).run Tryz.prog (w.alloc (.cells #[.int .u8 a, .int .u8 b, .int .u8 c, .int .u8 d] 5)).drew = .ok (.string (strOfNums [a, b, c, d])) (w.alloc (.cells #[.int .u8 a, .int .u8 b, .int .u8 c, .int .u8 d] 5)).drew :=
  cv_any w [a, b, c, d] 4 rfl _ rfl
set_option maxHeartbeats 800000 in
theorem num_4 (n : Int) (w : World) (h0 : 16384 ≤ n) (h1 : n < 1073741824) (hT : Tab w) :
    Calls Tryz.prog 36 #[.int .i64 n] w fun e w' => e = .returned (.string (strOfNums (numI n))) ∧ Below w.heap.size w w' := by
  have hm := mk4
  have hcv := cv4
  have hsz := hT.size
  go_enter Tryz.func36, Tryz.ntmps36
  go_wp2_with (go_at_call 61; refine (size_any _ _).mono ?_; rw [qsize_4 h0 h1]; rintro e _ ⟨rfl, rfl⟩)
  refine wp_loop_rounds 5 ?_
  rw [rounds_succ]
  go_wp2
  rw [rounds_succ]
  go_wp2
  rw [rounds_succ]
  go_wp2
  rw [rounds_succ]
  go_wp2
  rw [rounds_succ]
  go_wp2
  go_region_with (go_at_call 62; refine (tz_4 _ ?_).mono ?_; exact hT.below (by repeat (first | exact Below.refl _ _ | refine Below.drew ?_ | refine Below.alloc ?_ (Nat.le_refl _) _)) hsz; rintro e _ ⟨rfl, rfl⟩)
  all_goals go_wp2
  all_goals go_ret
  all_goals
    refine ⟨ret_str ?_, (((Below.refl _ _).alloc (Nat.le_refl _) _).drew)⟩
    rw [numI_4 h0 h1, (or_at _ (by omega) (by omega)).2.1]
    all_goals (simp only [List.cons.injEq, and_true]; omega)

theorem mk8 (w : World) : (Instr.makeSlice 71 (.int .i64 8) (.int .i64 8)).run Tryz.prog w = .ok (.slice (some ⟨w.heap.size, 0, none⟩) 8 8) (w.alloc (.cells #[.int .u8 0, .int .u8 0, .int .u8 0, .int .u8 0, .int .u8 0, .int .u8 0, .int .u8 0, .int .u8 0] 5)) := by kernel_rfl
theorem cv8 (w : World) (a b c d e f g h : Int) : (convert 71 9 (.slice (some ⟨w.heap.size, 0, none⟩) 8 8)).run Tryz.prog (w.alloc (.cells #[.int .u8 a, .int .u8 b, .int .u8 c, .int .u8 d, .int .u8 e, .int .u8 f, .int .u8 g, .int .u8 h] 5)).drew = .ok (.string (strOfNums [a, b, c, d, e, f, g, h])) (w.alloc (.cells #[.int .u8 a, .int .u8 b, .int .u8 c, .int .u8 d, .int .u8 e, .int .u8 f, .int .u8 g, .int .u8 h] 5)).drew :=
  cv_any w [a, b, c, d, e, f, g, h] 8 rfl _ rfl
set_option maxHeartbeats 800000 in
theorem num_8 (n : Int) (w : World) (h0 : 1073741824 ≤ n) (h1 : n ≤ 4611686018427387903) (hT : Tab w) :
    Calls Tryz.prog 36 #[.int .i64 n] w fun e w' => e = .returned (.string (strOfNums (numI n))) ∧ Below w.heap.size w w' := by
  have hm := mk8
  have hcv := cv8
  have hsz := hT.size
  go_enter Tryz.func36, Tryz.ntmps36
  go_wp2_with (go_at_call 61; refine (size_any _ _).mono ?_; rw [qsize_8 h0 h1]; rintro e _ ⟨rfl, rfl⟩)
  refine wp_loop_rounds 9 ?_
  rw [rounds_succ]
  go_wp2
  rw [rounds_succ]
  go_wp2
  rw [rounds_succ]
  go_wp2
  rw [rounds_succ]
  go_wp2
  rw [rounds_succ]
  go_wp2
  rw [rounds_succ]
  go_wp2
  rw [rounds_succ]
  go_wp2
  rw [rounds_succ]
  go_wp2
  rw [rounds_succ]
  go_wp2
  go_region_with (go_at_call 62; refine (tz_8 _ ?_).mono ?_; exact hT.below (by repeat (first | exact Below.refl _ _ | refine Below.drew ?_ | refine Below.alloc ?_ (Nat.le_refl _) _)) hsz; rintro e _ ⟨rfl, rfl⟩)
  all_goals go_wp2
  all_goals go_ret
  all_goals
    refine ⟨ret_str ?_, (((Below.refl _ _).alloc (Nat.le_refl _) _).drew)⟩
    rw [numI_8 h0 h1, (or_at _ (by omega) (by omega)).2.2.1]
    all_goals (simp only [List.cons.injEq, and_true]; omega)

set_option maxHeartbeats 400000 in
theorem num_0 (n : Int) (w : World) (h0 : n < 0 ∨ 4611686018427387903 < n) :
    Calls Tryz.prog 36 #[.int .i64 n] w fun e w' => e = .returned (.string (strOfNums (numI n))) ∧ Below w.heap.size w w' := by
  go_enter Tryz.func36, Tryz.ntmps36
  go_wp2_with (go_at_call 61; refine (size_any _ _).mono ?_; rw [qsize_0 h0]; rintro e _ ⟨rfl, rfl⟩)
  go_ret
  exact ⟨by rw [numI_0 h0]; rfl, Below.refl _ _⟩

/-- quic.Num: the bytes of every number. -/
theorem num_any (n : Int) (w : World) (hT : Tab w) :
    Calls Tryz.prog 36 #[.int .i64 n] w fun e w' => e = .returned (.string (strOfNums (numI n))) ∧ Below w.heap.size w w' := by
  by_cases h0 : n < 0 ∨ 4611686018427387903 < n
  · exact num_0 n w h0
  by_cases h1 : n < 64
  · exact num_1 n w (by omega) h1 hT
  by_cases h2 : n < 16384
  · exact num_2 n w (by omega) h2 hT
  by_cases h4 : n < 1073741824
  · exact num_4 n w (by omega) h4 hT
  · exact num_8 n w (by omega) (by omega) hT
end Go.Proofs.YtfbhalkiilbcoaaGreatDoor.Q
