/- The reference's Num, Whole, MayWhole: their walks. -/
import Derived.Test.YtoplpohpodkpdaaGreatDoorZk0
import Derived.Test.YtoplpohpodkpdaaGreatDoorZk1
import Derived.Lib.FrozenHead2
namespace Go.Proofs.YtoplpohpodkpdaaGreatDoor.Q
open Go.RowKit

theorem info_u8 : (Tryz.prog.info? 5).map (fun i => (i.zero, i.size, i.bytes)) = some (some (.int .u8 0), 1, 1) := by kernel_rfl

/-- 'string(b)' of a row that the call owns, its first byte turned. -/
theorem cv_own0 (w : World) (g cap l : Nat) (ys xs : List Int) (hl : xs.length = l) (z : Int) (C : List Value) (hC : C = ys.map (Value.int .u8)) (hys : ∃ y t, ys = y :: t ∧ xs = z :: t) (hc : ∀ j u, C[j]? = some u → w.cell? ⟨g, j, none⟩ = some u) :
    (convert 74 9 (.slice (some ⟨g, 0, none⟩) l cap)).run Tryz.prog (w.setCell ⟨g, 0, none⟩ (.int .u8 z)) = .ok (.string (strOfNums xs)) (w.setCell ⟨g, 0, none⟩ (.int .u8 z)) := by
  obtain ⟨y, t, rfl, rfl⟩ := hys
  subst hC
  refine run_convert_bytes_arg _ 74 5 Tryz.underlying74 Tryz.underlying5 g 0 l cap (z :: t) hl ?_ 9 Tryz.underlying9
  intro i hi
  have hi' : i < (z :: t).length := by omega
  rw [Nat.zero_add]
  match i, hi' with
  | 0, _ =>
    rw [World.cell?_setCell_same _ _ _ (hc 0 (.int .u8 y) (by simp))]
    simp
  | k + 1, hk =>
    rw [World.cell?_setCell_other _ _ _ _ (by simp)]
    simp at hk
    rw [hc (k + 1) (.int .u8 (t.getD k 0)) (by simp [hk])]
    simp [hk]
theorem cv_own (w : World) (g cap l : Nat) (xs : List Int) (hl : xs.length = l) (hc : ∀ j u, (xs.map (Value.int .u8))[j]? = some u → w.cell? ⟨g, j, none⟩ = some u) :
    (convert 74 9 (.slice (some ⟨g, 0, none⟩) l cap)).run Tryz.prog w = .ok (.string (strOfNums xs)) w := by
  refine run_convert_bytes_arg _ 74 5 Tryz.underlying74 Tryz.underlying5 g 0 l cap xs hl ?_ 9 Tryz.underlying9
  intro i hi
  rw [Nat.zero_add]
  have : i < xs.length := by omega
  rw [hc i (.int .u8 (xs.getD i 0)) (by simp [this])]


set_option maxHeartbeats 1000000 in
theorem refNum_1 (n : Int) (w : World) (h0 : 0 ≤ n) (h1 : n < 64) :
    Calls Tryz.prog 20 #[.int .i64 n] w fun e w' => e = .returned (.string (strOfNums (numI n))) ∧ Below w.heap.size w w' := by
  obtain ⟨i0, hi, hz0, hz1, hz2⟩ := info_parts info_u8
  have hown0 := World.ownsRow_nil w w.heap.size 5 1
  have hb0 := Below.refl w.heap.size w
  go_enter Tryz.func20, Tryz.ntmps20
  go_wp2_with (go_at_call 30; refine (refSize_any _ _).mono ?_; rw [qsize_1 h0 h1]; rintro e _ ⟨rfl, rfl⟩)
  refine wp_loop_rounds 2 ?_
  rw [rounds_succ]
  go_wp2_with (at_builtin; refine wpl_app _ rfl (.tmp 14) (.tmp 22) 74 5 rfl i0 (.int .u8 0) 1 Tryz.underlying74 hi hz0 hz1 hz2 rfl _ _ _ _ rfl hown0 (.int .u8 _) rfl rfl (by omega) (by unfold maxLen; omega) hb0.size ?_; intro v1 w1 hown1 hb1' hne1; have hb1 := hb0.trans hb1'; clear hown0 hb0 hb1')
  obtain ⟨g, cap, rfl, hg, hcap, hcm, _, hcell, hfr⟩ := own_open hown1 (by omega)
  have hc0 := hcell 0 _ rfl
  have hf0 := hfr 0
  have hcv := cv_own w1 g cap 1 [n] rfl hcell
  clear hcell hfr hown1 hne1
  rw [rounds_succ]
  go_wp2
  go_ret
  exact ⟨ret_str (numI_1 h0 h1).symm, hb1⟩

set_option maxHeartbeats 1000000 in
theorem refNum_2 (n : Int) (w : World) (h0 : 64 ≤ n) (h1 : n < 16384) :
    Calls Tryz.prog 20 #[.int .i64 n] w fun e w' => e = .returned (.string (strOfNums (numI n))) ∧ Below w.heap.size w w' := by
  obtain ⟨i0, hi, hz0, hz1, hz2⟩ := info_parts info_u8
  have hown0 := World.ownsRow_nil w w.heap.size 5 1
  have hb0 := Below.refl w.heap.size w
  go_enter Tryz.func20, Tryz.ntmps20
  go_wp2_with (go_at_call 30; refine (refSize_any _ _).mono ?_; rw [qsize_2 h0 h1]; rintro e _ ⟨rfl, rfl⟩)
  refine wp_loop_rounds 3 ?_
  rw [rounds_succ]
  go_wp2_with (at_builtin; refine wpl_app _ rfl (.tmp 14) (.tmp 22) 74 5 rfl i0 (.int .u8 0) 1 Tryz.underlying74 hi hz0 hz1 hz2 rfl _ _ _ _ rfl hown0 (.int .u8 _) rfl rfl (by omega) (by unfold maxLen; omega) hb0.size ?_; intro v1 w1 hown1 hb1' hne1; have hb1 := hb0.trans hb1'; clear hown0 hb0 hb1')
  rw [rounds_succ]
  go_wp2_with (at_builtin; refine wpl_app _ rfl (.tmp 14) (.tmp 22) 74 5 rfl i0 (.int .u8 0) 1 Tryz.underlying74 hi hz0 hz1 hz2 rfl _ _ _ _ rfl hown1 (.int .u8 _) rfl rfl (by omega) (by unfold maxLen; omega) hb1.size ?_; intro v2 w2 hown2 hb2' hne2; have hb2 := hb1.trans hb2'; clear hown1 hb1 hb2')
  obtain ⟨g, cap, rfl, hg, hcap, hcm, _, hcell, hfr⟩ := own_open hown2 (by omega)
  have hc0 := hcell 0 _ rfl
  have hf0 := hfr 0
  have hcv := fun z => cv_own0 w2 g cap 2 [n / 256, n % 256] [z, n % 256] rfl z _ rfl ⟨_, _, rfl, rfl⟩ hcell
  clear hcell hfr hown2 hne1 hne2
  rw [rounds_succ]
  go_wp2
  go_ret
  refine ⟨ret_str ?_, hb2.setCell hg _⟩
  rw [numI_2 h0 h1]
  simp only [List.cons.injEq, and_true]
  omega

set_option maxHeartbeats 1000000 in
theorem refNum_4 (n : Int) (w : World) (h0 : 16384 ≤ n) (h1 : n < 1073741824) :
    Calls Tryz.prog 20 #[.int .i64 n] w fun e w' => e = .returned (.string (strOfNums (numI n))) ∧ Below w.heap.size w w' := by
  obtain ⟨i0, hi, hz0, hz1, hz2⟩ := info_parts info_u8
  have hown0 := World.ownsRow_nil w w.heap.size 5 1
  have hb0 := Below.refl w.heap.size w
  go_enter Tryz.func20, Tryz.ntmps20
  go_wp2_with (go_at_call 30; refine (refSize_any _ _).mono ?_; rw [qsize_4 h0 h1]; rintro e _ ⟨rfl, rfl⟩)
  refine wp_loop_rounds 5 ?_
  rw [rounds_succ]
  go_wp2_with (at_builtin; refine wpl_app _ rfl (.tmp 14) (.tmp 22) 74 5 rfl i0 (.int .u8 0) 1 Tryz.underlying74 hi hz0 hz1 hz2 rfl _ _ _ _ rfl hown0 (.int .u8 _) rfl rfl (by omega) (by unfold maxLen; omega) hb0.size ?_; intro v1 w1 hown1 hb1' hne1; have hb1 := hb0.trans hb1'; clear hown0 hb0 hb1')
  rw [rounds_succ]
  go_wp2_with (at_builtin; refine wpl_app _ rfl (.tmp 14) (.tmp 22) 74 5 rfl i0 (.int .u8 0) 1 Tryz.underlying74 hi hz0 hz1 hz2 rfl _ _ _ _ rfl hown1 (.int .u8 _) rfl rfl (by omega) (by unfold maxLen; omega) hb1.size ?_; intro v2 w2 hown2 hb2' hne2; have hb2 := hb1.trans hb2'; clear hown1 hb1 hb2')
  rw [rounds_succ]
  go_wp2_with (at_builtin; refine wpl_app _ rfl (.tmp 14) (.tmp 22) 74 5 rfl i0 (.int .u8 0) 1 Tryz.underlying74 hi hz0 hz1 hz2 rfl _ _ _ _ rfl hown2 (.int .u8 _) rfl rfl (by omega) (by unfold maxLen; omega) hb2.size ?_; intro v3 w3 hown3 hb3' hne3; have hb3 := hb2.trans hb3'; clear hown2 hb2 hb3')
  rw [rounds_succ]
  go_wp2_with (at_builtin; refine wpl_app _ rfl (.tmp 14) (.tmp 22) 74 5 rfl i0 (.int .u8 0) 1 Tryz.underlying74 hi hz0 hz1 hz2 rfl _ _ _ _ rfl hown3 (.int .u8 _) rfl rfl (by omega) (by unfold maxLen; omega) hb3.size ?_; intro v4 w4 hown4 hb4' hne4; have hb4 := hb3.trans hb4'; clear hown3 hb3 hb4')
  obtain ⟨g, cap, rfl, hg, hcap, hcm, _, hcell, hfr⟩ := own_open hown4 (by omega)
  have hc0 := hcell 0 _ rfl
  have hf0 := hfr 0
  have hcv := fun z => cv_own0 w4 g cap 4 [n / 16777216, n / 65536 % 256, n / 256 % 256, n % 256] [z, n / 65536 % 256, n / 256 % 256, n % 256] rfl z _ rfl ⟨_, _, rfl, rfl⟩ hcell
  clear hcell hfr hown4 hne1 hne2 hne3 hne4
  rw [rounds_succ]
  go_wp2
  go_ret
  refine ⟨ret_str ?_, hb4.setCell hg _⟩
  rw [numI_4 h0 h1]
  simp only [List.cons.injEq, and_true]
  omega

set_option maxHeartbeats 1000000 in
theorem refNum_8 (n : Int) (w : World) (h0 : 1073741824 ≤ n) (h1 : n ≤ 4611686018427387903) :
    Calls Tryz.prog 20 #[.int .i64 n] w fun e w' => e = .returned (.string (strOfNums (numI n))) ∧ Below w.heap.size w w' := by
  obtain ⟨i0, hi, hz0, hz1, hz2⟩ := info_parts info_u8
  have hown0 := World.ownsRow_nil w w.heap.size 5 1
  have hb0 := Below.refl w.heap.size w
  go_enter Tryz.func20, Tryz.ntmps20
  go_wp2_with (go_at_call 30; refine (refSize_any _ _).mono ?_; rw [qsize_8 h0 h1]; rintro e _ ⟨rfl, rfl⟩)
  refine wp_loop_rounds 9 ?_
  rw [rounds_succ]
  go_wp2_with (at_builtin; refine wpl_app _ rfl (.tmp 14) (.tmp 22) 74 5 rfl i0 (.int .u8 0) 1 Tryz.underlying74 hi hz0 hz1 hz2 rfl _ _ _ _ rfl hown0 (.int .u8 _) rfl rfl (by omega) (by unfold maxLen; omega) hb0.size ?_; intro v1 w1 hown1 hb1' hne1; have hb1 := hb0.trans hb1'; clear hown0 hb0 hb1')
  rw [rounds_succ]
  go_wp2_with (at_builtin; refine wpl_app _ rfl (.tmp 14) (.tmp 22) 74 5 rfl i0 (.int .u8 0) 1 Tryz.underlying74 hi hz0 hz1 hz2 rfl _ _ _ _ rfl hown1 (.int .u8 _) rfl rfl (by omega) (by unfold maxLen; omega) hb1.size ?_; intro v2 w2 hown2 hb2' hne2; have hb2 := hb1.trans hb2'; clear hown1 hb1 hb2')
  rw [rounds_succ]
  go_wp2_with (at_builtin; refine wpl_app _ rfl (.tmp 14) (.tmp 22) 74 5 rfl i0 (.int .u8 0) 1 Tryz.underlying74 hi hz0 hz1 hz2 rfl _ _ _ _ rfl hown2 (.int .u8 _) rfl rfl (by omega) (by unfold maxLen; omega) hb2.size ?_; intro v3 w3 hown3 hb3' hne3; have hb3 := hb2.trans hb3'; clear hown2 hb2 hb3')
  rw [rounds_succ]
  go_wp2_with (at_builtin; refine wpl_app _ rfl (.tmp 14) (.tmp 22) 74 5 rfl i0 (.int .u8 0) 1 Tryz.underlying74 hi hz0 hz1 hz2 rfl _ _ _ _ rfl hown3 (.int .u8 _) rfl rfl (by omega) (by unfold maxLen; omega) hb3.size ?_; intro v4 w4 hown4 hb4' hne4; have hb4 := hb3.trans hb4'; clear hown3 hb3 hb4')
  rw [rounds_succ]
  go_wp2_with (at_builtin; refine wpl_app _ rfl (.tmp 14) (.tmp 22) 74 5 rfl i0 (.int .u8 0) 1 Tryz.underlying74 hi hz0 hz1 hz2 rfl _ _ _ _ rfl hown4 (.int .u8 _) rfl rfl (by omega) (by unfold maxLen; omega) hb4.size ?_; intro v5 w5 hown5 hb5' hne5; have hb5 := hb4.trans hb5'; clear hown4 hb4 hb5')
  rw [rounds_succ]
  go_wp2_with (at_builtin; refine wpl_app _ rfl (.tmp 14) (.tmp 22) 74 5 rfl i0 (.int .u8 0) 1 Tryz.underlying74 hi hz0 hz1 hz2 rfl _ _ _ _ rfl hown5 (.int .u8 _) rfl rfl (by omega) (by unfold maxLen; omega) hb5.size ?_; intro v6 w6 hown6 hb6' hne6; have hb6 := hb5.trans hb6'; clear hown5 hb5 hb6')
  rw [rounds_succ]
  go_wp2_with (at_builtin; refine wpl_app _ rfl (.tmp 14) (.tmp 22) 74 5 rfl i0 (.int .u8 0) 1 Tryz.underlying74 hi hz0 hz1 hz2 rfl _ _ _ _ rfl hown6 (.int .u8 _) rfl rfl (by omega) (by unfold maxLen; omega) hb6.size ?_; intro v7 w7 hown7 hb7' hne7; have hb7 := hb6.trans hb7'; clear hown6 hb6 hb7')
  rw [rounds_succ]
  go_wp2_with (at_builtin; refine wpl_app _ rfl (.tmp 14) (.tmp 22) 74 5 rfl i0 (.int .u8 0) 1 Tryz.underlying74 hi hz0 hz1 hz2 rfl _ _ _ _ rfl hown7 (.int .u8 _) rfl rfl (by omega) (by unfold maxLen; omega) hb7.size ?_; intro v8 w8 hown8 hb8' hne8; have hb8 := hb7.trans hb8'; clear hown7 hb7 hb8')
  obtain ⟨g, cap, rfl, hg, hcap, hcm, _, hcell, hfr⟩ := own_open hown8 (by omega)
  have hc0 := hcell 0 _ rfl
  have hf0 := hfr 0
  have hcv := fun z => cv_own0 w8 g cap 8 [n / 72057594037927936, n / 281474976710656 % 256, n / 1099511627776 % 256, n / 4294967296 % 256, n / 16777216 % 256, n / 65536 % 256, n / 256 % 256, n % 256] [z, n / 281474976710656 % 256, n / 1099511627776 % 256, n / 4294967296 % 256, n / 16777216 % 256, n / 65536 % 256, n / 256 % 256, n % 256] rfl z _ rfl ⟨_, _, rfl, rfl⟩ hcell
  clear hcell hfr hown8 hne1 hne2 hne3 hne4 hne5 hne6 hne7 hne8
  rw [rounds_succ]
  go_wp2
  go_ret
  refine ⟨ret_str ?_, hb8.setCell hg _⟩
  rw [numI_8 h0 h1]
  simp only [List.cons.injEq, and_true]
  omega

set_option maxHeartbeats 400000 in
theorem refNum_0 (n : Int) (w : World) (h0 : n < 0 ∨ 4611686018427387903 < n) :
    Calls Tryz.prog 20 #[.int .i64 n] w fun e w' => e = .returned (.string (strOfNums (numI n))) ∧ Below w.heap.size w w' := by
  have hcv := fun w => run_convert_bytes_nil (P := Tryz.prog) w 74 5 Tryz.underlying74 Tryz.underlying5 0 0 9 Tryz.underlying9
  go_enter Tryz.func20, Tryz.ntmps20
  go_wp2_with (go_at_call 30; refine (refSize_any _ _).mono ?_; rw [qsize_0 h0]; rintro e _ ⟨rfl, rfl⟩)
  refine wp_loop_rounds 1 ?_
  rw [rounds_succ]
  go_wp2
  go_ret
  exact ⟨by rw [numI_0 h0]; rfl, Below.refl _ _⟩

/-- The reference's Num: the bytes of every number. -/
theorem refNum_any (n : Int) (w : World) :
    Calls Tryz.prog 20 #[.int .i64 n] w fun e w' => e = .returned (.string (strOfNums (numI n))) ∧ Below w.heap.size w w' := by
  by_cases h0 : n < 0 ∨ 4611686018427387903 < n
  · exact refNum_0 n w h0
  by_cases h1 : n < 64
  · exact refNum_1 n w (by omega) h1
  by_cases h2 : n < 16384
  · exact refNum_2 n w (by omega) h2
  by_cases h4 : n < 1073741824
  · exact refNum_4 n w (by omega) h4
  · exact refNum_8 n w (by omega) (by omega)

/-- A whole number's own number: what is written for it. -/
def zig (z : Int) : Int := if z < -2305843009213693952 ∨ 2305843009213693951 < z then -1 else if z < 0 then -2 * z - 1 else 2 * z

theorem zig_no {z : Int} (h : z < -2305843009213693952 ∨ 2305843009213693951 < z) : numI (zig z) = [] := by unfold zig; rw [if_pos h]; exact numI_0 (by omega)
theorem zig_neg {z : Int} (h : -2305843009213693952 ≤ z) (h1 : z < 0) : zig z = -2 * z - 1 := by unfold zig; rw [if_neg (by omega), if_pos h1]
theorem zig_pos {z : Int} (h : 0 ≤ z) (h1 : z ≤ 2305843009213693951) : zig z = 2 * z := by unfold zig; rw [if_neg (by omega), if_neg (by omega)]
set_option maxHeartbeats 400000 in
theorem whole_any (z : Int) (w : World) (hT : Tab w) :
    Calls Tryz.prog 45 #[.int .i64 z] w fun e w' => e = .returned (.string (strOfNums (numI (zig z)))) ∧ Below w.heap.size w w' := by
  by_cases h0 : z < -2305843009213693952 ∨ 2305843009213693951 < z
  · have hz : Hid (numI (zig z) = []) := zig_no h0
    rcases h0 with h0 | h0
    · go_enter Tryz.func45, Tryz.ntmps45
      go_wp2_with (first | (go_at_call 37; refine (num_any _ _ hT).mono ?_; rintro e w' ⟨rfl, hb⟩) | go_in)
      go_ret
      exact ⟨by rw [hz.out]; rfl, Below.refl _ _⟩
    · have h0' : -2305843009213693952 ≤ z := by omega
      have h0'' : (!decide (z ≤ 2305843009213693951)) = true := by simp; omega
      go_enter Tryz.func45, Tryz.ntmps45
      go_wp2_with (first | (go_at_call 37; refine (num_any _ _ hT).mono ?_; rintro e w' ⟨rfl, hb⟩) | go_in)
      go_ret
      exact ⟨by rw [hz.out]; rfl, Below.refl _ _⟩
  · have ha : -2305843009213693952 ≤ z := by omega
    have hzb : z ≤ 2305843009213693951 := by omega
    clear h0
    by_cases h1 : z < 0
    · go_enter Tryz.func45, Tryz.ntmps45
      go_wp2_with (first | (go_at_call 37; refine (num_any _ _ hT).mono ?_; rintro e w' ⟨rfl, hb⟩) | go_in)
      go_ret
      exact ⟨ret_str (congrArg numI (by have e := zig_neg ha h1; omega)), by assumption⟩
    · go_enter Tryz.func45, Tryz.ntmps45
      go_wp2_with (first | (go_at_call 37; refine (num_any _ _ hT).mono ?_; rintro e w' ⟨rfl, hb⟩) | go_in)
      go_ret
      exact ⟨ret_str (congrArg numI (by have e := zig_pos (by omega) hzb; omega)), by assumption⟩
end Go.Proofs.YtoplpohpodkpdaaGreatDoor.Q
/- A strings.Builder that the call itself has made: copyCheck, WriteByte, WriteString at this program. -/
namespace Go.Proofs.YtoplpohpodkpdaaGreatDoor.Q
open Go.RowKit

theorem bSize : (Tryz.prog.info? 76).map (·.size) = some 2 := by kernel_rfl
theorem bLies : liesAt Tryz.prog Tryz.prog.depth 76 (2 / Tryz.prog.cellsOf 76) 0 76 1 = true := by kernel_rfl

set_option maxRecDepth 100000 in
set_option maxHeartbeats 1000000 in
theorem copyCheck_used (b : Nat) (w : World) (h0 : w.cell? ⟨b, 0, none⟩ = some (.pointer (some ⟨b, 0, none⟩))) :
    Calls Tryz.prog 66 #[.pointer (some ⟨b, 0, none⟩)] w fun e w' => e = .returned (.tuple #[]) ∧ w' = w := by
  obtain ⟨j, hj, _⟩ := Option.map_eq_some_iff.1 bSize
  go_enter Tryz.func66, Tryz.ntmps66
  go_wp2
  rw [Lib.run_neq_ptr_same w _ Tryz.underlying73 hj]
  go_wp2
  go_end0
  exact ⟨rfl, rfl⟩

set_option maxRecDepth 100000 in
set_option maxHeartbeats 1000000 in
theorem copyCheck_fresh (b : Nat) (w : World) (h0 : w.cell? ⟨b, 0, none⟩ = some (.pointer none)) (hsh : w.shape? b = some (76, 2)) (hfz : w.frozen? ⟨b, 0, none⟩ = false) :
    Calls Tryz.prog 66 #[.pointer (some ⟨b, 0, none⟩)] w fun e w' => e = .returned (.tuple #[]) ∧ w' = w.setCell ⟨b, 0, none⟩ (.pointer (some ⟨b, 0, none⟩)) := by
  obtain ⟨j, hj, hjs⟩ := Option.map_eq_some_iff.1 bSize
  go_enter Tryz.func66, Tryz.ntmps66
  go_wp2
  rw [Lib.run_to_unsafe w ⟨b, 0, none⟩ Tryz.underlying73 Tryz.underlying157 hj (by rw [hjs]; decide) hsh (Nat.zero_lt_succ 1)]
  simp only [Result.andThen]
  rw [Oper.upon_value]
  go_wp2
  rw [run_callFunc_extern Tryz.func94 (by kernel_rfl) (by kernel_rfl) (by kernel_rfl) (e := Extern.AbiNoEscape.same) (by kernel_rfl)]
  rw [Lib.run_noEscape]
  simp only [Result.andThen]
  rw [Oper.upon_value]
  go_wp2
  rw [Lib.run_from_unsafe w ⟨b, 0, none⟩ Tryz.underlying157 Tryz.underlying73 hj hsh bLies]
  simp only [Result.andThen]
  rw [Oper.upon_value]
  go_wp2
  go_end0
  exact ⟨rfl, rfl⟩

abbrev IsB (B b : Nat) (bs : List Value) (w : World) : Prop := Lib.IsBuilderF 76 5 B b bs w

theorem copyCheck_any (B b : Nat) (bs : List Value) (w : World) (h : IsB B b bs w) :
    Calls Tryz.prog 66 #[.pointer (some ⟨b, 0, none⟩)] w fun e w' => e = .returned (.tuple #[]) ∧ Lib.BuilderAtF 76 5 B b (.pointer (some ⟨b, 0, none⟩)) bs w' ∧ Below B w w' := by
  rcases h with h | h
  · refine (copyCheck_fresh b w h.cell0 h.shape h.frozen0).mono ?_
    rintro e w' ⟨rfl, rfl⟩
    exact ⟨rfl, h.used _, (Below.refl B w).setCell (p := ⟨b, 0, none⟩) h.1 _⟩
  · refine (copyCheck_used b w h.cell0).mono ?_
    rintro e w' ⟨rfl, rfl⟩
    exact ⟨rfl, h, Below.refl B _⟩

set_option maxRecDepth 100000 in
set_option maxHeartbeats 1000000 in
theorem writeByte_any (B b : Nat) (bs : List Value) (c : Int) (w : World) (h : IsB B b bs w) (hlen : bs.length + 1 ≤ 140737488355328) (hBw : B ≤ w.heap.size) :
    Calls Tryz.prog 46 #[.pointer (some ⟨b, 0, none⟩), .int .u8 c] w fun e w' => e = .returned .nilIface ∧ IsB B b (bs ++ [.int .u8 c]) w' ∧ Below B w w' := by
  obtain ⟨i0, hi, hz0, hz1, hz2⟩ := info_parts info_u8
  go_enter Tryz.func46, Tryz.ntmps46
  go_wp2_with (go_at_call 66; refine (copyCheck_any B b bs _ h).mono ?_)
  rintro e w1 ⟨rfl, h1, hb1⟩
  obtain ⟨hB, v, hbk, hown, hne⟩ := h1
  have c0 : w1.cell? ⟨b, 0, none⟩ = some (.pointer (some ⟨b, 0, none⟩)) := by rw [Lib.cell_of_heap hbk]; rfl
  have c1 : w1.cell? ⟨b, 1, none⟩ = some v := by rw [Lib.cell_of_heap hbk]; rfl
  go_wp2_with (at_builtin; refine wpList_append_ownF _ rfl _ _ 74 rfl B 5 i0 (.int .u8 0) 1 1 Tryz.underlying74 hi hz0 hz1 hz2 rfl (by decide) _ _ _ rfl (hown.alloc _) ⟨w1.heap.size, 0, none⟩ 1 1 [.int .u8 c] rfl rfl ?c1 ?c2 ?c3 ?c4 ?c5 ?_)
  case c1 =>
    intro j u hj
    match j, hj with
    | 0, hj => simp at hj; subst hj; simp [Addr.add]
  case c2 => intro u hu; simp at hu; subst hu; rfl
  case c3 => unfold maxLen; omega
  case c4 => omega
  case c5 => have := hb1.size; simp; omega
  intro v' w2 hown' hgrow _
  have hlt : b < w1.heap.size := (Array.getElem?_eq_some_iff.1 hbk).1
  have hb2 : w2.heap[b]? = some (.cells #[.pointer (some ⟨b, 0, none⟩), v] 76 (0, 0)) := by
    rw [hgrow.block b (by simp; omega) (fun e => hne e.symm), Lib.alloc_old w1 _ b hlt]
    exact hbk
  have d0 : w2.cell? ⟨b, 0, none⟩ = some (.pointer (some ⟨b, 0, none⟩)) := by rw [Lib.cell_of_heap hb2]; rfl
  have d1 : w2.cell? ⟨b, 1, none⟩ = some v := by rw [Lib.cell_of_heap hb2]; rfl
  have f1 : w2.frozen? ⟨b, 1, none⟩ = false := Lib.frozen_of_heap hb2 1
  obtain ⟨g, cap, rfl⟩ : ∃ g cap, v' = .slice (some ⟨g, 0, none⟩) (bs.length + 1) cap := by
    rcases hown'.2 with ⟨_, h0⟩ | ⟨g, cap, cur, fz, hv, _⟩
    · omega
    · exact ⟨g, cap, hv⟩
  go_wp2
  go_ret
  refine ⟨rfl, .inr ?_, ?_⟩
  · exact Lib.BuilderAtF.put (T := 76) (e := 5) hB hb2 (bs' := bs ++ [.int .u8 c]) (by simpa using hown') (by decide)
  · exact ((hb1.alloc (by have := hb1.size; omega) _).grown hgrow (by have := hb1.size; simp; omega) (fun k hk => (hown.lt k hk).1)).setCell (p := ⟨b, 1, none⟩) hB _

set_option maxRecDepth 100000 in
set_option maxHeartbeats 1000000 in
theorem writeString_any (B b : Nat) (bs : List Value) (s : ByteArray) (w : World) (h : IsB B b bs w) (hlen : bs.length + s.size ≤ 140737488355328) (hBw : B ≤ w.heap.size) :
    Calls Tryz.prog 36 #[.pointer (some ⟨b, 0, none⟩), .string s] w fun e w' => e = .returned (.tuple #[.int .i64 s.size, .nilIface]) ∧ IsB B b (bs ++ Lib.strCells s) w' ∧ Below B w w' := by
  obtain ⟨i0, hi, hz0, hz1, hz2⟩ := info_parts info_u8
  go_enter Tryz.func36, Tryz.ntmps36
  go_wp2_with (go_at_call 66; refine (copyCheck_any B b bs _ h).mono ?_)
  rintro e w1 ⟨rfl, h1, hb1⟩
  obtain ⟨hB, v, hbk, hown, hne⟩ := h1
  have c0 : w1.cell? ⟨b, 0, none⟩ = some (.pointer (some ⟨b, 0, none⟩)) := by rw [Lib.cell_of_heap hbk]; rfl
  have c1 : w1.cell? ⟨b, 1, none⟩ = some v := by rw [Lib.cell_of_heap hbk]; rfl
  go_wp2_with (at_builtin; refine Lib.wpList_append_own_stringF _ rfl _ _ 74 9 rfl B 5 i0 Tryz.underlying74 Tryz.underlying9 hi hz0 hz1 hz2 _ _ _ rfl hown s rfl ?c3 ?c4 ?c5 ?_)
  case c3 => unfold maxLen; omega
  case c4 => omega
  case c5 => have := hb1.size; omega
  intro v' w2 hown' hgrow _
  have hlt : b < w1.heap.size := (Array.getElem?_eq_some_iff.1 hbk).1
  have hb2 : w2.heap[b]? = some (.cells #[.pointer (some ⟨b, 0, none⟩), v] 76 (0, 0)) := by
    rw [hgrow.block b hlt (fun e => hne e.symm)]
    exact hbk
  have d0 : w2.cell? ⟨b, 0, none⟩ = some (.pointer (some ⟨b, 0, none⟩)) := by rw [Lib.cell_of_heap hb2]; rfl
  have d1 : w2.cell? ⟨b, 1, none⟩ = some v := by rw [Lib.cell_of_heap hb2]; rfl
  have f1 : w2.frozen? ⟨b, 1, none⟩ = false := Lib.frozen_of_heap hb2 1
  obtain ⟨ao, n', cap, rfl⟩ : ∃ ao n' cap, v' = .slice ao n' cap := by
    rcases hown'.2 with ⟨hv, _⟩ | ⟨g, cap, cur, fz, hv, _⟩
    · exact ⟨_, _, _, hv⟩
    · exact ⟨_, _, _, hv⟩
  go_wp2
  go_ret2
  refine ⟨rfl, .inr ?_, ?_⟩
  · exact Lib.BuilderAtF.put (T := 76) (e := 5) hB hb2 (bs' := bs ++ Lib.strCells s) (by simpa [Lib.strCells_length] using hown') (by decide)
  · exact (hb1.grown hgrow (by have := hb1.size; omega) (fun k hk => (hown.lt k hk).1)).setCell (p := ⟨b, 1, none⟩) hB _
end Go.Proofs.YtoplpohpodkpdaaGreatDoor.Q
