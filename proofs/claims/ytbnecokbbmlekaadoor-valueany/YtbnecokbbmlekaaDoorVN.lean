/- ValueOrder: for every three values the law returns true. -/
import Derived.Test.YtbnecokbbmlekaaDoorVM
namespace Go.Proofs.YtbnecokbbmlekaaDoor
open Go.RowKit

theorem few_any (s : ByteArray) (w : World) : Calls Tryd.prog 6 #[.string s] w fun e w' => e = .returned (.bool (decide (s.size ≤ 2000))) ∧ w' = w := by
  by_cases h : s.size ≤ 2000
  · have h' : decide ((s.size : Int) ≤ 2000) = true := by simp; omega
    rw [decide_eq_true h]
    go_enter Tryd.func6, Tryd.ntmps6
    go_wp2
    go_ret
    exact ⟨rfl, rfl⟩
  · have h' : decide ((s.size : Int) ≤ 2000) = false := by simp; omega
    rw [decide_eq_false h]
    go_enter Tryd.func6, Tryd.ntmps6
    go_wp2
    go_ret
    exact ⟨rfl, rfl⟩
abbrev vcells (k n : Int) (s : ByteArray) : Obj := .cells #[.int .i64 k, .int .i64 n, .string s] 23
/-- Three values that lie in three blocks, and what was there before. -/
abbrev S10 (w0 : World) (k1 n1 : Int) (s1 : ByteArray) (k2 n2 : Int) (s2 : ByteArray) (k3 n3 : Int) (s3 : ByteArray) (w : World) : Prop :=
  w.cell? ⟨w0.heap.size, 0, none⟩ = some (.int .i64 k1) ∧ w.cell? ⟨w0.heap.size, 1, none⟩ = some (.int .i64 n1) ∧ w.cell? ⟨w0.heap.size, 2, none⟩ = some (.string s1) ∧
  w.cell? ⟨w0.heap.size + 1, 0, none⟩ = some (.int .i64 k2) ∧ w.cell? ⟨w0.heap.size + 1, 1, none⟩ = some (.int .i64 n2) ∧ w.cell? ⟨w0.heap.size + 1, 2, none⟩ = some (.string s2) ∧
  w.cell? ⟨w0.heap.size + 1 + 1, 0, none⟩ = some (.int .i64 k3) ∧ w.cell? ⟨w0.heap.size + 1 + 1, 1, none⟩ = some (.int .i64 n3) ∧ w.cell? ⟨w0.heap.size + 1 + 1, 2, none⟩ = some (.string s3) ∧
  w0.heap.size + 1 + 1 < w.heap.size ∧ Below w0.heap.size w0 w
theorem S10_call {w0 W w' : World} {k1 n1 : Int} {s1 : ByteArray} {k2 n2 : Int} {s2 : ByteArray} {k3 n3 : Int} {s3 : ByteArray} (hb : Below W.heap.size W w') (h : S10 w0 k1 n1 s1 k2 n2 s2 k3 n3 s3 W) : S10 w0 k1 n1 s1 k2 n2 s2 k3 n3 s3 w' := by
  obtain ⟨a0, a1, a2, b0, b1, b2, c0, c1, c2, hs, hB⟩ := h
  have l1 : w0.heap.size < W.heap.size := by omega
  have l2 : w0.heap.size + 1 < W.heap.size := by omega
  exact ⟨(hb.cell (p := ⟨w0.heap.size, 0, none⟩) l1).trans a0, (hb.cell (p := ⟨w0.heap.size, 1, none⟩) l1).trans a1, (hb.cell (p := ⟨w0.heap.size, 2, none⟩) l1).trans a2,
    (hb.cell (p := ⟨w0.heap.size + 1, 0, none⟩) l2).trans b0, (hb.cell (p := ⟨w0.heap.size + 1, 1, none⟩) l2).trans b1, (hb.cell (p := ⟨w0.heap.size + 1, 2, none⟩) l2).trans b2,
    (hb.cell (p := ⟨w0.heap.size + 1 + 1, 0, none⟩) hs).trans c0, (hb.cell (p := ⟨w0.heap.size + 1 + 1, 1, none⟩) hs).trans c1, (hb.cell (p := ⟨w0.heap.size + 1 + 1, 2, none⟩) hs).trans c2,
    Nat.lt_of_lt_of_le hs hb.size, hB.trans (hb.mono hB.size)⟩
theorem S10_drew {w0 W : World} {k1 n1 : Int} {s1 : ByteArray} {k2 n2 : Int} {s2 : ByteArray} {k3 n3 : Int} {s3 : ByteArray} (h : S10 w0 k1 n1 s1 k2 n2 s2 k3 n3 s3 W) : S10 w0 k1 n1 s1 k2 n2 s2 k3 n3 s3 W.drew := by
  obtain ⟨a0, a1, a2, b0, b1, b2, c0, c1, c2, hs, hB⟩ := h
  exact ⟨a0, a1, a2, b0, b1, b2, c0, c1, c2, hs, hB.drew⟩
theorem vc_new (W : World) (k n : Int) (s : ByteArray) (j : Nat) : (W.alloc (vcells k n s)).cell? ⟨W.heap.size, j, none⟩ = #[Value.int .i64 k, .int .i64 n, .string s][j]? := by simp [vcells]
theorem S10_start (w : World) (k1 n1 : Int) (s1 : ByteArray) (k2 n2 : Int) (s2 : ByteArray) (k3 n3 : Int) (s3 : ByteArray) : S10 w k1 n1 s1 k2 n2 s2 k3 n3 s3 (((w.alloc (vcells k1 n1 s1)).alloc (vcells k2 n2 s2)).alloc (vcells k3 n3 s3)) := by
  have e0 : ∀ j, (w.alloc (vcells k1 n1 s1)).cell? ⟨w.heap.size, j, none⟩ = #[Value.int .i64 k1, .int .i64 n1, .string s1][j]? := fun j => by simp [vcells]
  have e1 : ∀ j, ((w.alloc (vcells k1 n1 s1)).alloc (vcells k2 n2 s2)).cell? ⟨w.heap.size + 1, j, none⟩ = #[Value.int .i64 k2, .int .i64 n2, .string s2][j]? := fun j => by simp [vcells]
  have e2 : ∀ j, (((w.alloc (vcells k1 n1 s1)).alloc (vcells k2 n2 s2)).alloc (vcells k3 n3 s3)).cell? ⟨w.heap.size + 1 + 1, j, none⟩ = #[Value.int .i64 k3, .int .i64 n3, .string s3][j]? := fun j => by
    have := vc_new ((w.alloc (vcells k1 n1 s1)).alloc (vcells k2 n2 s2)) k3 n3 s3 j
    rw [show ((w.alloc (vcells k1 n1 s1)).alloc (vcells k2 n2 s2)).heap.size = w.heap.size + 1 + 1 by simp [vcells]] at this
    exact this
  have z1 : (w.alloc (vcells k1 n1 s1)).heap.size = w.heap.size + 1 := by simp [vcells]
  have z2 : ((w.alloc (vcells k1 n1 s1)).alloc (vcells k2 n2 s2)).heap.size = w.heap.size + 1 + 1 := by simp [vcells]
  have z3 : (((w.alloc (vcells k1 n1 s1)).alloc (vcells k2 n2 s2)).alloc (vcells k3 n3 s3)).heap.size = w.heap.size + 1 + 1 + 1 := by simp [vcells]
  have A1 := (Below.refl (w.alloc (vcells k1 n1 s1)).heap.size (w.alloc (vcells k1 n1 s1))).alloc (Nat.le_refl _) (vcells k2 n2 s2)
  have A2 := (Below.refl ((w.alloc (vcells k1 n1 s1)).alloc (vcells k2 n2 s2)).heap.size ((w.alloc (vcells k1 n1 s1)).alloc (vcells k2 n2 s2))).alloc (Nat.le_refl _) (vcells k3 n3 s3)
  have f0 : ∀ j, (((w.alloc (vcells k1 n1 s1)).alloc (vcells k2 n2 s2)).alloc (vcells k3 n3 s3)).cell? ⟨w.heap.size, j, none⟩ = #[Value.int .i64 k1, .int .i64 n1, .string s1][j]? := fun j =>
    (A2.cell (p := ⟨w.heap.size, j, none⟩) (by rw [z2]; show w.heap.size < _; omega)).trans ((A1.cell (p := ⟨w.heap.size, j, none⟩) (by rw [z1]; show w.heap.size < _; omega)).trans (e0 j))
  have f1 : ∀ j, (((w.alloc (vcells k1 n1 s1)).alloc (vcells k2 n2 s2)).alloc (vcells k3 n3 s3)).cell? ⟨w.heap.size + 1, j, none⟩ = #[Value.int .i64 k2, .int .i64 n2, .string s2][j]? := fun j =>
    (A2.cell (p := ⟨w.heap.size + 1, j, none⟩) (by rw [z2]; show w.heap.size + 1 < _; omega)).trans (e1 j)
  refine ⟨f0 0, f0 1, f0 2, f1 0, f1 1, f1 2, e2 0, e2 1, e2 2, by omega, ?_⟩
  exact (((Below.refl _ _).alloc (Nat.le_refl _) _).alloc (by omega) _).alloc (by omega) _
theorem ci_vals (x y : Int) : Lib.compareInt x y = -1 ∨ Lib.compareInt x y = 0 ∨ Lib.compareInt x y = 1 := by
  unfold Lib.compareInt
  by_cases h1 : x < y
  · simp [h1]
  · by_cases h2 : y < x
    · simp [h1, h2]
    · simp [h1, h2]
theorem cv_vals (k n : Int) (s : ByteArray) (k' n' : Int) (s' : ByteArray) : cmpV k n s k' n' s' = -1 ∨ cmpV k n s k' n' s' = 0 ∨ cmpV k n s k' n' s' = 1 := by
  unfold cmpV orI
  split
  · exact ci_vals _ _
  split
  · exact ci_vals _ _
  · exact cb_vals _ _
theorem cv_ne {k n : Int} {s : ByteArray} {k' n' : Int} {s' : ByteArray} (h : cmpV k n s k' n' s' ≠ 0) (e1 : k = k') (e2 : n = n') (e3 : s.toList = s'.toList) : False := by
  refine h ((cv_zero _ _ _ _ _ _).2 ⟨e1, e2, ba_eq ?_⟩)
  rw [ByteArray.toList_eq, ByteArray.toList_eq] at e3
  exact e3

set_option maxRecDepth 100000 in
set_option maxHeartbeats 4000000 in
theorem order_lt (k1 n1 : Int) (s1 : ByteArray) (k2 n2 : Int) (s2 : ByteArray) (k3 n3 : Int) (s3 : ByteArray) (w : World) (h1 : s1.size ≤ 2000) (h2 : s2.size ≤ 2000) (h3 : s3.size ≤ 2000) (h : VT w) (e12 : cmpV k1 n1 s1 k2 n2 s2 = -1) (e23 : cmpV k2 n2 s2 k3 n3 s3 = -1) :
    Calls Tryd.prog 5 #[vv k1 n1 s1, vv k2 n2 s2, vv k3 n3 s3] w fun e w' => e = .returned (.bool true) ∧ Below w.heap.size w w' := by
  have g1 : decide (s1.size ≤ 2000) = true := by simpa using h1
  have g2 : decide (s2.size ≤ 2000) = true := by simpa using h2
  have g3 : decide (s3.size ≤ 2000) = true := by simpa using h3
  have hS := S10_start w k1 n1 s1 k2 n2 s2 k3 n3 s3
  have E12 : Hid (cmpV k1 n1 s1 k2 n2 s2 = -1) := e12
  have E21 : Hid (cmpV k2 n2 s2 k1 n1 s1 = 1) := by show _ = _; have := cv_anti k1 n1 s1 k2 n2 s2; omega
  have E23 : Hid (cmpV k2 n2 s2 k3 n3 s3 = -1) := e23
  have E13 : Hid (cmpV k1 n1 s1 k3 n3 s3 = -1) := by
    show _ = _
    have := cv_trans (k := k1) (n := n1) (s := s1) (k' := k2) (n' := n2) (s' := s2) (k'' := k3) (n'' := n3) (s'' := s3) (by omega) (by omega)
    have := cv_vals k1 n1 s1 k3 n3 s3
    omega
  have HNE : Hid (cmpV k1 n1 s1 k2 n2 s2 ≠ 0) := by show ¬ _; rw [e12]; decide
  clear e12 e23
  go_enter Tryd.func5, Tryd.ntmps5
  go_wp2_with (first | (go_at_call 6; refine (few_any _ _).mono ?_; rintro e w' ⟨rfl, rfl⟩; first | rw [g1] | rw [g2] | rw [g3]))
  generalize (((w.alloc (vcells k1 n1 s1)).alloc (vcells k2 n2 s2)).alloc (vcells k3 n3 s3)) = W at *
  go_region_held3 (fun w' => S10 w k1 n1 s1 k2 n2 s2 k3 n3 s3 w') (first | assumption | exact S10_call (by assumption) (by assumption) | exact S10_drew (by assumption))
    (first | (go_at_call 12; refine (compare_any _ _ _ _ _ _ _).mono ?_; rintro e w' ⟨rfl, hb⟩; first | rw [E12.out] | rw [E23.out] | rw [E13.out]))
  rename_i hS3
  have HS3 : Hid (S10 w k1 n1 s1 k2 n2 s2 k3 n3 s3 w') := hS3
  have hB3 := hS3.2.2.2.2.2.2.2.2.2.2
  clear hS3 hS
  go_wp2_with fail
  refine (awake_any _ (h.below hB3)).mono ?_
  rintro e w4 ⟨rfl, hb4⟩
  have hS4 := S10_call hb4 HS3.out
  have HS4 : Hid (S10 w k1 n1 s1 k2 n2 s2 k3 n3 s3 w4) := hS4
  obtain ⟨a0, a1, a2, b0, b1, b2, c0, c1, c2, hs, hB⟩ := hS4
  clear hb4 HS3 hB3
  go_wp2_with fail
  refine (compare_any _ _ _ _ _ _ _).mono ?_
  rintro e w5 ⟨rfl, hb5⟩
  rw [E21.out]
  obtain ⟨a0, a1, a2, b0, b1, b2, c0, c1, c2, hs, hB⟩ := S10_call hb5 HS4.out
  clear hb5 HS4
  go_wp2
  all_goals first
    | (go_ret; exact ⟨rfl, hB⟩)
    | (exfalso; exact cv_ne HNE.out (by simp_all) (by simp_all) (by simp_all))

set_option maxRecDepth 100000 in
set_option maxHeartbeats 4000000 in
theorem order_lt0 (k1 n1 : Int) (s1 : ByteArray) (k2 n2 : Int) (s2 : ByteArray) (k3 n3 : Int) (s3 : ByteArray) (w : World) (h1 : s1.size ≤ 2000) (h2 : s2.size ≤ 2000) (h3 : s3.size ≤ 2000) (h : VT w) (e12 : cmpV k1 n1 s1 k2 n2 s2 = -1) (e23 : cmpV k2 n2 s2 k3 n3 s3 = 0) :
    Calls Tryd.prog 5 #[vv k1 n1 s1, vv k2 n2 s2, vv k3 n3 s3] w fun e w' => e = .returned (.bool true) ∧ Below w.heap.size w w' := by
  have g1 : decide (s1.size ≤ 2000) = true := by simpa using h1
  have g2 : decide (s2.size ≤ 2000) = true := by simpa using h2
  have g3 : decide (s3.size ≤ 2000) = true := by simpa using h3
  have hS := S10_start w k1 n1 s1 k2 n2 s2 k3 n3 s3
  have E12 : Hid (cmpV k1 n1 s1 k2 n2 s2 = -1) := e12
  have E21 : Hid (cmpV k2 n2 s2 k1 n1 s1 = 1) := by show _ = _; have := cv_anti k1 n1 s1 k2 n2 s2; omega
  have E23 : Hid (cmpV k2 n2 s2 k3 n3 s3 = 0) := e23
  have HNE : Hid (cmpV k1 n1 s1 k2 n2 s2 ≠ 0) := by show ¬ _; rw [e12]; decide
  clear e12 e23
  go_enter Tryd.func5, Tryd.ntmps5
  go_wp2_with (first | (go_at_call 6; refine (few_any _ _).mono ?_; rintro e w' ⟨rfl, rfl⟩; first | rw [g1] | rw [g2] | rw [g3]))
  generalize (((w.alloc (vcells k1 n1 s1)).alloc (vcells k2 n2 s2)).alloc (vcells k3 n3 s3)) = W at *
  go_region_held3 (fun w' => S10 w k1 n1 s1 k2 n2 s2 k3 n3 s3 w') (first | assumption | exact S10_call (by assumption) (by assumption) | exact S10_drew (by assumption))
    (first | (go_at_call 12; refine (compare_any _ _ _ _ _ _ _).mono ?_; rintro e w' ⟨rfl, hb⟩; first | rw [E12.out] | rw [E23.out] | skip))
  rename_i hS3
  have HS3 : Hid (S10 w k1 n1 s1 k2 n2 s2 k3 n3 s3 w') := hS3
  have hB3 := hS3.2.2.2.2.2.2.2.2.2.2
  clear hS3 hS
  go_wp2_with fail
  refine (awake_any _ (h.below hB3)).mono ?_
  rintro e w4 ⟨rfl, hb4⟩
  have hS4 := S10_call hb4 HS3.out
  have HS4 : Hid (S10 w k1 n1 s1 k2 n2 s2 k3 n3 s3 w4) := hS4
  obtain ⟨a0, a1, a2, b0, b1, b2, c0, c1, c2, hs, hB⟩ := hS4
  clear hb4 HS3 hB3
  go_wp2_with fail
  refine (compare_any _ _ _ _ _ _ _).mono ?_
  rintro e w5 ⟨rfl, hb5⟩
  rw [E21.out]
  obtain ⟨a0, a1, a2, b0, b1, b2, c0, c1, c2, hs, hB⟩ := S10_call hb5 HS4.out
  clear hb5 HS4
  go_wp2
  all_goals first
    | (go_ret; exact ⟨rfl, hB⟩)
    | (exfalso; exact cv_ne HNE.out (by simp_all) (by simp_all) (by simp_all))

set_option maxRecDepth 100000 in
set_option maxHeartbeats 4000000 in
theorem order_lt1 (k1 n1 : Int) (s1 : ByteArray) (k2 n2 : Int) (s2 : ByteArray) (k3 n3 : Int) (s3 : ByteArray) (w : World) (h1 : s1.size ≤ 2000) (h2 : s2.size ≤ 2000) (h3 : s3.size ≤ 2000) (h : VT w) (e12 : cmpV k1 n1 s1 k2 n2 s2 = -1) (e23 : cmpV k2 n2 s2 k3 n3 s3 = 1) :
    Calls Tryd.prog 5 #[vv k1 n1 s1, vv k2 n2 s2, vv k3 n3 s3] w fun e w' => e = .returned (.bool true) ∧ Below w.heap.size w w' := by
  have g1 : decide (s1.size ≤ 2000) = true := by simpa using h1
  have g2 : decide (s2.size ≤ 2000) = true := by simpa using h2
  have g3 : decide (s3.size ≤ 2000) = true := by simpa using h3
  have hS := S10_start w k1 n1 s1 k2 n2 s2 k3 n3 s3
  have E12 : Hid (cmpV k1 n1 s1 k2 n2 s2 = -1) := e12
  have E21 : Hid (cmpV k2 n2 s2 k1 n1 s1 = 1) := by show _ = _; have := cv_anti k1 n1 s1 k2 n2 s2; omega
  have E23 : Hid (cmpV k2 n2 s2 k3 n3 s3 = 1) := e23
  have HNE : Hid (cmpV k1 n1 s1 k2 n2 s2 ≠ 0) := by show ¬ _; rw [e12]; decide
  clear e12 e23
  go_enter Tryd.func5, Tryd.ntmps5
  go_wp2_with (first | (go_at_call 6; refine (few_any _ _).mono ?_; rintro e w' ⟨rfl, rfl⟩; first | rw [g1] | rw [g2] | rw [g3]))
  generalize (((w.alloc (vcells k1 n1 s1)).alloc (vcells k2 n2 s2)).alloc (vcells k3 n3 s3)) = W at *
  go_region_held3 (fun w' => S10 w k1 n1 s1 k2 n2 s2 k3 n3 s3 w') (first | assumption | exact S10_call (by assumption) (by assumption) | exact S10_drew (by assumption))
    (first | (go_at_call 12; refine (compare_any _ _ _ _ _ _ _).mono ?_; rintro e w' ⟨rfl, hb⟩; first | rw [E12.out] | rw [E23.out] | skip))
  rename_i hS3
  have HS3 : Hid (S10 w k1 n1 s1 k2 n2 s2 k3 n3 s3 w') := hS3
  have hB3 := hS3.2.2.2.2.2.2.2.2.2.2
  clear hS3 hS
  go_wp2_with fail
  refine (awake_any _ (h.below hB3)).mono ?_
  rintro e w4 ⟨rfl, hb4⟩
  have hS4 := S10_call hb4 HS3.out
  have HS4 : Hid (S10 w k1 n1 s1 k2 n2 s2 k3 n3 s3 w4) := hS4
  obtain ⟨a0, a1, a2, b0, b1, b2, c0, c1, c2, hs, hB⟩ := hS4
  clear hb4 HS3 hB3
  go_wp2_with fail
  refine (compare_any _ _ _ _ _ _ _).mono ?_
  rintro e w5 ⟨rfl, hb5⟩
  rw [E21.out]
  obtain ⟨a0, a1, a2, b0, b1, b2, c0, c1, c2, hs, hB⟩ := S10_call hb5 HS4.out
  clear hb5 HS4
  go_wp2
  all_goals first
    | (go_ret; exact ⟨rfl, hB⟩)
    | (exfalso; exact cv_ne HNE.out (by simp_all) (by simp_all) (by simp_all))

set_option maxRecDepth 100000 in
set_option maxHeartbeats 4000000 in
theorem order_gt (k1 n1 : Int) (s1 : ByteArray) (k2 n2 : Int) (s2 : ByteArray) (k3 n3 : Int) (s3 : ByteArray) (w : World) (h1 : s1.size ≤ 2000) (h2 : s2.size ≤ 2000) (h3 : s3.size ≤ 2000) (h : VT w) (e12 : cmpV k1 n1 s1 k2 n2 s2 = 1) :
    Calls Tryd.prog 5 #[vv k1 n1 s1, vv k2 n2 s2, vv k3 n3 s3] w fun e w' => e = .returned (.bool true) ∧ Below w.heap.size w w' := by
  have g1 : decide (s1.size ≤ 2000) = true := by simpa using h1
  have g2 : decide (s2.size ≤ 2000) = true := by simpa using h2
  have g3 : decide (s3.size ≤ 2000) = true := by simpa using h3
  have hS := S10_start w k1 n1 s1 k2 n2 s2 k3 n3 s3
  have E12 : Hid (cmpV k1 n1 s1 k2 n2 s2 = 1) := e12
  have E21 : Hid (cmpV k2 n2 s2 k1 n1 s1 = -1) := by show _ = _; have := cv_anti k1 n1 s1 k2 n2 s2; omega
  have HNE : Hid (cmpV k1 n1 s1 k2 n2 s2 ≠ 0) := by show ¬ _; rw [e12]; decide
  clear e12
  go_enter Tryd.func5, Tryd.ntmps5
  go_wp2_with (first | (go_at_call 6; refine (few_any _ _).mono ?_; rintro e w' ⟨rfl, rfl⟩; first | rw [g1] | rw [g2] | rw [g3]))
  generalize (((w.alloc (vcells k1 n1 s1)).alloc (vcells k2 n2 s2)).alloc (vcells k3 n3 s3)) = W at *
  go_region_held3 (fun w' => S10 w k1 n1 s1 k2 n2 s2 k3 n3 s3 w') (first | assumption | exact S10_call (by assumption) (by assumption) | exact S10_drew (by assumption))
    (first | (go_at_call 12; refine (compare_any _ _ _ _ _ _ _).mono ?_; rintro e w' ⟨rfl, hb⟩; first | rw [E12.out] | skip))
  rename_i hS3
  have HS3 : Hid (S10 w k1 n1 s1 k2 n2 s2 k3 n3 s3 w') := hS3
  have hB3 := hS3.2.2.2.2.2.2.2.2.2.2
  clear hS3 hS
  go_wp2_with fail
  refine (awake_any _ (h.below hB3)).mono ?_
  rintro e w4 ⟨rfl, hb4⟩
  have hS4 := S10_call hb4 HS3.out
  have HS4 : Hid (S10 w k1 n1 s1 k2 n2 s2 k3 n3 s3 w4) := hS4
  obtain ⟨a0, a1, a2, b0, b1, b2, c0, c1, c2, hs, hB⟩ := hS4
  clear hb4 HS3 hB3
  go_wp2_with fail
  refine (compare_any _ _ _ _ _ _ _).mono ?_
  rintro e w5 ⟨rfl, hb5⟩
  rw [E21.out]
  obtain ⟨a0, a1, a2, b0, b1, b2, c0, c1, c2, hs, hB⟩ := S10_call hb5 HS4.out
  clear hb5 HS4
  go_wp2
  all_goals first
    | (go_ret; exact ⟨rfl, hB⟩)
    | (exfalso; exact cv_ne HNE.out (by simp_all) (by simp_all) (by simp_all))

set_option maxRecDepth 100000 in
set_option maxHeartbeats 4000000 in
theorem order_eq0 (k1 n1 : Int) (s1 : ByteArray) (k2 n2 : Int) (s2 : ByteArray) (k3 n3 : Int) (s3 : ByteArray) (w : World) (h1 : s1.size ≤ 2000) (h2 : s2.size ≤ 2000) (h3 : s3.size ≤ 2000) (h : VT w) (e12 : cmpV k1 n1 s1 k2 n2 s2 = 0) :
    Calls Tryd.prog 5 #[vv k1 n1 s1, vv k2 n2 s2, vv k3 n3 s3] w fun e w' => e = .returned (.bool true) ∧ Below w.heap.size w w' := by
  have g1 : decide (s1.size ≤ 2000) = true := by simpa using h1
  have g2 : decide (s2.size ≤ 2000) = true := by simpa using h2
  have g3 : decide (s3.size ≤ 2000) = true := by simpa using h3
  obtain ⟨rfl, rfl, rfl⟩ := (cv_zero _ _ _ _ _ _).1 e12
  have hS := S10_start w k1 n1 s1 k1 n1 s1 k3 n3 s3
  have E12 : Hid (cmpV k1 n1 s1 k1 n1 s1 = 0) := e12
  have E21 : Hid (cmpV k1 n1 s1 k1 n1 s1 = 0) := e12
  have E33 : (cmpV k1 n1 s1 k3 n3 s3 == cmpV k1 n1 s1 k3 n3 s3) = true := beq_self_eq_true _
  clear e12
  go_enter Tryd.func5, Tryd.ntmps5
  go_wp2_with (first | (go_at_call 6; refine (few_any _ _).mono ?_; rintro e w' ⟨rfl, rfl⟩; first | rw [g1] | rw [g2] | rw [g3]))
  generalize (((w.alloc (vcells k1 n1 s1)).alloc (vcells k1 n1 s1)).alloc (vcells k3 n3 s3)) = W at *
  go_region_held3 (fun w' => S10 w k1 n1 s1 k1 n1 s1 k3 n3 s3 w') (first | assumption | exact S10_call (by assumption) (by assumption) | exact S10_drew (by assumption))
    (first | (go_at_call 12; refine (compare_any _ _ _ _ _ _ _).mono ?_; rintro e w' ⟨rfl, hb⟩; first | rw [E12.out] | skip))
  rename_i hS3
  have HS3 : Hid (S10 w k1 n1 s1 k1 n1 s1 k3 n3 s3 w') := hS3
  have hB3 := hS3.2.2.2.2.2.2.2.2.2.2
  clear hS3 hS
  go_wp2_with fail
  refine (awake_any _ (h.below hB3)).mono ?_
  rintro e w4 ⟨rfl, hb4⟩
  have hS4 := S10_call hb4 HS3.out
  have HS4 : Hid (S10 w k1 n1 s1 k1 n1 s1 k3 n3 s3 w4) := hS4
  obtain ⟨a0, a1, a2, b0, b1, b2, c0, c1, c2, hs, hB⟩ := hS4
  clear hb4 HS3 hB3
  go_wp2_with fail
  refine (compare_any _ _ _ _ _ _ _).mono ?_
  rintro e w5 ⟨rfl, hb5⟩
  rw [E21.out]
  obtain ⟨a0, a1, a2, b0, b1, b2, c0, c1, c2, hs, hB⟩ := S10_call hb5 HS4.out
  clear hb5 HS4
  go_wp2
  go_ret
  exact ⟨rfl, hB⟩

set_option maxRecDepth 100000 in
set_option maxHeartbeats 4000000 in
theorem order_long (k1 n1 : Int) (s1 : ByteArray) (k2 n2 : Int) (s2 : ByteArray) (k3 n3 : Int) (s3 : ByteArray) (w : World) (h : VT w) (hl : (decide (s1.size ≤ 2000) && (decide (s2.size ≤ 2000) && decide (s3.size ≤ 2000))) = false) :
    Calls Tryd.prog 5 #[vv k1 n1 s1, vv k2 n2 s2, vv k3 n3 s3] w fun e w' => e = .returned (.bool true) ∧ Below w.heap.size w w' := by
  have hB := (S10_start w k1 n1 s1 k2 n2 s2 k3 n3 s3).2.2.2.2.2.2.2.2.2.2
  have HA : Hid (Calls Tryd.prog 7 #[] (((w.alloc (vcells k1 n1 s1)).alloc (vcells k2 n2 s2)).alloc (vcells k3 n3 s3)) fun e w' => e = .returned (.bool true) ∧ Below (((w.alloc (vcells k1 n1 s1)).alloc (vcells k2 n2 s2)).alloc (vcells k3 n3 s3)).heap.size (((w.alloc (vcells k1 n1 s1)).alloc (vcells k2 n2 s2)).alloc (vcells k3 n3 s3)) w') := awake_any _ (h.below hB)
  cases g1 : decide (s1.size ≤ 2000)
  · go_enter Tryd.func5, Tryd.ntmps5
    go_wp2_with (first | (go_at_call 6; refine (few_any _ _).mono ?_; rintro e w' ⟨rfl, rfl⟩; rw [g1]) | (go_at_call 7; refine Calls.mono HA.out ?_; rintro e w4 ⟨rfl, hb4⟩))
    go_ret
    exact ⟨rfl, hB.trans (hb4.mono hB.size)⟩
  cases g2 : decide (s2.size ≤ 2000)
  · go_enter Tryd.func5, Tryd.ntmps5
    go_wp2_with (first | (go_at_call 6; refine (few_any _ _).mono ?_; rintro e w' ⟨rfl, rfl⟩; first | rw [g1] | rw [g2]) | (go_at_call 7; refine Calls.mono HA.out ?_; rintro e w4 ⟨rfl, hb4⟩))
    go_ret
    exact ⟨rfl, hB.trans (hb4.mono hB.size)⟩
  cases g3 : decide (s3.size ≤ 2000)
  · go_enter Tryd.func5, Tryd.ntmps5
    go_wp2_with (first | (go_at_call 6; refine (few_any _ _).mono ?_; rintro e w' ⟨rfl, rfl⟩; first | rw [g1] | rw [g2] | rw [g3]) | (go_at_call 7; refine Calls.mono HA.out ?_; rintro e w4 ⟨rfl, hb4⟩))
    go_ret
    exact ⟨rfl, hB.trans (hb4.mono hB.size)⟩
  · rw [g1, g2, g3] at hl
    cases hl

theorem valueOrder_walk (k1 n1 : Int) (s1 : ByteArray) (k2 n2 : Int) (s2 : ByteArray) (k3 n3 : Int) (s3 : ByteArray) (w : World) (h : VT w) :
    Calls Tryd.prog 5 #[vv k1 n1 s1, vv k2 n2 s2, vv k3 n3 s3] w fun e w' => e = .returned (.bool true) ∧ Below w.heap.size w w' := by
  by_cases h1 : s1.size ≤ 2000
  · by_cases h2 : s2.size ≤ 2000
    · by_cases h3 : s3.size ≤ 2000
      · rcases cv_vals k1 n1 s1 k2 n2 s2 with e | e | e
        · rcases cv_vals k2 n2 s2 k3 n3 s3 with e' | e' | e'
          · exact order_lt _ _ _ _ _ _ _ _ _ w h1 h2 h3 h e e'
          · exact order_lt0 _ _ _ _ _ _ _ _ _ w h1 h2 h3 h e e'
          · exact order_lt1 _ _ _ _ _ _ _ _ _ w h1 h2 h3 h e e'
        · exact order_eq0 _ _ _ _ _ _ _ _ _ w h1 h2 h3 h e
        · exact order_gt _ _ _ _ _ _ _ _ _ w h1 h2 h3 h e
      · exact order_long _ _ _ _ _ _ _ _ _ w h (by simp [h1, h2, h3])
    · exact order_long _ _ _ _ _ _ _ _ _ w h (by simp [h1, h2])
  · exact order_long _ _ _ _ _ _ _ _ _ w h (by simp [h1])
end Go.Proofs.YtbnecokbbmlekaaDoor
