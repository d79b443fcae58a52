/- The reference's Compare of values; ValueChecks: for every two values the law returns true. -/
import Derived.Test.YtbnecokbbmlekaaGreatDoorVS
import Derived.Test.YtbnecokbbmlekaaGreatDoorVM
namespace Go.Proofs.YtbnecokbbmlekaaGreatDoor
open Go.RowKit

theorem less_cmp : ∀ (a b : List UInt8), Op.bytesLess a b = decide (Lib.compareBytes a b < 0)
  | [], [] => by simp [Op.bytesLess, Lib.compareBytes]
  | [], b :: l => by simp [Op.bytesLess, Lib.compareBytes]
  | a :: k, [] => by simp [Op.bytesLess, Lib.compareBytes]
  | a :: k, b :: l => by
    have ih := less_cmp k l
    by_cases h1 : a < b
    · simp [Op.bytesLess, Lib.compareBytes, h1]
    · by_cases h2 : b < a
      · have hne : a ≠ b := fun e => by subst e; exact UInt8.lt_irrefl _ h2
        simp [Op.bytesLess, Lib.compareBytes, h1, h2, hne]
      · have e : a = b := UInt8.le_antisymm (UInt8.not_lt.1 h2) (UInt8.not_lt.1 h1)
        subst e
        simp [Op.bytesLess, Lib.compareBytes, ih]
theorem toL (s : ByteArray) : s.toList = s.data.toList := ByteArray.toList_eq s
set_option maxRecDepth 100000 in
set_option maxHeartbeats 2000000 in
theorem refCompare_any (k n : Int) (s : ByteArray) (k' n' : Int) (s' : ByteArray) (w : World) :
    Calls Tryz.prog 10 #[vv k n s, vv k' n' s'] w fun e w' => e = .returned (.int .i64 (cmpV k n s k' n' s')) ∧ Below w.heap.size w w' := by
  obtain ⟨C, HC⟩ : ∃ C, Hid (cmpV k n s k' n' s' = C) := ⟨_, rfl⟩
  rw [HC.out]
  have hb : Below w.heap.size w ((w.alloc (.cells #[.int .i64 k, .int .i64 n, .string s] 28)).alloc (.cells #[.int .i64 k', .int .i64 n', .string s'] 28)) := ((Below.refl _ _).alloc (Nat.le_refl _) _).alloc (by simp) _
  have hv := cv_vals k n s k' n' s'
  have hng := cv_neg k n s k' n' s'
  have hz := cv_zero k n s k' n' s'
  by_cases h1 : k < k'
  · have HR : Hid (-1 = C) := by show _ = _; rw [← HC.out]; have := hng.2 (.inl h1); omega
    have h1' : decide (k < k') = true := by simpa using h1
    clear hv hng hz HC
    go_enter Tryz.func10, Tryz.ntmps10
    go_wp2
    go_ret
    exact ⟨by rw [← HR.out]; rfl, hb⟩
  have h1' : decide (k < k') = false := by simpa using h1
  by_cases h2 : k = k'
  · subst h2
    by_cases h3 : n < n'
    · have HR : Hid (-1 = C) := by show _ = _; rw [← HC.out]; have := hng.2 (.inr ⟨rfl, .inl h3⟩); omega
      have h3' : decide (n < n') = true := by simpa using h3
      clear hv hng hz HC
      go_enter Tryz.func10, Tryz.ntmps10
      go_wp2
      go_ret
      exact ⟨by rw [← HR.out]; rfl, hb⟩
    have h3' : decide (n < n') = false := by simpa using h3
    by_cases h4 : n = n'
    · subst h4
      have hls := less_cmp s.data.toList s'.data.toList
      rw [← toL, ← toL] at hls
      by_cases h5 : Lib.compareBytes s.toList s'.toList < 0
      · have HR : Hid (-1 = C) := by show _ = _; rw [← HC.out]; have := hng.2 (.inr ⟨rfl, .inr ⟨rfl, by rw [← toL, ← toL]; exact h5⟩⟩); omega
        rw [decide_eq_true h5] at hls
        clear hv hng hz HC h5
        go_enter Tryz.func10, Tryz.ntmps10
        go_wp2
        go_ret
        exact ⟨by rw [← HR.out]; rfl, hb⟩
      · rw [decide_eq_false h5] at hls
        by_cases h6 : s = s'
        · subst h6
          have HR : Hid (0 = C) := by show _ = _; rw [← HC.out]; exact (hz.2 ⟨rfl, rfl, rfl⟩).symm
          clear hv hng hz HC h5
          go_enter Tryz.func10, Tryz.ntmps10
          go_wp2
          go_ret
          exact ⟨by rw [← HR.out]; rfl, hb⟩
        · have h6' : ¬ s.toList = s'.toList := fun e => h6 (ba_eq (by rw [← toL, ← toL]; exact e))
          have HR : Hid (1 = C) := by
            show _ = _
            rw [← HC.out]
            have a1 : ¬ cmpV k n s k n s' = 0 := fun e => h6 (hz.1 e).2.2
            have a2 : ¬ cmpV k n s k n s' < 0 := fun e => by
              rcases hng.1 e with e | ⟨_, e | ⟨_, e⟩⟩
              · omega
              · omega
              · exact h5 (by rw [toL, toL]; exact e)
            omega
          clear hv hng hz HC h5 h6
          go_enter Tryz.func10, Tryz.ntmps10
          go_wp2
          go_ret
          exact ⟨by rw [← HR.out]; rfl, hb⟩
    · have h4' : (n == n') = false := by rw [beq_eq_false_iff_ne]; exact h4
      have HR : Hid (1 = C) := by
        show _ = _
        rw [← HC.out]
        have a1 : ¬ cmpV k n s k n' s' = 0 := fun e => h4 (hz.1 e).2.1
        have a2 : ¬ cmpV k n s k n' s' < 0 := fun e => by
          rcases hng.1 e with e | ⟨_, e | ⟨e, _⟩⟩
          · omega
          · omega
          · omega
        omega
      clear hv hng hz HC
      go_enter Tryz.func10, Tryz.ntmps10
      go_wp2
      go_ret
      exact ⟨by rw [← HR.out]; rfl, hb⟩
  · have h2' : (k == k') = false := by rw [beq_eq_false_iff_ne]; exact h2
    have HR : Hid (1 = C) := by
      show _ = _
      rw [← HC.out]
      have a1 : ¬ cmpV k n s k' n' s' = 0 := fun e => h2 (hz.1 e).1
      have a2 : ¬ cmpV k n s k' n' s' < 0 := fun e => by
        rcases hng.1 e with e | ⟨e, _⟩
        · omega
        · omega
      omega
    clear hv hng hz HC
    go_enter Tryz.func10, Tryz.ntmps10
    go_wp2
    go_ret
    exact ⟨by rw [← HR.out]; rfl, hb⟩

theorem few_any (s : ByteArray) (w : World) : Calls Tryz.prog 4 #[.string s] w fun e w' => e = .returned (.bool (decide (s.size ≤ 2000))) ∧ w' = w := by
  by_cases h : s.size ≤ 2000
  · have h' : decide ((s.size : Int) ≤ 2000) = true := by simp; omega
    rw [decide_eq_true h]
    go_enter Tryz.func4, Tryz.ntmps4
    go_wp2
    go_ret
    exact ⟨rfl, rfl⟩
  · have h' : decide ((s.size : Int) ≤ 2000) = false := by simp; omega
    rw [decide_eq_false h]
    go_enter Tryz.func4, Tryz.ntmps4
    go_wp2
    go_ret
    exact ⟨rfl, rfl⟩
abbrev vcells (k n : Int) (s : ByteArray) : Obj := .cells #[.int .i64 k, .int .i64 n, .string s] 23
/-- Two values that lie in two blocks, and what was there before. -/
abbrev S7 (w0 : World) (k1 n1 : Int) (s1 : ByteArray) (k2 n2 : Int) (s2 : ByteArray) (w : World) : Prop :=
  w.cell? ⟨w0.heap.size, 0, none⟩ = some (.int .i64 k1) ∧ w.cell? ⟨w0.heap.size, 1, none⟩ = some (.int .i64 n1) ∧ w.cell? ⟨w0.heap.size, 2, none⟩ = some (.string s1) ∧
  w.cell? ⟨w0.heap.size + 1, 0, none⟩ = some (.int .i64 k2) ∧ w.cell? ⟨w0.heap.size + 1, 1, none⟩ = some (.int .i64 n2) ∧ w.cell? ⟨w0.heap.size + 1, 2, none⟩ = some (.string s2) ∧
  w0.heap.size + 1 < w.heap.size ∧ Below w0.heap.size w0 w
theorem S7_call {w0 W w' : World} {k1 n1 : Int} {s1 : ByteArray} {k2 n2 : Int} {s2 : ByteArray} (hb : Below W.heap.size W w') (h : S7 w0 k1 n1 s1 k2 n2 s2 W) : S7 w0 k1 n1 s1 k2 n2 s2 w' := by
  obtain ⟨a0, a1, a2, b0, b1, b2, hs, hB⟩ := h
  have l1 : w0.heap.size < W.heap.size := by omega
  exact ⟨(hb.cell (p := ⟨w0.heap.size, 0, none⟩) l1).trans a0, (hb.cell (p := ⟨w0.heap.size, 1, none⟩) l1).trans a1, (hb.cell (p := ⟨w0.heap.size, 2, none⟩) l1).trans a2,
    (hb.cell (p := ⟨w0.heap.size + 1, 0, none⟩) hs).trans b0, (hb.cell (p := ⟨w0.heap.size + 1, 1, none⟩) hs).trans b1, (hb.cell (p := ⟨w0.heap.size + 1, 2, none⟩) hs).trans b2,
    Nat.lt_of_lt_of_le hs hb.size, hB.trans (hb.mono hB.size)⟩
theorem S7_drew {w0 W : World} {k1 n1 : Int} {s1 : ByteArray} {k2 n2 : Int} {s2 : ByteArray} (h : S7 w0 k1 n1 s1 k2 n2 s2 W) : S7 w0 k1 n1 s1 k2 n2 s2 W.drew := by
  obtain ⟨a0, a1, a2, b0, b1, b2, hs, hB⟩ := h
  exact ⟨a0, a1, a2, b0, b1, b2, hs, hB.drew⟩
theorem vc_new (W : World) (k n : Int) (s : ByteArray) (j : Nat) : (W.alloc (vcells k n s)).cell? ⟨W.heap.size, j, none⟩ = #[Value.int .i64 k, .int .i64 n, .string s][j]? := by simp [vcells]
theorem S7_start (w : World) (k1 n1 : Int) (s1 : ByteArray) (k2 n2 : Int) (s2 : ByteArray) : S7 w k1 n1 s1 k2 n2 s2 ((w.alloc (vcells k1 n1 s1)).alloc (vcells k2 n2 s2)) := by
  have z1 : (w.alloc (vcells k1 n1 s1)).heap.size = w.heap.size + 1 := by simp [vcells]
  have z2 : ((w.alloc (vcells k1 n1 s1)).alloc (vcells k2 n2 s2)).heap.size = w.heap.size + 1 + 1 := by simp [vcells]
  have A1 := (Below.refl (w.alloc (vcells k1 n1 s1)).heap.size (w.alloc (vcells k1 n1 s1))).alloc (Nat.le_refl _) (vcells k2 n2 s2)
  have e0 := fun j => (A1.cell (p := ⟨w.heap.size, j, none⟩) (by rw [z1]; show w.heap.size < _; omega)).trans (vc_new w k1 n1 s1 j)
  have e1 : ∀ j, ((w.alloc (vcells k1 n1 s1)).alloc (vcells k2 n2 s2)).cell? ⟨w.heap.size + 1, j, none⟩ = #[Value.int .i64 k2, .int .i64 n2, .string s2][j]? := fun j => by
    have := vc_new (w.alloc (vcells k1 n1 s1)) k2 n2 s2 j
    rw [z1] at this
    exact this
  refine ⟨e0 0, e0 1, e0 2, e1 0, e1 1, e1 2, by omega, ?_⟩
  exact ((Below.refl _ _).alloc (Nat.le_refl _) _).alloc (by omega) _
theorem S7_vt {w0 W : World} {k1 n1 : Int} {s1 : ByteArray} {k2 n2 : Int} {s2 : ByteArray} (hv : VT w0) (h : S7 w0 k1 n1 s1 k2 n2 s2 W) : VT W := hv.below h.2.2.2.2.2.2.2

set_option maxRecDepth 100000 in
set_option maxHeartbeats 8000000 in
theorem checks_few (k1 n1 : Int) (s1 : ByteArray) (k2 n2 : Int) (s2 : ByteArray) (w : World) (h1 : s1.size ≤ 2000) (h2 : s2.size ≤ 2000) (h : VT w) :
    Calls Tryz.prog 3 #[vv k1 n1 s1, vv k2 n2 s2] w fun e w' => e = .returned (.bool true) ∧ Below w.heap.size w w' := by
  have g1 : decide (s1.size ≤ 2000) = true := by simpa using h1
  have g2 : decide (s2.size ≤ 2000) = true := by simpa using h2
  have hS := S7_start w k1 n1 s1 k2 n2 s2
  have hs1 : s1.size ≤ 140737488355328 := by omega
  have hz1 : (chkV k1 n1 s1 == chkV k1 n1 s1) = true := beq_self_eq_true _
  have hz2 : (cmpV k1 n1 s1 k2 n2 s2 == cmpV k1 n1 s1 k2 n2 s2) = true := beq_self_eq_true _
  go_enter Tryz.func3, Tryz.ntmps3
  go_wp2_with (first | (go_at_call 4; refine (few_any _ _).mono ?_; rintro e w' ⟨rfl, rfl⟩; first | rw [g1] | rw [g2]))
  generalize ((w.alloc (vcells k1 n1 s1)).alloc (vcells k2 n2 s2)) = W at *
  go_region_held3 (fun w' => S7 w k1 n1 s1 k2 n2 s2 w') (first | assumption | exact S7_call (by assumption) (by assumption) | exact S7_drew (by assumption))
    (first
      | (go_at_call 5; refine (awake_any _ ?_).mono ?_; exact S7_vt h (by assumption); rintro e w' ⟨rfl, hb⟩)
      | (go_at_call 6; refine (check_any _ _ _ _ ?_ ?_).mono ?_; exact hs1; exact (S7_vt h (by assumption)).u; rintro e w' ⟨rfl, hb⟩)
      | (go_at_call 8; refine (ref_any _ _ _ _).mono ?_; rintro e w' ⟨rfl, hb⟩)
      | (go_at_call 7; refine (refCheck_any _ _ _ _ ?_).mono ?_; exact hs1; rintro e w' ⟨rfl, hb⟩)
      | (go_at_call 9; refine (compare_any _ _ _ _ _ _ _).mono ?_; rintro e w' ⟨rfl, hb⟩)
      | (go_at_call 10; refine (refCompare_any _ _ _ _ _ _ _).mono ?_; rintro e w' ⟨rfl, hb⟩))
  rename_i hS3
  have hB3 := hS3.2.2.2.2.2.2.2
  clear hS3 hS
  go_wp2
  go_ret
  exact ⟨rfl, hB3⟩
set_option maxRecDepth 100000 in
set_option maxHeartbeats 1000000 in
theorem valueChecks_walk (k1 n1 : Int) (s1 : ByteArray) (k2 n2 : Int) (s2 : ByteArray) (w : World) (h : VT w) :
    Calls Tryz.prog 3 #[vv k1 n1 s1, vv k2 n2 s2] w fun e w' => e = .returned (.bool true) ∧ Below w.heap.size w w' := by
  have hB := (S7_start w k1 n1 s1 k2 n2 s2).2.2.2.2.2.2.2
  have HA : Hid (Calls Tryz.prog 5 #[] ((w.alloc (vcells k1 n1 s1)).alloc (vcells k2 n2 s2)) fun e w' => e = .returned (.bool true) ∧ Below ((w.alloc (vcells k1 n1 s1)).alloc (vcells k2 n2 s2)).heap.size ((w.alloc (vcells k1 n1 s1)).alloc (vcells k2 n2 s2)) w') := awake_any _ (h.below hB)
  by_cases h1 : s1.size ≤ 2000
  · have g1 : decide (s1.size ≤ 2000) = true := by simpa using h1
    by_cases h2 : s2.size ≤ 2000
    · exact checks_few k1 n1 s1 k2 n2 s2 w h1 h2 h
    · have g2 : decide (s2.size ≤ 2000) = false := by simpa using h2
      go_enter Tryz.func3, Tryz.ntmps3
      go_wp2_with (first | (go_at_call 4; refine (few_any _ _).mono ?_; rintro e w' ⟨rfl, rfl⟩; first | rw [g1] | rw [g2]) | (go_at_call 5; refine Calls.mono HA.out ?_; rintro e w4 ⟨rfl, hb4⟩))
      go_ret
      exact ⟨rfl, hB.trans (hb4.mono hB.size)⟩
  · have g1 : decide (s1.size ≤ 2000) = false := by simpa using h1
    go_enter Tryz.func3, Tryz.ntmps3
    go_wp2_with (first | (go_at_call 4; refine (few_any _ _).mono ?_; rintro e w' ⟨rfl, rfl⟩; rw [g1]) | (go_at_call 5; refine Calls.mono HA.out ?_; rintro e w4 ⟨rfl, hb4⟩))
    go_ret
    exact ⟨rfl, hB.trans (hb4.mono hB.size)⟩
end Go.Proofs.YtbnecokbbmlekaaGreatDoor
