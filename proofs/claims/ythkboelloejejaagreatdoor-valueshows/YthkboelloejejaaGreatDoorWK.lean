/- The reference's Text of any value: its walk. -/
import Derived.Test.YthkboelloejejaaGreatDoorVTy
import Derived.Test.YthkboelloejejaaGreatDoorWF
import Derived.Test.YthkboelloejejaaGreatDoorWG
import Derived.Test.YthkboelloejejaaGreatDoorVS
import Derived.Test.YthkboelloejejaaGreatDoorR
import Derived.Deep.RegionHeld3
namespace Go.Proofs.YthkboelloejejaaGreatDoor
open Go.RowKit

theorem num_size8 (n : Int) : (strOfNums (Q.numI n)).size ≤ 8 := Q.num_size_le n
theorem wt3_below (w : World) (k n : Int) (s : ByteArray) : Below w.heap.size w (w.alloc (.cells #[.int .i64 k, .int .i64 n, .string s] 28)) := (Below.refl _ _).alloc (Nat.le_refl _) _
theorem txt_1 (n : Int) (s : ByteArray) : strOfNums (Q.numI 1) ++ strOfNums (Q.numI (Q.zig n)) = txt 1 n s := ba_eq (by
  rw [ba_append]
  simp [txt, itm, Q.itB, Q.numL, strOfNums])
theorem txt_3 (n : Int) (s : ByteArray) (h : n = 0 ∨ n = 1) : strOfNums (Q.numI 3) ++ strOfNums [n] = txt 3 n s := ba_eq (by
  rw [ba_append]
  rcases h with rfl | rfl
  all_goals simp [txt, itm, Q.itB, Q.numL, strOfNums])
theorem txt_24 (k n : Int) (s : ByteArray) (h : k = 2 ∨ k = 4) : (strOfNums (Q.numI k) ++ strOfNums (Q.numI s.size)) ++ s = txt k n s := ba_eq (by
  rw [ba_append, ba_append]
  rcases h with rfl | rfl
  all_goals simp [txt, itm, Q.itB, Q.numL, strOfNums])

set_option maxRecDepth 100000 in
set_option maxHeartbeats 4000000 in
theorem refText_0 (k n : Int) (s : ByteArray) (w : World) (hs : s.size ≤ 140737488355328) (h : chkV k n s = false) :
    Calls Tryz.prog 14 #[vv k n s] w fun e w' => e = .returned (.string ⟨#[]⟩) ∧ Below w.heap.size w w' := by
  have HC : Hid (chkV k n s = false) := h
  clear h
  go_enter Tryz.func14, Tryz.ntmps14
  go_wp2_with fail
  refine (refCheck_any _ _ _ _ hs).mono ?_
  rintro e w1 ⟨rfl, hb1⟩
  rw [HC.out]
  have hB1 : Below w.heap.size w w1 := (wt3_below w k n s).trans (hb1.mono (by simp))
  clear hb1
  go_wp2
  go_ret
  exact ⟨rfl, hB1⟩
set_option maxRecDepth 100000 in
set_option maxHeartbeats 4000000 in
theorem refText_1 (n : Int) (s : ByteArray) (w : World) (hs : s.size ≤ 140737488355328) (h : chkV 1 n s = true) :
    Calls Tryz.prog 14 #[vv 1 n s] w fun e w' => e = .returned (.string (txt 1 n s)) ∧ Below w.heap.size w w' := by
  have HC : Hid (chkV 1 n s = true) := h
  have HN : Hid (∀ w : World, Calls Tryz.prog 33 #[.int .i64 1] w fun e w' => e = .returned (.string (strOfNums (Q.numI 1))) ∧ Below w.heap.size w w') := fun w => Q.refNum_any 1 w
  have HW : Hid (∀ w : World, Calls Tryz.prog 34 #[.int .i64 n] w fun e w' => e = .returned (.string (strOfNums (Q.numI (Q.zig n)))) ∧ Below w.heap.size w w') := fun w => Q.refWhole_any n w
  rw [← txt_1 n s]
  have z1 := num_size8 1
  have z2 := num_size8 (Q.zig n)
  generalize strOfNums (Q.numI 1) = X at *
  generalize strOfNums (Q.numI (Q.zig n)) = Y at *
  clear h
  go_enter Tryz.func14, Tryz.ntmps14
  go_wp2_with fail
  refine (refCheck_any _ _ _ _ hs).mono ?_
  rintro e w1 ⟨rfl, hb1⟩
  rw [HC.out]
  have c0 : w1.cell? ⟨w.heap.size, 0, none⟩ = some (.int .i64 1) := (hb1.cell (p := ⟨w.heap.size, 0, none⟩) (by simp)).trans (by simp)
  have c1 : w1.cell? ⟨w.heap.size, 1, none⟩ = some (.int .i64 n) := (hb1.cell (p := ⟨w.heap.size, 1, none⟩) (by simp)).trans (by simp)
  have hB1 : Below w.heap.size w w1 := (wt3_below w 1 n s).trans (hb1.mono (by simp))
  have hlt : w.heap.size < w1.heap.size := by have := hb1.size; simp at this; omega
  clear hb1
  go_wp2_with fail
  refine (HN.out _).mono ?_
  rintro e w2 ⟨rfl, hb2⟩
  have d0 : w2.cell? ⟨w.heap.size, 0, none⟩ = some (.int .i64 1) := (hb2.cell (p := ⟨w.heap.size, 0, none⟩) hlt).trans c0
  have d1 : w2.cell? ⟨w.heap.size, 1, none⟩ = some (.int .i64 n) := (hb2.cell (p := ⟨w.heap.size, 1, none⟩) hlt).trans c1
  have hB2 := hB1.trans (hb2.mono hB1.size)
  clear hb2 c0 c1 hB1
  go_wp2_with fail
  refine (HW.out _).mono ?_
  rintro e w3 ⟨rfl, hb3⟩
  have hB3 := hB2.trans (hb3.mono hB2.size)
  clear hb3 d0 d1 hB2
  go_wp2
  go_ret
  exact ⟨rfl, hB3⟩
set_option maxRecDepth 100000 in
set_option maxHeartbeats 4000000 in
theorem refText_3 (n : Int) (s : ByteArray) (w : World) (hs : s.size ≤ 140737488355328) (h : chkV 3 n s = true) :
    Calls Tryz.prog 14 #[vv 3 n s] w fun e w' => e = .returned (.string (txt 3 n s)) ∧ Below w.heap.size w w' := by
  have HC : Hid (chkV 3 n s = true) := h
  have hn : n = 0 ∨ n = 1 := by
    unfold chkV at h
    rw [if_neg (by decide), if_neg (by decide), if_pos rfl] at h
    simp only [Bool.and_eq_true, decide_eq_true_eq] at h
    exact h.2
  have HN : Hid (∀ w : World, Calls Tryz.prog 33 #[.int .i64 3] w fun e w' => e = .returned (.string (strOfNums (Q.numI 3))) ∧ Below w.heap.size w w') := fun w => Q.refNum_any 3 w
  rw [← txt_3 n s hn]
  have z1 := num_size8 3
  have z2 : (strOfNums [n]).size = 1 := rfl
  obtain ⟨Y, HY⟩ : ∃ Y, Hid (strOfNums [n] = Y) := ⟨_, rfl⟩
  rw [HY.out] at z2 ⊢
  generalize strOfNums (Q.numI 3) = X at *
  clear h
  go_enter Tryz.func14, Tryz.ntmps14
  go_wp2_with fail
  refine (refCheck_any _ _ _ _ hs).mono ?_
  rintro e w1 ⟨rfl, hb1⟩
  rw [HC.out]
  have c0 : w1.cell? ⟨w.heap.size, 0, none⟩ = some (.int .i64 3) := (hb1.cell (p := ⟨w.heap.size, 0, none⟩) (by simp)).trans (by simp)
  have c1 : w1.cell? ⟨w.heap.size, 1, none⟩ = some (.int .i64 n) := (hb1.cell (p := ⟨w.heap.size, 1, none⟩) (by simp)).trans (by simp)
  have hB1 : Below w.heap.size w w1 := (wt3_below w 3 n s).trans (hb1.mono (by simp))
  have hlt : w.heap.size < w1.heap.size := by have := hb1.size; simp at this; omega
  clear hb1
  go_wp2_with fail
  refine (HN.out _).mono ?_
  rintro e w2 ⟨rfl, hb2⟩
  have d0 : w2.cell? ⟨w.heap.size, 0, none⟩ = some (.int .i64 3) := (hb2.cell (p := ⟨w.heap.size, 0, none⟩) hlt).trans c0
  have d1 : w2.cell? ⟨w.heap.size, 1, none⟩ = some (.int .i64 n) := (hb2.cell (p := ⟨w.heap.size, 1, none⟩) hlt).trans c1
  have hB2 := hB1.trans (hb2.mono hB1.size)
  clear hb2 c0 c1 hB1
  go_wp2
  rw [cvb1, HY.out]
  go_wp2
  go_ret
  exact ⟨rfl, hB2.alloc hB2.size _⟩
abbrev SC (w0 : World) (k : Int) (s : ByteArray) (w : World) : Prop :=
  w.cell? ⟨w0.heap.size, 0, none⟩ = some (.int .i64 k) ∧ w.cell? ⟨w0.heap.size, 2, none⟩ = some (.string s) ∧ w0.heap.size < w.heap.size ∧ Below w0.heap.size w0 w
theorem SC_call {w0 W w' : World} {k : Int} {s : ByteArray} (hb : Below W.heap.size W w') (h : SC w0 k s W) : SC w0 k s w' := by
  obtain ⟨a0, a2, l1, hB⟩ := h
  exact ⟨(hb.cell (p := ⟨w0.heap.size, 0, none⟩) l1).trans a0, (hb.cell (p := ⟨w0.heap.size, 2, none⟩) l1).trans a2, Nat.lt_of_lt_of_le l1 hb.size, hB.trans (hb.mono hB.size)⟩
theorem SC_drew {w0 W : World} {k : Int} {s : ByteArray} (h : SC w0 k s W) : SC w0 k s W.drew := ⟨h.1, h.2.1, h.2.2.1, h.2.2.2.drew⟩
set_option maxRecDepth 100000 in
set_option maxHeartbeats 4000000 in
theorem refText_24 (k n : Int) (s : ByteArray) (w : World) (hk : k = 2 ∨ k = 4) (hs : s.size ≤ 140737488355328) (h : chkV k n s = true) :
    Calls Tryz.prog 14 #[vv k n s] w fun e w' => e = .returned (.string (txt k n s)) ∧ Below w.heap.size w w' := by
  have HC : Hid (chkV k n s = true) := h
  obtain ⟨_, _, _, _, hz⟩ := chk_rng h
  have HN : Hid (∀ w : World, Calls Tryz.prog 33 #[.int .i64 k] w fun e w' => e = .returned (.string (strOfNums (Q.numI k))) ∧ Below w.heap.size w w') := fun w => Q.refNum_any k w
  have HM : Hid (∀ w : World, Calls Tryz.prog 33 #[.int .i64 (s.size : Int)] w fun e w' => e = .returned (.string (strOfNums (Q.numI (s.size : Int)))) ∧ Below w.heap.size w w') := fun w => Q.refNum_any s.size w
  rw [← txt_24 k n s hk]
  have z1 := num_size8 k
  have z2 := num_size8 s.size
  have k1 : (k == 1) = false := by rw [beq_eq_false_iff_ne]; omega
  have k3 : (k == 3) = false := by rw [beq_eq_false_iff_ne]; omega
  generalize strOfNums (Q.numI k) = X at *
  generalize strOfNums (Q.numI (s.size : Int)) = Y at *
  have l1 : ¬ 9223372036854775807 < X.size + Y.size := by omega
  have l2 : ¬ 9223372036854775807 < X.size + Y.size + s.size := by omega
  clear h hk
  go_enter Tryz.func14, Tryz.ntmps14
  go_wp2_with fail
  refine (refCheck_any _ _ _ _ hs).mono ?_
  rintro e w1 ⟨rfl, hb1⟩
  rw [HC.out]
  have c0 : w1.cell? ⟨w.heap.size, 0, none⟩ = some (.int .i64 k) := (hb1.cell (p := ⟨w.heap.size, 0, none⟩) (by simp)).trans (by simp)
  have c2 : w1.cell? ⟨w.heap.size, 2, none⟩ = some (.string s) := (hb1.cell (p := ⟨w.heap.size, 2, none⟩) (by simp)).trans (by simp)
  have hB1 : Below w.heap.size w w1 := (wt3_below w k n s).trans (hb1.mono (by simp))
  have hS1 : SC w k s w1 := ⟨c0, c2, by have := hb1.size; simp at this; omega, hB1⟩
  have HS1 : Hid (SC w k s w1) := hS1
  clear hb1 hS1
  go_wp2_with fail
  refine (HN.out _).mono ?_
  rintro e w2 ⟨rfl, hb2⟩
  have hS2 := SC_call hb2 HS1.out
  have d0 := hS2.1
  clear hb2 c0 c2 hB1 HS1 HN
  go_wp2_with fail
  go_region_held3 (fun w' => SC w k s w') (first | assumption | exact SC_call (by assumption) (by assumption) | exact SC_drew (by assumption))
    ((go_at_call 33; refine (HM.out _).mono ?_; rintro e w' ⟨rfl, hb⟩))
  all_goals
    rename_i hS3
    have hB3 := hS3.2.2.2
    clear hS3 hS2
    go_wp2
    go_ret
    exact ⟨rfl, hB3⟩
theorem refText_any (k n : Int) (s : ByteArray) (w : World) (hs : s.size ≤ 140737488355328) :
    Calls Tryz.prog 14 #[vv k n s] w fun e w' => e = .returned (.string (txtV k n s)) ∧ Below w.heap.size w w' := by
  unfold txtV
  by_cases h : chkV k n s = true
  · rw [if_pos h]
    obtain ⟨k1, k4, _, _, _⟩ := chk_rng h
    obtain rfl | rfl | rfl | rfl : k = 1 ∨ k = 2 ∨ k = 3 ∨ k = 4 := by omega
    · exact refText_1 n s w hs h
    · exact refText_24 2 n s w (.inl rfl) hs h
    · exact refText_3 n s w hs h
    · exact refText_24 4 n s w (.inr rfl) hs h
  · rw [if_neg h]; exact refText_0 k n s w hs (by simpa using h)
end Go.Proofs.YthkboelloejejaaGreatDoor
