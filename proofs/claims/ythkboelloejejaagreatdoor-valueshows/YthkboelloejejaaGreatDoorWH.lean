/- The reference's Show of any value: its walk. -/
import Derived.Test.YthkboelloejejaaGreatDoorWD
import Derived.Test.YthkboelloejejaaGreatDoorWE
import Derived.Test.YthkboelloejejaaGreatDoorWG
namespace Go.Proofs.YthkboelloejejaaGreatDoor
open Go.RowKit

abbrev wr3 (w : World) (k n : Int) (s : ByteArray) : World := w.alloc (.cells #[.int .i64 k, .int .i64 n, .string s] 28)
theorem wr3_below (w : World) (k n : Int) (s : ByteArray) : Below w.heap.size w (wr3 w k n s) := (Below.refl _ _).alloc (Nat.le_refl _) _
theorem neg_itoa {n : Int} (h : n < 0) : (⟨#[45]⟩ : ByteArray) ++ str (Lib.decDigits n.natAbs) = str (Lib.itoa n) := by
  rw [Lib.itoa, if_pos h]
  refine ba_eq ?_
  rw [ba_append, str_data, str_data]
  rfl

set_option maxRecDepth 100000 in
set_option maxHeartbeats 4000000 in
theorem refShow_1 (n : Int) (s : ByteArray) (w : World) (hs : s.size ≤ 140737488355328) (h : chkV 1 n s = true) :
    Calls Tryz.prog 11 #[vv 1 n s] w fun e w' => e = .returned (.string (str (Lib.itoa n))) ∧ Below w.heap.size w w' := by
  obtain ⟨_, _, n1, n2, hz⟩ := chk_rng h
  have HC : Hid (chkV 1 n s = true) := h
  clear h
  by_cases hn : n < 0
  · have hd : decide (n < 0) = true := by simpa using hn
    have HI : Hid (∀ w : World, Calls Tryz.prog 27 #[.int .i64 (-n)] w fun e w' => e = .returned (.string (str (Lib.decDigits n.natAbs))) ∧ Below w.heap.size w w') := fun w => by
      rw [show -n = (n.natAbs : Int) by omega]
      exact refDigits_any n.natAbs w (by omega)
    have hsz : (str (Lib.decDigits n.natAbs)).size ≤ 16 := dec_size (by omega)
    rw [← neg_itoa hn]
    generalize str (Lib.decDigits n.natAbs) = X at *
    go_enter Tryz.func11, Tryz.ntmps11
    go_wp2_with fail
    refine (refCheck_any _ _ _ _ hs).mono ?_
    rintro e w1 ⟨rfl, hb1⟩
    rw [HC.out]
    have c0 : w1.cell? ⟨w.heap.size, 0, none⟩ = some (.int .i64 1) := (hb1.cell (p := ⟨w.heap.size, 0, none⟩) (by simp)).trans (by simp)
    have c1 : w1.cell? ⟨w.heap.size, 1, none⟩ = some (.int .i64 n) := (hb1.cell (p := ⟨w.heap.size, 1, none⟩) (by simp)).trans (by simp)
    have hB1 : Below w.heap.size w w1 := (wr3_below w 1 n s).trans (hb1.mono (by simp))
    clear hb1
    go_wp2_with fail
    refine (HI.out _).mono ?_
    rintro e w2 ⟨rfl, hb2⟩
    have hB2 := hB1.trans (hb2.mono hB1.size)
    clear hb2
    go_wp2
    go_ret
    exact ⟨rfl, hB2⟩
  · have hd : decide (n < 0) = false := by simpa using hn
    have HI : Hid (∀ w : World, Calls Tryz.prog 27 #[.int .i64 n] w fun e w' => e = .returned (.string (str (Lib.itoa n))) ∧ Below w.heap.size w w') := fun w => by
      have := refDigits_any n.toNat w (by omega)
      rw [show ((n.toNat : Nat) : Int) = n by omega] at this
      rw [Lib.itoa, if_neg hn]
      exact this
    generalize str (Lib.itoa n) = X at *
    go_enter Tryz.func11, Tryz.ntmps11
    go_wp2_with fail
    refine (refCheck_any _ _ _ _ hs).mono ?_
    rintro e w1 ⟨rfl, hb1⟩
    rw [HC.out]
    have c0 : w1.cell? ⟨w.heap.size, 0, none⟩ = some (.int .i64 1) := (hb1.cell (p := ⟨w.heap.size, 0, none⟩) (by simp)).trans (by simp)
    have c1 : w1.cell? ⟨w.heap.size, 1, none⟩ = some (.int .i64 n) := (hb1.cell (p := ⟨w.heap.size, 1, none⟩) (by simp)).trans (by simp)
    have hB1 : Below w.heap.size w w1 := (wr3_below w 1 n s).trans (hb1.mono (by simp))
    clear hb1
    go_wp2_with fail
    refine (HI.out _).mono ?_
    rintro e w2 ⟨rfl, hb2⟩
    have hB2 := hB1.trans (hb2.mono hB1.size)
    clear hb2
    go_wp2
    go_ret
    exact ⟨rfl, hB2⟩

set_option maxRecDepth 100000 in
set_option maxHeartbeats 4000000 in
theorem refShow_3 (n : Int) (s : ByteArray) (w : World) (hs : s.size ≤ 140737488355328) (h : chkV 3 n s = true) :
    Calls Tryz.prog 11 #[vv 3 n s] w fun e w' => e = .returned (.string (if (n == 1) = true then ⟨#[116, 114, 117, 101]⟩ else ⟨#[102, 97, 108, 115, 101]⟩)) ∧ Below w.heap.size w w' := by
  have HC : Hid (chkV 3 n s = true) := h
  clear h
  obtain ⟨B, hB⟩ : ∃ B, (n == 1) = B := ⟨_, rfl⟩
  rw [hB]
  cases B
  all_goals
    go_enter Tryz.func11, Tryz.ntmps11
    go_wp2_with fail
    refine (refCheck_any _ _ _ _ hs).mono ?_
    rintro e w1 ⟨rfl, hb1⟩
    rw [HC.out]
    have c0 : w1.cell? ⟨w.heap.size, 0, none⟩ = some (.int .i64 3) := (hb1.cell (p := ⟨w.heap.size, 0, none⟩) (by simp)).trans (by simp)
    have c1 : w1.cell? ⟨w.heap.size, 1, none⟩ = some (.int .i64 n) := (hb1.cell (p := ⟨w.heap.size, 1, none⟩) (by simp)).trans (by simp)
    have hB1 : Below w.heap.size w w1 := (wr3_below w 3 n s).trans (hb1.mono (by simp))
    clear hb1
    go_wp2
    go_ret
    exact ⟨rfl, hB1⟩

set_option maxRecDepth 100000 in
set_option maxHeartbeats 4000000 in
theorem refShow_0 (k n : Int) (s : ByteArray) (w : World) (hs : s.size ≤ 140737488355328) (h : chkV k n s = false) :
    Calls Tryz.prog 11 #[vv k n s] w fun e w' => e = .returned (.string ⟨#[]⟩) ∧ Below w.heap.size w w' := by
  have HC : Hid (chkV k n s = false) := h
  clear h
  go_enter Tryz.func11, Tryz.ntmps11
  go_wp2_with fail
  refine (refCheck_any _ _ _ _ hs).mono ?_
  rintro e w1 ⟨rfl, hb1⟩
  rw [HC.out]
  have hB1 : Below w.heap.size w w1 := (wr3_below w k n s).trans (hb1.mono (by simp))
  clear hb1
  go_wp2
  go_ret
  exact ⟨rfl, hB1⟩
end Go.Proofs.YthkboelloejejaaGreatDoor
