/- ValueReads: for every text the law returns true. -/
import Derived.Test.YthkboelloejejaaGreatDoorVZt
namespace Go.Proofs.YthkboelloejejaaGreatDoor
open Go.RowKit

theorem few3_any (s : ByteArray) (w : World) : Calls Tryz.prog 8 #[.string s] w fun e w' => e = .returned (.bool (decide (s.size ≤ 2000))) ∧ w' = w := by
  by_cases h : s.size ≤ 2000
  · have h' : decide ((s.size : Int) ≤ 2000) = true := by simp; omega
    rw [decide_eq_true h]
    go_enter Tryz.func8, Tryz.ntmps8
    go_wp2
    go_ret
    exact ⟨rfl, rfl⟩
  · have h' : decide ((s.size : Int) ≤ 2000) = false := by simp; omega
    rw [decide_eq_false h]
    go_enter Tryz.func8, Tryz.ntmps8
    go_wp2
    go_ret
    exact ⟨rfl, rfl⟩
/-- A value and a reading that lie in two blocks, and what was there before. -/
abbrev S8 (w0 : World) (b1 b2 : Nat) (k n : Int) (t r : ByteArray) (e : Int) (w : World) : Prop :=
  w.cell? ⟨b1, 0, none⟩ = some (.int .i64 k) ∧ w.cell? ⟨b1, 1, none⟩ = some (.int .i64 n) ∧ w.cell? ⟨b1, 2, none⟩ = some (.string t) ∧
  w.cell? ⟨b2, 0, none⟩ = some (.int .i64 k) ∧ w.cell? ⟨b2, 1, none⟩ = some (.int .i64 n) ∧ w.cell? ⟨b2, 2, none⟩ = some (.string t) ∧ w.cell? ⟨b2, 3, none⟩ = some (.string r) ∧ w.cell? ⟨b2, 4, none⟩ = some (.int .i64 e) ∧
  b1 < w.heap.size ∧ b2 < w.heap.size ∧ Below w0.heap.size w0 w
theorem S8_call {w0 W w' : World} {b1 b2 : Nat} {k n : Int} {t r : ByteArray} {e : Int} (hb : Below W.heap.size W w') (h : S8 w0 b1 b2 k n t r e W) : S8 w0 b1 b2 k n t r e w' := by
  obtain ⟨a0, a1, a2, d0, d1, d2, d3, d4, l1, l2, hB⟩ := h
  exact ⟨(hb.cell (p := ⟨b1, 0, none⟩) l1).trans a0, (hb.cell (p := ⟨b1, 1, none⟩) l1).trans a1, (hb.cell (p := ⟨b1, 2, none⟩) l1).trans a2,
    (hb.cell (p := ⟨b2, 0, none⟩) l2).trans d0, (hb.cell (p := ⟨b2, 1, none⟩) l2).trans d1, (hb.cell (p := ⟨b2, 2, none⟩) l2).trans d2, (hb.cell (p := ⟨b2, 3, none⟩) l2).trans d3, (hb.cell (p := ⟨b2, 4, none⟩) l2).trans d4,
    Nat.lt_of_lt_of_le l1 hb.size, Nat.lt_of_lt_of_le l2 hb.size, hB.trans (hb.mono hB.size)⟩
theorem S8_drew {w0 W : World} {b1 b2 : Nat} {k n : Int} {t r : ByteArray} {e : Int} (h : S8 w0 b1 b2 k n t r e W) : S8 w0 b1 b2 k n t r e W.drew := by
  obtain ⟨a0, a1, a2, d0, d1, d2, d3, d4, l1, l2, hB⟩ := h
  exact ⟨a0, a1, a2, d0, d1, d2, d3, d4, l1, l2, hB.drew⟩
theorem S8_vt {w0 W : World} {b1 b2 : Nat} {k n : Int} {t r : ByteArray} {e : Int} (hv : VT w0) (h : S8 w0 b1 b2 k n t r e W) : VT W := hv.below h.2.2.2.2.2.2.2.2.2.2
abbrev v3cells (k n : Int) (s : ByteArray) : Obj := .cells #[.int .i64 k, .int .i64 n, .string s] 23
abbrev v5cells (k n : Int) (s r : ByteArray) (e : Int) : Obj := .cells #[.int .i64 k, .int .i64 n, .string s, .string r, .int .i64 e] 35
theorem S8_start {w w1 w2 : World} (k n : Int) (t r : ByteArray) (e : Int) (hb1 : Below w.heap.size w w1) (hb2 : Below (w1.alloc (v3cells k n t)).heap.size (w1.alloc (v3cells k n t)) w2) :
    S8 w w1.heap.size w2.heap.size k n t r e (w2.alloc (v5cells k n t r e)) := by
  have z1 : (w1.alloc (v3cells k n t)).heap.size = w1.heap.size + 1 := by simp [v3cells]
  have l1 : w1.heap.size < (w1.alloc (v3cells k n t)).heap.size := by omega
  have l2 : w1.heap.size < w2.heap.size := Nat.lt_of_lt_of_le l1 hb2.size
  have A := (Below.refl w2.heap.size w2).alloc (Nat.le_refl _) (v5cells k n t r e)
  have e0 : ∀ j, (w2.alloc (v5cells k n t r e)).cell? ⟨w1.heap.size, j, none⟩ = #[Value.int .i64 k, .int .i64 n, .string t][j]? := fun j =>
    (A.cell (p := ⟨w1.heap.size, j, none⟩) l2).trans ((hb2.cell (p := ⟨w1.heap.size, j, none⟩) l1).trans (by simp [v3cells]))
  have e1 : ∀ j, (w2.alloc (v5cells k n t r e)).cell? ⟨w2.heap.size, j, none⟩ = #[Value.int .i64 k, .int .i64 n, .string t, .string r, .int .i64 e][j]? := fun j => by simp [v5cells]
  have z2 : (w2.alloc (v5cells k n t r e)).heap.size = w2.heap.size + 1 := by simp [v5cells]
  have hs1 := hb1.size
  refine ⟨e0 0, e0 1, e0 2, e1 0, e1 1, e1 2, e1 3, e1 4, by omega, by omega, ?_⟩
  exact ((hb1.alloc hs1 _).trans (hb2.mono (by omega))).alloc (by omega) _

set_option maxRecDepth 100000 in
set_option maxHeartbeats 8000000 in
theorem reads_few (s : ByteArray) (w : World) (h1 : s.size ≤ 2000) (h : VT w) :
    Calls Tryz.prog 5 #[.string s] w fun e w' => e = .returned (.bool true) ∧ Below w.heap.size w w' := by
  have g1 : decide (s.size ≤ 2000) = true := by simpa using h1
  have hr1 := fun w => read_any s w (by omega)
  have hr2 := fun w => refRead_any s w (by omega)
  generalize rd s = x at *
  obtain ⟨k, n, t, r, e⟩ := x
  have HR : Hid (∀ w, UT w → Calls Tryz.prog 19 #[.string s] w fun e0 w' => e0 = .returned (.tuple #[vv k n t, .string r, .int .i64 e]) ∧ Below w.heap.size w w') := hr1
  have HF : Hid (∀ w, Calls Tryz.prog 20 #[.string s] w fun e0 w' => e0 = .returned (vs k n t r e) ∧ Below w.heap.size w w') := hr2
  clear hr1 hr2
  go_enter Tryz.func5, Tryz.ntmps5
  go_wp2_with fail
  refine (few3_any _ _).mono ?_
  rintro e0 w0 ⟨rfl, rfl⟩
  rw [g1]
  go_wp2_with fail
  refine (HR.out _ h.u).mono ?_
  rintro e0 w1 ⟨rfl, hb1⟩
  go_wp2_with fail
  refine (HF.out _).mono ?_
  rintro e0 w2 ⟨rfl, hb2⟩
  have hS := S8_start k n t r e hb1 hb2
  clear hb1 hb2 HR HF
  go_wp2_with fail
  generalize w2.alloc (v5cells k n t r e) = W at *
  generalize w1.heap.size = b1 at *
  generalize w2.heap.size = b2 at *
  go_region_held3 (fun w' => S8 w0 b1 b2 k n t r e w') (first | assumption | exact S8_call (by assumption) (by assumption) | exact S8_drew (by assumption))
    (first
      | (go_at_call 9; refine (awake_any _ ?_).mono ?_; exact S8_vt h (by assumption); rintro e0 w' ⟨rfl, hb⟩)
      | (go_at_call 12; refine (ref_any _ _ _ _).mono ?_; rintro e0 w' ⟨rfl, hb⟩))
  rename_i hS3
  have hB3 := hS3.2.2.2.2.2.2.2.2.2.2
  clear hS3 hS
  go_wp2
  go_ret
  exact ⟨rfl, hB3⟩
set_option maxRecDepth 100000 in
set_option maxHeartbeats 1000000 in
theorem valueReads_walk (s : ByteArray) (w : World) (_hs : s.size ≤ 140737488355328) (h : VT w) :
    Calls Tryz.prog 5 #[.string s] w fun e w' => e = .returned (.bool true) ∧ Below w.heap.size w w' := by
  by_cases h1 : s.size ≤ 2000
  · exact reads_few s w h1 h
  · have g1 : decide (s.size ≤ 2000) = false := by simpa using h1
    go_enter Tryz.func5, Tryz.ntmps5
    go_wp2_with fail
    refine (few3_any _ _).mono ?_
    rintro e0 w0 ⟨rfl, rfl⟩
    rw [g1]
    go_wp2_with fail
    refine (awake_any _ h).mono ?_
    rintro e0 w1 ⟨rfl, hb1⟩
    go_wp2
    go_ret
    exact ⟨rfl, hb1⟩
end Go.Proofs.YthkboelloejejaaGreatDoor
