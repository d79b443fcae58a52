/- ValueShows: for every value the law returns true. -/
import Derived.Test.YthkboelloejejaaGreatDoorWJ
import Derived.Test.YthkboelloejejaaGreatDoorWK
import Derived.Deep.RegionHeld3
namespace Go.Proofs.YthkboelloejejaaGreatDoor
open Go.RowKit

theorem fewS_any (s : ByteArray) (w : World) : Calls Tryz.prog 8 #[.string s] w fun e w' => e = .returned (.bool (decide (s.size ≤ 2000))) ∧ w' = w := by
  by_cases h : s.size ≤ 2000
  · have h' : decide ((s.size : Int) ≤ 2000) = true := by simp; omega
    rw [decide_eq_true h]
    go_enter Tryz.func8, Tryz.ntmps8
    go_wp2
    go_ret
    exact ⟨rfl, rfl⟩
  · have h' : decide ((s.size : Int) ≤ 2000) = false := by simp; omega
    rw [decide_eq_false h]
    go_enter Tryz.func8, Tryz.ntmps8
    go_wp2
    go_ret
    exact ⟨rfl, rfl⟩
/-- What the walk asks of the world. -/
structure VT2 (w : World) : Prop where
  v : VT w
  p : P10 w
  q : Q.Tab w
theorem VT2.below {w w' : World} (h : VT2 w) (hb : Below w.heap.size w w') : VT2 w' := ⟨h.v.below hb, P10_below h.p hb, h.q.below hb h.q.size⟩
theorem S9_vt {w0 W : World} {k n : Int} {s : ByteArray} (hv : VT2 w0) (h : S9 w0 k n s W) : VT2 W := hv.below h.2.2.2.2
abbrev v3c (k n : Int) (s : ByteArray) : Obj := .cells #[.int .i64 k, .int .i64 n, .string s] 23
theorem S9_start (w : World) (k n : Int) (s : ByteArray) : S9 w k n s (w.alloc (v3c k n s)) :=
  ⟨by simp [v3c], by simp [v3c], by simp [v3c], by simp [v3c], (Below.refl _ _).alloc (Nat.le_refl _) _⟩

set_option maxRecDepth 100000 in
set_option maxHeartbeats 8000000 in
theorem shows_few (k n : Int) (s : ByteArray) (w : World) (h1 : s.size ≤ 2000) (h : VT2 w) :
    Calls Tryz.prog 3 #[vv k n s] w fun e w' => e = .returned (.bool true) ∧ Below w.heap.size w w' := by
  have g1 : decide (s.size ≤ 2000) = true := by simpa using h1
  have hS := S9_start w k n s
  have hs1 : s.size ≤ 140737488355328 := by omega
  have hz1 : ((shwV k n s).toList == (shwV k n s).toList) = true := beq_self_eq_true _
  have hz2 : ((txtV k n s).toList == (txtV k n s).toList) = true := beq_self_eq_true _
  go_enter Tryz.func3, Tryz.ntmps3
  go_wp2_with fail
  refine (fewS_any _ _).mono ?_
  rintro e0 w0 ⟨rfl, rfl⟩
  rw [g1]
  go_wp2_with fail
  generalize w.alloc (v3c k n s) = W at *
  go_region_held3 (fun w' => S9 w k n s w') (first | assumption | exact S9_call (by assumption) (by assumption) | exact S9_drew (by assumption))
    (first
      | (go_at_call 9; refine (awake_any _ ?_).mono ?_; exact (S9_vt h (by assumption)).v; rintro e w' ⟨rfl, hb⟩)
      | (go_at_call 10; refine (show_any _ _ _ _ ?_ ?_ ?_ ?_).mono ?_; exact hs1; exact (S9_vt h (by assumption)).v.u; exact (S9_vt h (by assumption)).v.t; exact (S9_vt h (by assumption)).p; rintro e w' ⟨rfl, hb⟩)
      | (go_at_call 12; refine (ref_any _ _ _ _).mono ?_; rintro e w' ⟨rfl, hb⟩)
      | (go_at_call 11; refine (refShow_any _ _ _ _ ?_).mono ?_; exact hs1; rintro e w' ⟨rfl, hb⟩)
      | (go_at_call 13; refine (text_any _ _ _ _ ?_ ?_ ?_).mono ?_; exact hs1; exact (S9_vt h (by assumption)).v.u; exact (S9_vt h (by assumption)).q; rintro e w' ⟨rfl, hb⟩)
      | (go_at_call 14; refine (refText_any _ _ _ _ ?_).mono ?_; exact hs1; rintro e w' ⟨rfl, hb⟩))
  rename_i hS3
  have hB3 := hS3.2.2.2.2
  clear hS3 hS
  go_wp2
  go_ret
  exact ⟨rfl, hB3⟩
set_option maxRecDepth 100000 in
set_option maxHeartbeats 1000000 in
theorem valueShows_walk (k n : Int) (s : ByteArray) (w : World) (h : VT2 w) :
    Calls Tryz.prog 3 #[vv k n s] w fun e w' => e = .returned (.bool true) ∧ Below w.heap.size w w' := by
  by_cases h1 : s.size ≤ 2000
  · exact shows_few k n s w h1 h
  · have g1 : decide (s.size ≤ 2000) = false := by simpa using h1
    have hB := (S9_start w k n s).2.2.2.2
    have HA : Hid (Calls Tryz.prog 9 #[] (w.alloc (v3c k n s)) fun e w' => e = .returned (.bool true) ∧ Below (w.alloc (v3c k n s)).heap.size (w.alloc (v3c k n s)) w') := awake_any _ (h.v.below hB)
    go_enter Tryz.func3, Tryz.ntmps3
    go_wp2_with (first | (go_at_call 8; refine (fewS_any _ _).mono ?_; rintro e w' ⟨rfl, rfl⟩; rw [g1]) | (go_at_call 9; refine Calls.mono HA.out ?_; rintro e w4 ⟨rfl, hb4⟩))
    go_ret
    exact ⟨rfl, hB.trans (hb4.mono hB.size)⟩
end Go.Proofs.YthkboelloejejaaGreatDoor
