/- value.Text of any value: its walk. -/
import Derived.Test.YtdendpckihckeaaGreatDoorVTx
namespace Go.Proofs.YtdendpckihckeaaGreatDoor
open Go.RowKit

/-- A value that lies in a block, and what was there before. -/
abbrev S9 (w0 : World) (k n : Int) (s : ByteArray) (w : World) : Prop :=
  w.cell? ⟨w0.heap.size, 0, none⟩ = some (.int .i64 k) ∧ w.cell? ⟨w0.heap.size, 1, none⟩ = some (.int .i64 n) ∧ w.cell? ⟨w0.heap.size, 2, none⟩ = some (.string s) ∧ w0.heap.size < w.heap.size ∧ Below w0.heap.size w0 w
theorem S9_call {w0 W w' : World} {k n : Int} {s : ByteArray} (hb : Below W.heap.size W w') (h : S9 w0 k n s W) : S9 w0 k n s w' := by
  obtain ⟨a0, a1, a2, l1, hB⟩ := h
  exact ⟨(hb.cell (p := ⟨w0.heap.size, 0, none⟩) l1).trans a0, (hb.cell (p := ⟨w0.heap.size, 1, none⟩) l1).trans a1, (hb.cell (p := ⟨w0.heap.size, 2, none⟩) l1).trans a2, Nat.lt_of_lt_of_le l1 hb.size, hB.trans (hb.mono hB.size)⟩
theorem S9_drew {w0 W : World} {k n : Int} {s : ByteArray} (h : S9 w0 k n s W) : S9 w0 k n s W.drew := by
  obtain ⟨a0, a1, a2, l1, hB⟩ := h
  exact ⟨a0, a1, a2, l1, hB.drew⟩
theorem S9_alloc {w0 W : World} {k n : Int} {s : ByteArray} (o : Obj) (h : S9 w0 k n s W) : S9 w0 k n s (W.alloc o) := S9_call ((Below.refl _ _).alloc (Nat.le_refl _) o) h
theorem S9_tab {w0 W : World} {k n : Int} {s : ByteArray} (hT : Q.Tab w0) (h : S9 w0 k n s W) : Q.Tab W := hT.below h.2.2.2.2 hT.size

set_option maxRecDepth 100000 in
set_option maxHeartbeats 4000000 in
theorem text_ok (k n : Int) (s : ByteArray) (w : World) (hs : s.size ≤ 140737488355328) (hU : UT w) (hT : Q.Tab w) (h : chkV k n s = true) :
    Calls Tryz.prog 17 #[vv k n s] w fun e w' => e = .returned (.string (txt k n s)) ∧ Below w.heap.size w w' := by
  have HC : Hid (chkV k n s = true) := h
  have hA : Below w.heap.size w (w.alloc (.cells #[.int .i64 k, .int .i64 n, .string s] 25)) := (Below.refl _ _).alloc (Nat.le_refl _) _
  clear h
  go_enter Tryz.func17, Tryz.ntmps17
  go_wp2_with fail
  refine (check_any _ _ _ _ hs (Utf8Tabs_below hU hA)).mono ?_
  rintro e w1 ⟨rfl, hb1⟩
  rw [HC.out]
  have c0 : w1.cell? ⟨w.heap.size, 0, none⟩ = some (.int .i64 k) := (hb1.cell (p := ⟨w.heap.size, 0, none⟩) (by simp)).trans (by simp)
  have c1 : w1.cell? ⟨w.heap.size, 1, none⟩ = some (.int .i64 n) := (hb1.cell (p := ⟨w.heap.size, 1, none⟩) (by simp)).trans (by simp)
  have c2 : w1.cell? ⟨w.heap.size, 2, none⟩ = some (.string s) := (hb1.cell (p := ⟨w.heap.size, 2, none⟩) (by simp)).trans (by simp)
  have hB1 : Below w.heap.size w w1 := hA.trans (hb1.mono (by simp))
  have hS : S9 w k n s w1 := ⟨c0, c1, c2, by have := hb1.size; simp at this; omega, hB1⟩
  clear hb1 hA hU c0 c1 c2 hB1
  go_wp2_with fail
  go_region_held3 (fun w' => S9 w k n s w') (first | assumption | exact S9_call (by assumption) (by assumption) | exact S9_drew (by assumption) | exact S9_alloc _ (by assumption) | exact S9_drew (S9_alloc _ (by assumption)) | exact S9_alloc _ (S9_drew (by assumption)))
    (first
      | (go_at_call 43; refine (itemOf_any _ _).mono ?_; rintro e w' ⟨rfl, rfl⟩)
      | (go_at_call 42; refine (put_2 k n s 65 _ hs (S9_tab hT (by assumption)) HC.out).mono ?_; rintro e w' ⟨rfl, hb⟩)
      | (go_at_call 42; refine (put_2n k n s 65 _ _ (by simp) hs (S9_tab hT (by assumption)) HC.out).mono ?_; rintro e w' ⟨rfl, hb⟩))
  rename_i hS3
  have hB3 := hS3.2.2.2.2
  clear hS3 hS
  go_wp2
  go_ret
  exact ⟨rfl, hB3⟩

set_option maxRecDepth 100000 in
theorem text_no (k n : Int) (s : ByteArray) (w : World) (hs : s.size ≤ 140737488355328) (hU : UT w) (h : chkV k n s = false) :
    Calls Tryz.prog 17 #[vv k n s] w fun e w' => e = .returned (.string ⟨#[]⟩) ∧ Below w.heap.size w w' := by
  have HC : Hid (chkV k n s = false) := h
  have hA : Below w.heap.size w (w.alloc (.cells #[.int .i64 k, .int .i64 n, .string s] 25)) := (Below.refl _ _).alloc (Nat.le_refl _) _
  clear h
  go_enter Tryz.func17, Tryz.ntmps17
  go_wp2_with fail
  refine (check_any _ _ _ _ hs (Utf8Tabs_below hU hA)).mono ?_
  rintro e w1 ⟨rfl, hb1⟩
  rw [HC.out]
  have hB1 : Below w.heap.size w w1 := hA.trans (hb1.mono (by simp))
  clear hb1 hA
  go_wp2
  go_ret
  exact ⟨rfl, hB1⟩
/-- A value's bytes, or none. -/
def txtV (k n : Int) (s : ByteArray) : ByteArray := if chkV k n s = true then txt k n s else ⟨#[]⟩
theorem text_any (k n : Int) (s : ByteArray) (w : World) (hs : s.size ≤ 140737488355328) (hU : UT w) (hT : Q.Tab w) :
    Calls Tryz.prog 17 #[vv k n s] w fun e w' => e = .returned (.string (txtV k n s)) ∧ Below w.heap.size w w' := by
  unfold txtV
  by_cases h : chkV k n s = true
  · rw [if_pos h]; exact text_ok k n s w hs hU hT h
  · rw [if_neg h]; exact text_no k n s w hs hU (by simpa using h)
end Go.Proofs.YtdendpckihckeaaGreatDoor
