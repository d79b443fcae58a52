/- ValueFrom: for every int, text and bytes the law returns true. -/
import Derived.Test.YtbnecokbbmlekaaDoorVR
import Derived.Test.YtbnecokbbmlekaaDoorVS
namespace Go.Proofs.YtbnecokbbmlekaaDoor
open Go.RowKit

theorem Three.below {b : Nat} {W w' : World} {x y z : Value} (h : Three b W x y z) (hb : Below W.heap.size W w') : Three b w' x y z := by
  have hlt : b < W.heap.size := World.block_lt_of_cell? _ _ h.c0
  exact ⟨(hb.cell (p := ⟨b, 0, none⟩) hlt).trans h.c0, (hb.cell (p := ⟨b, 1, none⟩) hlt).trans h.c1, (hb.cell (p := ⟨b, 2, none⟩) hlt).trans h.c2⟩
/-- What From answers: its value and its error. -/
structure Ans where
  k : Int
  n : Int
  s : ByteArray
  e : Int
def fv (k n : Int) (s : ByteArray) : Ans := if chkV k n s = true then ⟨k, n, s, 0⟩ else ⟨0, 0, ⟨#[]⟩, 1⟩
theorem fromV_fv {k n : Int} {s : ByteArray} (h : k ≠ 0) : fromV k n s = .tuple #[vv (fv k n s).k (fv k n s).n (fv k n s).s, .int .i64 (fv k n s).e] := by
  unfold fromV fv
  rw [if_neg h]
  split <;> rfl
set_option maxRecDepth 100000 in
set_option maxHeartbeats 1000000 in
theorem taken_any (k n : Int) (s : ByteArray) (w : World) (hs : s.size ≤ 140737488355328) :
    Calls Tryd.prog 11 #[vv (fv k n s).k (fv k n s).n (fv k n s).s, .int .i64 (fv k n s).e, vv k n s] w fun e w' => e = .returned (.bool true) ∧ Below w.heap.size w w' := by
  by_cases hc : chkV k n s = true
  · rw [show fv k n s = ⟨k, n, s, 0⟩ from if_pos hc]
    have hA : Below w.heap.size w ((w.alloc (vcells k n s)).alloc (vcells k n s)) := ((Below.refl _ _).alloc (Nat.le_refl _) _).alloc (by simp) _
    have hsz : ((w.alloc (vcells k n s)).alloc (vcells k n s)).heap.size = w.heap.size + 1 + 1 := by simp [vcells]
    have t1 : Three w.heap.size ((w.alloc (vcells k n s)).alloc (vcells k n s)) (.int .i64 k) (.int .i64 n) (.string s) := (Three.new w k n s).alloc _
    have t2 : Three (w.heap.size + 1) ((w.alloc (vcells k n s)).alloc (vcells k n s)) (.int .i64 k) (.int .i64 n) (.string s) := by
      have := Three.new (w.alloc (vcells k n s)) k n s
      rw [show (w.alloc (vcells k n s)).heap.size = w.heap.size + 1 by simp [vcells]] at this
      exact this
    go_enter Tryd.func11, Tryd.ntmps11
    go_wp2_with fail
    generalize ((w.alloc (vcells k n s)).alloc (vcells k n s)) = W at *
    refine (ref_any k n s _).mono ?_
    rintro e w1 ⟨rfl, hb1⟩
    have t1 := t1.below hb1
    have t2 := t2.below hb1
    have hB1 := hA.trans (hb1.mono (by omega))
    have hs1 := hb1.size
    clear hb1
    go_wp2_with fail
    refine (refCheck_any k n s _ hs).mono ?_
    rintro e w2 ⟨rfl, hb2⟩
    rw [hc]
    obtain ⟨c0, c1, c2⟩ := t1.below hb2
    obtain ⟨d0, d1, d2⟩ := t2.below hb2
    have hB2 : Hid (Below w.heap.size w w2) := hB1.trans (hb2.mono (by omega))
    clear hb2 hB1 t1 t2
    go_wp2
    go_ret
    exact ⟨rfl, hB2.out⟩
  · have hc' : chkV k n s = false := by simpa using hc
    rw [show fv k n s = ⟨0, 0, ⟨#[]⟩, 1⟩ from if_neg hc]
    have hA : Below w.heap.size w ((wv w).alloc (vcells k n s)) := ((Below.refl _ _).alloc (Nat.le_refl _) _).alloc (by simp) _
    have hsz : ((wv w).alloc (vcells k n s)).heap.size = w.heap.size + 1 + 1 := by simp [vcells]
    have t1 : Three w.heap.size ((wv w).alloc (vcells k n s)) (.int .i64 0) (.int .i64 0) (.string ⟨#[]⟩) := (Three.new w 0 0 ⟨#[]⟩).alloc _
    have t2 : Three (w.heap.size + 1) ((wv w).alloc (vcells k n s)) (.int .i64 k) (.int .i64 n) (.string s) := by
      have := Three.new (wv w) k n s
      rw [wv_size] at this
      exact this
    go_enter Tryd.func11, Tryd.ntmps11
    go_wp2_with fail
    generalize ((wv w).alloc (vcells k n s)) = W at *
    refine (ref_any k n s _).mono ?_
    rintro e w1 ⟨rfl, hb1⟩
    have t1 := t1.below hb1
    have t2 := t2.below hb1
    have hB1 := hA.trans (hb1.mono (by omega))
    have hs1 := hb1.size
    clear hb1
    go_wp2_with fail
    refine (refCheck_any k n s _ hs).mono ?_
    rintro e w2 ⟨rfl, hb2⟩
    rw [hc']
    obtain ⟨c0, c1, c2⟩ := t1.below hb2
    have hB2 : Hid (Below w.heap.size w w2) := hB1.trans (hb2.mono (by omega))
    clear hb2 hB1 t1 t2
    go_wp2
    go_ret
    exact ⟨rfl, hB2.out⟩
end Go.Proofs.YtbnecokbbmlekaaDoor
