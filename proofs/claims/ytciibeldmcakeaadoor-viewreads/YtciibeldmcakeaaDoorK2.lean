/- The reference's Get at every text. -/
import Derived.Test.YtciibeldmcakeaaDoorK
import Derived.Test.YtciibeldmcakeaaDoorM3
namespace Go.Proofs.YtciibeldmcakeaaDoor.Q
open Go.RowKit


/-- The reference's Get, at every text. -/
theorem refGet_any (s : ByteArray) (w : World) (hs : s.size ≤ 140737488355328) :
    Calls Tryd.prog 47 #[.string s] w fun e w' => e = .returned (.agg #[.int .i64 (getV s), .string ⟨#[]⟩, .string (getRest s), .int .i64 (getE s)]) ∧ Below w.heap.size w w' := by
  by_cases h0 : s.size = 0
  · have e1 : getE s = 7 := by unfold getE; rw [if_pos (by have := gsz_pos s; omega)]
    have e2 : getV s = 0 := by unfold getV; rw [if_neg (by omega)]
    have e3 : getRest s = ⟨#[]⟩ := by unfold getRest; rw [if_neg (by omega)]
    rw [e1, e2, e3]
    exact refGet_none s w h0
  have hb := bt_rng s 0
  have hb0 := bt_eq (s := s) (i := 0) (by omega)
  by_cases c1 : bt s 0 < 64
  · have g1 : gsz s = 1 := by unfold gsz; rw [if_pos (by omega)]
    have g2 : gval s = bt s 0 % 64 := by unfold gval; rw [if_pos (by omega)]; skip
    have hlen : 1 ≤ s.size := by omega
    have hf := num_front s (by omega)
    rw [g1] at hf
    by_cases hq : qsize (gval s) = 1
    · have e1 : getE s = 0 := by unfold getE; rw [g1, if_neg (by omega), if_pos (by exact_mod_cast hq)]
      have e2 : getV s = gval s := by unfold getV; rw [if_pos e1]
      have e3 : getRest s = s.extract 1 s.size := by unfold getRest; rw [if_pos e1, g1]
      rw [e1, e2, e3]
      rw [decide_eq_true (by exact_mod_cast hq)] at hf
      rw [g2, ← bt_eq (s := s) (i := 0) (by omega)] at hf ⊢
      exact refGet_1ok s w hs (by omega) (by omega) (by omega) hf
    · have e1 : getE s = 3 := by unfold getE; rw [g1, if_neg (by omega), if_neg (by exact_mod_cast hq)]
      have e2 : getV s = 0 := by unfold getV; rw [if_neg (by omega)]
      have e3 : getRest s = ⟨#[]⟩ := by unfold getRest; rw [if_neg (by omega)]
      rw [e1, e2, e3]
      rw [decide_eq_false (by exact_mod_cast hq)] at hf
      rw [g2, ← bt_eq (s := s) (i := 0) (by omega)] at hf
      exact refGet_1bad s w hs (by omega) (by omega) (by omega) hf
  by_cases c2 : bt s 0 < 128
  · have g1 : gsz s = 2 := by unfold gsz; rw [if_neg (by omega), if_pos (by omega)]
    have g2 : gval s = 256 * (bt s 0 % 64) + bt s 1 := by unfold gval; rw [if_neg (by omega), if_pos (by omega)]; omega
    by_cases hlen : s.size < 2
    · have e1 : getE s = 7 := by unfold getE; rw [g1, if_pos (by omega)]
      have e2 : getV s = 0 := by unfold getV; rw [if_neg (by omega)]
      have e3 : getRest s = ⟨#[]⟩ := by unfold getRest; rw [if_neg (by omega)]
      rw [e1, e2, e3]
      exact refGet_2short s w hs (by omega) hlen (by omega) (by omega)
    have hf := num_front s (by omega)
    rw [g1] at hf
    by_cases hq : qsize (gval s) = 2
    · have e1 : getE s = 0 := by unfold getE; rw [g1, if_neg (by omega), if_pos (by exact_mod_cast hq)]
      have e2 : getV s = gval s := by unfold getV; rw [if_pos e1]
      have e3 : getRest s = s.extract 2 s.size := by unfold getRest; rw [if_pos e1, g1]
      rw [e1, e2, e3]
      rw [decide_eq_true (by exact_mod_cast hq)] at hf
      rw [g2, ← bt_eq (s := s) (i := 0) (by omega), ← bt_eq (s := s) (i := 1) (by omega)] at hf ⊢
      exact refGet_2ok s w hs (by omega) (by omega) (by omega) hf
    · have e1 : getE s = 3 := by unfold getE; rw [g1, if_neg (by omega), if_neg (by exact_mod_cast hq)]
      have e2 : getV s = 0 := by unfold getV; rw [if_neg (by omega)]
      have e3 : getRest s = ⟨#[]⟩ := by unfold getRest; rw [if_neg (by omega)]
      rw [e1, e2, e3]
      rw [decide_eq_false (by exact_mod_cast hq)] at hf
      rw [g2, ← bt_eq (s := s) (i := 0) (by omega), ← bt_eq (s := s) (i := 1) (by omega)] at hf
      exact refGet_2bad s w hs (by omega) (by omega) (by omega) hf
  by_cases c4 : bt s 0 < 192
  · have g1 : gsz s = 4 := by unfold gsz; rw [if_neg (by omega), if_neg (by omega), if_pos (by omega)]
    have g2 : gval s = 256 * (256 * (256 * (bt s 0 % 64) + bt s 1) + bt s 2) + bt s 3 := by unfold gval; rw [if_neg (by omega), if_neg (by omega), if_pos (by omega)]; omega
    by_cases hlen : s.size < 4
    · have e1 : getE s = 7 := by unfold getE; rw [g1, if_pos (by omega)]
      have e2 : getV s = 0 := by unfold getV; rw [if_neg (by omega)]
      have e3 : getRest s = ⟨#[]⟩ := by unfold getRest; rw [if_neg (by omega)]
      rw [e1, e2, e3]
      exact refGet_4short s w hs (by omega) hlen (by omega) (by omega)
    have hf := num_front s (by omega)
    rw [g1] at hf
    by_cases hq : qsize (gval s) = 4
    · have e1 : getE s = 0 := by unfold getE; rw [g1, if_neg (by omega), if_pos (by exact_mod_cast hq)]
      have e2 : getV s = gval s := by unfold getV; rw [if_pos e1]
      have e3 : getRest s = s.extract 4 s.size := by unfold getRest; rw [if_pos e1, g1]
      rw [e1, e2, e3]
      rw [decide_eq_true (by exact_mod_cast hq)] at hf
      rw [g2, ← bt_eq (s := s) (i := 0) (by omega), ← bt_eq (s := s) (i := 1) (by omega), ← bt_eq (s := s) (i := 2) (by omega), ← bt_eq (s := s) (i := 3) (by omega)] at hf ⊢
      exact refGet_4ok s w hs (by omega) (by omega) (by omega) hf
    · have e1 : getE s = 3 := by unfold getE; rw [g1, if_neg (by omega), if_neg (by exact_mod_cast hq)]
      have e2 : getV s = 0 := by unfold getV; rw [if_neg (by omega)]
      have e3 : getRest s = ⟨#[]⟩ := by unfold getRest; rw [if_neg (by omega)]
      rw [e1, e2, e3]
      rw [decide_eq_false (by exact_mod_cast hq)] at hf
      rw [g2, ← bt_eq (s := s) (i := 0) (by omega), ← bt_eq (s := s) (i := 1) (by omega), ← bt_eq (s := s) (i := 2) (by omega), ← bt_eq (s := s) (i := 3) (by omega)] at hf
      exact refGet_4bad s w hs (by omega) (by omega) (by omega) hf
  · have g1 : gsz s = 8 := by unfold gsz; rw [if_neg (by omega), if_neg (by omega), if_neg (by omega)]
    have g2 : gval s = 256 * (256 * (256 * (256 * (256 * (256 * (256 * (bt s 0 % 64) + bt s 1) + bt s 2) + bt s 3) + bt s 4) + bt s 5) + bt s 6) + bt s 7 := by unfold gval; rw [if_neg (by omega), if_neg (by omega), if_neg (by omega)]; omega
    by_cases hlen : s.size < 8
    · have e1 : getE s = 7 := by unfold getE; rw [g1, if_pos (by omega)]
      have e2 : getV s = 0 := by unfold getV; rw [if_neg (by omega)]
      have e3 : getRest s = ⟨#[]⟩ := by unfold getRest; rw [if_neg (by omega)]
      rw [e1, e2, e3]
      exact refGet_8short s w hs (by omega) hlen (by omega) (by omega)
    have hf := num_front s (by omega)
    rw [g1] at hf
    by_cases hq : qsize (gval s) = 8
    · have e1 : getE s = 0 := by unfold getE; rw [g1, if_neg (by omega), if_pos (by exact_mod_cast hq)]
      have e2 : getV s = gval s := by unfold getV; rw [if_pos e1]
      have e3 : getRest s = s.extract 8 s.size := by unfold getRest; rw [if_pos e1, g1]
      rw [e1, e2, e3]
      rw [decide_eq_true (by exact_mod_cast hq)] at hf
      rw [g2, ← bt_eq (s := s) (i := 0) (by omega), ← bt_eq (s := s) (i := 1) (by omega), ← bt_eq (s := s) (i := 2) (by omega), ← bt_eq (s := s) (i := 3) (by omega), ← bt_eq (s := s) (i := 4) (by omega), ← bt_eq (s := s) (i := 5) (by omega), ← bt_eq (s := s) (i := 6) (by omega), ← bt_eq (s := s) (i := 7) (by omega)] at hf ⊢
      exact refGet_8ok s w hs (by omega) (by omega) (by omega) hf
    · have e1 : getE s = 3 := by unfold getE; rw [g1, if_neg (by omega), if_neg (by exact_mod_cast hq)]
      have e2 : getV s = 0 := by unfold getV; rw [if_neg (by omega)]
      have e3 : getRest s = ⟨#[]⟩ := by unfold getRest; rw [if_neg (by omega)]
      rw [e1, e2, e3]
      rw [decide_eq_false (by exact_mod_cast hq)] at hf
      rw [g2, ← bt_eq (s := s) (i := 0) (by omega), ← bt_eq (s := s) (i := 1) (by omega), ← bt_eq (s := s) (i := 2) (by omega), ← bt_eq (s := s) (i := 3) (by omega), ← bt_eq (s := s) (i := 4) (by omega), ← bt_eq (s := s) (i := 5) (by omega), ← bt_eq (s := s) (i := 6) (by omega), ← bt_eq (s := s) (i := 7) (by omega)] at hf
      exact refGet_8bad s w hs (by omega) (by omega) (by omega) hf
end Go.Proofs.YtciibeldmcakeaaDoor.Q
