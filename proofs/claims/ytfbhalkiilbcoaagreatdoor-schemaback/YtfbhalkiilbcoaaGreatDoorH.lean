/- quic.Get at every text; the law's examples. -/
import Derived.Test.YtfbhalkiilbcoaaGreatDoorG
namespace Go.Proofs.YtfbhalkiilbcoaaGreatDoor.Q
open Go.RowKit

/-- quic.Get, at every text. -/
theorem get_any (s : ByteArray) (w : World) (hs : s.size ≤ 140737488355328) :
    Calls Tryz.prog 51 #[.string s] w fun e w' => e = .returned (.tuple #[.int .i64 (getV s), .string (getRest s), .int .i64 (getE s)]) ∧ Below w.heap.size w w' := by
  by_cases h0 : s.size = 0
  · have e1 : getE s = 7 := by unfold getE; rw [if_pos (by have := gsz_pos s; omega)]
    have e2 : getV s = 0 := by unfold getV; rw [if_neg (by omega)]
    have e3 : getRest s = ⟨#[]⟩ := by unfold getRest; rw [if_neg (by omega)]
    rw [e1, e2, e3]
    exact get_none s w h0
  have hb := bt_rng s 0
  have hb0 := bt_eq (s := s) (i := 0) (by omega)
  by_cases c1 : bt s 0 < 64
  · have g1 : gsz s = 1 := by unfold gsz; rw [if_pos (by omega)]
    have g2 : gval s = bt s 0 % 64 := by unfold gval; rw [if_pos (by omega)]
    have hlen : 1 ≤ s.size := by omega
    by_cases hq : qsize (gval s) = 1
    · have e1 : getE s = 0 := by unfold getE; rw [g1, if_neg (by omega), if_pos (by exact_mod_cast hq)]
      have e2 : getV s = gval s := by unfold getV; rw [if_pos e1]
      have e3 : getRest s = s.extract 1 s.size := by unfold getRest; rw [if_pos e1, g1]
      rw [e1, e2, e3]
      rw [g2, ← bt_eq (s := s) (i := 0) (by omega)] at hq ⊢
      exact get_1ok s w hs (by omega) (by omega) (by omega) hq
    · have e1 : getE s = 3 := by unfold getE; rw [g1, if_neg (by omega), if_neg (by exact_mod_cast hq)]
      have e2 : getV s = 0 := by unfold getV; rw [if_neg (by omega)]
      have e3 : getRest s = ⟨#[]⟩ := by unfold getRest; rw [if_neg (by omega)]
      rw [e1, e2, e3]
      rw [g2, ← bt_eq (s := s) (i := 0) (by omega)] at hq
      exact get_1bad s w hs (by omega) (by omega) (by omega) hq
  by_cases c2 : bt s 0 < 128
  · have g1 : gsz s = 2 := by unfold gsz; rw [if_neg (by omega), if_pos (by omega)]
    have g2 : gval s = (bt s 0 % 64) * 256 + bt s 1 := by unfold gval; rw [if_neg (by omega), if_pos (by omega)]
    by_cases hlen : s.size < 2
    · have e1 : getE s = 7 := by unfold getE; rw [g1, if_pos (by omega)]
      have e2 : getV s = 0 := by unfold getV; rw [if_neg (by omega)]
      have e3 : getRest s = ⟨#[]⟩ := by unfold getRest; rw [if_neg (by omega)]
      rw [e1, e2, e3]
      exact get_2short s w hs (by omega) hlen (by omega) (by omega)
    by_cases hq : qsize (gval s) = 2
    · have e1 : getE s = 0 := by unfold getE; rw [g1, if_neg (by omega), if_pos (by exact_mod_cast hq)]
      have e2 : getV s = gval s := by unfold getV; rw [if_pos e1]
      have e3 : getRest s = s.extract 2 s.size := by unfold getRest; rw [if_pos e1, g1]
      rw [e1, e2, e3]
      rw [g2, ← bt_eq (s := s) (i := 0) (by omega), ← bt_eq (s := s) (i := 1) (by omega)] at hq ⊢
      exact get_2ok s w hs (by omega) (by omega) (by omega) hq
    · have e1 : getE s = 3 := by unfold getE; rw [g1, if_neg (by omega), if_neg (by exact_mod_cast hq)]
      have e2 : getV s = 0 := by unfold getV; rw [if_neg (by omega)]
      have e3 : getRest s = ⟨#[]⟩ := by unfold getRest; rw [if_neg (by omega)]
      rw [e1, e2, e3]
      rw [g2, ← bt_eq (s := s) (i := 0) (by omega), ← bt_eq (s := s) (i := 1) (by omega)] at hq
      exact get_2bad s w hs (by omega) (by omega) (by omega) hq
  by_cases c4 : bt s 0 < 192
  · have g1 : gsz s = 4 := by unfold gsz; rw [if_neg (by omega), if_neg (by omega), if_pos (by omega)]
    have g2 : gval s = (((bt s 0 % 64) * 256 + bt s 1) * 256 + bt s 2) * 256 + bt s 3 := by unfold gval; rw [if_neg (by omega), if_neg (by omega), if_pos (by omega)]
    by_cases hlen : s.size < 4
    · have e1 : getE s = 7 := by unfold getE; rw [g1, if_pos (by omega)]
      have e2 : getV s = 0 := by unfold getV; rw [if_neg (by omega)]
      have e3 : getRest s = ⟨#[]⟩ := by unfold getRest; rw [if_neg (by omega)]
      rw [e1, e2, e3]
      exact get_4short s w hs (by omega) hlen (by omega) (by omega)
    by_cases hq : qsize (gval s) = 4
    · have e1 : getE s = 0 := by unfold getE; rw [g1, if_neg (by omega), if_pos (by exact_mod_cast hq)]
      have e2 : getV s = gval s := by unfold getV; rw [if_pos e1]
      have e3 : getRest s = s.extract 4 s.size := by unfold getRest; rw [if_pos e1, g1]
      rw [e1, e2, e3]
      rw [g2, ← bt_eq (s := s) (i := 0) (by omega), ← bt_eq (s := s) (i := 1) (by omega), ← bt_eq (s := s) (i := 2) (by omega), ← bt_eq (s := s) (i := 3) (by omega)] at hq ⊢
      exact get_4ok s w hs (by omega) (by omega) (by omega) hq
    · have e1 : getE s = 3 := by unfold getE; rw [g1, if_neg (by omega), if_neg (by exact_mod_cast hq)]
      have e2 : getV s = 0 := by unfold getV; rw [if_neg (by omega)]
      have e3 : getRest s = ⟨#[]⟩ := by unfold getRest; rw [if_neg (by omega)]
      rw [e1, e2, e3]
      rw [g2, ← bt_eq (s := s) (i := 0) (by omega), ← bt_eq (s := s) (i := 1) (by omega), ← bt_eq (s := s) (i := 2) (by omega), ← bt_eq (s := s) (i := 3) (by omega)] at hq
      exact get_4bad s w hs (by omega) (by omega) (by omega) hq
  · have g1 : gsz s = 8 := by unfold gsz; rw [if_neg (by omega), if_neg (by omega), if_neg (by omega)]
    have g2 : gval s = (((((((bt s 0 % 64) * 256 + bt s 1) * 256 + bt s 2) * 256 + bt s 3) * 256 + bt s 4) * 256 + bt s 5) * 256 + bt s 6) * 256 + bt s 7 := by unfold gval; rw [if_neg (by omega), if_neg (by omega), if_neg (by omega)]
    by_cases hlen : s.size < 8
    · have e1 : getE s = 7 := by unfold getE; rw [g1, if_pos (by omega)]
      have e2 : getV s = 0 := by unfold getV; rw [if_neg (by omega)]
      have e3 : getRest s = ⟨#[]⟩ := by unfold getRest; rw [if_neg (by omega)]
      rw [e1, e2, e3]
      exact get_8short s w hs (by omega) hlen (by omega) (by omega)
    by_cases hq : qsize (gval s) = 8
    · have e1 : getE s = 0 := by unfold getE; rw [g1, if_neg (by omega), if_pos (by exact_mod_cast hq)]
      have e2 : getV s = gval s := by unfold getV; rw [if_pos e1]
      have e3 : getRest s = s.extract 8 s.size := by unfold getRest; rw [if_pos e1, g1]
      rw [e1, e2, e3]
      rw [g2, ← bt_eq (s := s) (i := 0) (by omega), ← bt_eq (s := s) (i := 1) (by omega), ← bt_eq (s := s) (i := 2) (by omega), ← bt_eq (s := s) (i := 3) (by omega), ← bt_eq (s := s) (i := 4) (by omega), ← bt_eq (s := s) (i := 5) (by omega), ← bt_eq (s := s) (i := 6) (by omega), ← bt_eq (s := s) (i := 7) (by omega)] at hq ⊢
      exact get_8ok s w hs (by omega) (by omega) (by omega) hq
    · have e1 : getE s = 3 := by unfold getE; rw [g1, if_neg (by omega), if_neg (by exact_mod_cast hq)]
      have e2 : getV s = 0 := by unfold getV; rw [if_neg (by omega)]
      have e3 : getRest s = ⟨#[]⟩ := by unfold getRest; rw [if_neg (by omega)]
      rw [e1, e2, e3]
      rw [g2, ← bt_eq (s := s) (i := 0) (by omega), ← bt_eq (s := s) (i := 1) (by omega), ← bt_eq (s := s) (i := 2) (by omega), ← bt_eq (s := s) (i := 3) (by omega), ← bt_eq (s := s) (i := 4) (by omega), ← bt_eq (s := s) (i := 5) (by omega), ← bt_eq (s := s) (i := 6) (by omega), ← bt_eq (s := s) (i := 7) (by omega)] at hq
      exact get_8bad s w hs (by omega) (by omega) (by omega) hq

theorem aw1 : strOfNums (numI 37) = ⟨#[37]⟩ := by decide +kernel
theorem aw2 : strOfNums (numI 15293) = ⟨#[123, 189]⟩ := by decide +kernel
theorem aw3 : strOfNums (numI 494878333) = ⟨#[157, 127, 62, 125]⟩ := by decide +kernel
theorem aw4 : strOfNums (numI 151288809941952652) = ⟨#[194, 25, 124, 94, 255, 20, 232, 140]⟩ := by decide +kernel
theorem aw5 : getE ⟨#[64, 37]⟩ = 3 := by decide +kernel
end Go.Proofs.YtfbhalkiilbcoaaGreatDoor.Q
