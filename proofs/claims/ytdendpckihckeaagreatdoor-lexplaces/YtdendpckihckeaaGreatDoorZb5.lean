/- The reference's tail and First: walks. -/
import Derived.Test.YtdendpckihckeaaGreatDoorZb1
import Derived.Lib.OthersKept
import Derived.BigCall
import Derived.RegionTactic
import Derived.Deep.QuietTactic
import Derived.BigQuiet
import Derived.Test.YtdendpckihckeaaGreatDoorZb4
import Derived.Deep.RegionHeld3
namespace Go.Proofs.YtdendpckihckeaaGreatDoor
open Go.RowKit Go.Lib

/-- A byte by its number; 0 beyond the end. -/
def gN (s : ByteArray) (i : Nat) : Nat := (s.get! i).toNat
theorem gN_lt (s : ByteArray) (i : Nat) : gN s i < 256 := (s.get! i).toNat_lt
theorem gN_of (s : ByteArray) (i : Nat) (h : i < s.size) : (s[i]'h).toNat = gN s i := by
  cases s with
  | mk d =>
    show (d[i]'h).toNat = (d[i]!).toNat
    rw [getElem!_pos d i h]
def tl (s : ByteArray) (i : Nat) : Bool := decide (i < s.size ∧ 128 ≤ gN s i ∧ gN s i < 192)

set_option maxHeartbeats 1000000 in
theorem tail_any (s : ByteArray) (i : Nat) (z : Int) (hz : z = (i : Int)) (w : World) :
    Calls Tryz.prog 85 #[.string s, .int .i64 z] w fun e w' => e = .returned (.bool (tl s i)) ∧ w' = w := by
  subst hz
  by_cases hi : i < s.size
  · have hi' : (i : Int) < s.size := by omega
    have hx := gN_of s i hi
    have hlt := gN_lt s i
    have HT : Hid (tl s i = decide (128 ≤ gN s i ∧ gN s i < 192)) := by show _ = _; unfold tl; simp [hi]
    generalize tl s i = t at *
    generalize gN s i = x at *
    by_cases h1 : 128 ≤ x
    · have h1' : decide ((128 : Int) ≤ x) = true := by simp; omega
      by_cases h2 : x < 192
      · have h2' : decide ((x : Int) < 192) = true := by simp; omega
        go_enter Tryz.func85, Tryz.ntmps85
        go_wp2
        go_ret
        exact ⟨by rw [HT.out, decide_eq_true (And.intro h1 h2)]; rfl, rfl⟩
      · have h2' : decide ((x : Int) < 192) = false := by simp; omega
        go_enter Tryz.func85, Tryz.ntmps85
        go_wp2
        go_ret
        exact ⟨by rw [HT.out, decide_eq_false (fun h => h2 h.2)]; rfl, rfl⟩
    · have h1' : decide ((128 : Int) ≤ x) = false := by simp; omega
      go_enter Tryz.func85, Tryz.ntmps85
      go_wp2
      go_ret
      exact ⟨by rw [HT.out, decide_eq_false (fun h => h1 h.1)]; rfl, rfl⟩
  · have hi' : decide ((i : Int) < s.size) = false := by simp; omega
    have HT : Hid (tl s i = false) := by show _ = _; unfold tl; simp [hi]
    go_enter Tryz.func85, Tryz.ntmps85
    go_wp2
    go_ret
    exact ⟨by rw [HT.out]; rfl, rfl⟩

/-- The rune at the front and its width; (0, 0): there is none. -/
def fst (s : ByteArray) : Nat × Nat := if s.size = 0 ∨ ((Utf8.decode s 0).1 = 65533 ∧ (Utf8.decode s 0).2 = 1) then (0, 0) else Utf8.decode s 0
theorem fst_none {s : ByteArray} {x0 x1 x2 x3 : Nat} (h : decodeN s.size x0 x1 x2 x3 = (65533, 1)) (e0 : gN s 0 = x0) (e1 : gN s 1 = x1) (e2 : gN s 2 = x2) (e3 : gN s 3 = x3) : fst s = (0, 0) := by
  subst e0 e1 e2 e3
  have e : Utf8.decode s 0 = (65533, 1) := by rw [decode_at]; exact h
  unfold fst
  rw [e]
  simp
theorem fst_some {s : ByteArray} {x0 x1 x2 x3 c k : Nat} (h : decodeN s.size x0 x1 x2 x3 = (c, k)) (hn : s.size ≠ 0) (hk : c = 65533 → k ≠ 1) (e0 : gN s 0 = x0) (e1 : gN s 1 = x1) (e2 : gN s 2 = x2) (e3 : gN s 3 = x3) : fst s = (c, k) := by
  subst e0 e1 e2 e3
  have e : Utf8.decode s 0 = (c, k) := by rw [decode_at]; exact h
  unfold fst
  rw [e, if_neg]
  intro h
  rcases h with h | ⟨h1, h2⟩
  · exact hn h
  · exact hk h1 h2
theorem below_dN {B : Nat} {a w : World} (h : Below B a w) : ∀ q, Below B a (w.drewN q)
  | 0 => h
  | q + 1 => (below_dN h q).drew
def FsPost (s : ByteArray) (w : World) (e : Ending) (w' : World) : Prop :=
  e = .returned (.agg #[.int .i64 (fst s).1, .int .i64 (fst s).2]) ∧ Below w.heap.size w w'

set_option maxRecDepth 100000 in
set_option maxHeartbeats 2000000 in
theorem first_any (s : ByteArray) (w : World) (hs : s.size ≤ 140737488355328) :
    Calls Tryz.prog 53 #[.string s] w fun e w' => FsPost s w e w' := by
  by_cases hn : s.size = 0
  · have he : s.toList.isEmpty = true := by rw [ByteArray.toList_eq]; simp; exact Array.eq_empty_of_size_eq_zero hn
    have HF : Hid (fst s = (0, 0)) := by show _ = _; simp [fst, hn]
    go_enter Tryz.func53, Tryz.ntmps53
    go_wp2
    refine bodyPost_ret (v := .agg #[.int .i64 0, .int .i64 0]) (by simp [results, Tryz.results53, go_sem]) rfl ⟨by rw [HF.out]; rfl, ?_⟩
    repeat (first | exact Below.refl _ _ | refine Below.setCell ?_ (by exact Nat.le_refl _) _ | refine Below.alloc ?_ (Nat.le_refl _) _ | refine Below.drew ?_ | refine below_dN ?_ _)
  have he : s.toList.isEmpty = false := by rw [ByteArray.toList_eq]; simp; intro h; rw [ByteArray.size, h] at hn; exact hn rfl
  have hn0 : (0 : Int) < s.size := by omega
  have hy0 := gN_of s 0 (by omega)
  obtain ⟨x0, hx0⟩ : ∃ x0, gN s 0 = x0 := ⟨_, rfl⟩
  obtain ⟨x1, hx1⟩ : ∃ x1, gN s 1 = x1 := ⟨_, rfl⟩
  obtain ⟨x2, hx2⟩ : ∃ x2, gN s 2 = x2 := ⟨_, rfl⟩
  obtain ⟨x3, hx3⟩ : ∃ x3, gN s 3 = x3 := ⟨_, rfl⟩
  have l0 : x0 < 256 := hx0 ▸ gN_lt s 0
  have l1 : x1 < 256 := hx1 ▸ gN_lt s 1
  have l2 : x2 < 256 := hx2 ▸ gN_lt s 2
  have l3 : x3 < 256 := hx3 ▸ gN_lt s 3
  rw [hx0] at hy0
  by_cases a1 : x0 < 128
  · have d1 : decide ((x0 : Int) < 128) = true := by simp; omega
    have HF : Hid (fst s = (x0, 1)) := fst_some (by unfold decodeN; rw [if_pos a1]) hn (by omega) hx0 hx1 hx2 hx3
    clear hx0 hx1 hx2 hx3
    go_enter Tryz.func53, Tryz.ntmps53
    go_wp2_with (go_at_call 85; refine (tail_any _ _ _ (by first | exact (rfl : (1 : Int) = ((1 : Nat) : Int)) | exact (rfl : (2 : Int) = ((2 : Nat) : Int)) | exact (rfl : (3 : Int) = ((3 : Nat) : Int))) _).mono ?_; rintro e w' ⟨rfl, rfl⟩)
    refine bodyPost_ret (v := .agg #[.int .i64 x0, .int .i64 1]) (by simp [results, Tryz.results53, go_sem]) rfl ⟨by rw [HF.out]; rfl, ?_⟩
    repeat (first | exact Below.refl _ _ | refine Below.setCell ?_ (by exact Nat.le_refl _) _ | refine Below.alloc ?_ (Nat.le_refl _) _ | refine Below.drew ?_ | refine below_dN ?_ _)
  have d1 : decide ((x0 : Int) < 128) = false := by simp; omega
  by_cases a2 : x0 < 194
  · have d2 : decide ((194 : Int) ≤ x0) = false := by simp; omega
    have d4 : decide ((224 : Int) ≤ x0) = false := by simp; omega
    have d6 : decide ((240 : Int) ≤ x0) = false := by simp; omega
    have HF : Hid (fst s = (0, 0)) := fst_none (by unfold decodeN; (repeat' split) <;> first | rfl | (exfalso; omega)) hx0 hx1 hx2 hx3
    clear hx0 hx1 hx2 hx3
    go_enter Tryz.func53, Tryz.ntmps53
    go_wp2_with (go_at_call 85; refine (tail_any _ _ _ (by first | exact (rfl : (1 : Int) = ((1 : Nat) : Int)) | exact (rfl : (2 : Int) = ((2 : Nat) : Int)) | exact (rfl : (3 : Int) = ((3 : Nat) : Int))) _).mono ?_; rintro e w' ⟨rfl, rfl⟩)
    refine bodyPost_ret (v := .agg #[.int .i64 0, .int .i64 0]) (by simp [results, Tryz.results53, go_sem]) rfl ⟨by rw [HF.out]; rfl, ?_⟩
    repeat (first | exact Below.refl _ _ | refine Below.setCell ?_ (by exact Nat.le_refl _) _ | refine Below.alloc ?_ (Nat.le_refl _) _ | refine Below.drew ?_ | refine below_dN ?_ _)
  have d2 : decide ((194 : Int) ≤ x0) = true := by simp; omega
  by_cases a3 : x0 < 224
  · have d3 : decide ((x0 : Int) < 224) = true := by simp; omega
    have d4 : decide ((224 : Int) ≤ x0) = false := by simp; omega
    have d6 : decide ((240 : Int) ≤ x0) = false := by simp; omega
    by_cases t1 : tl s 1 = true
    · have t1' := t1
      simp only [tl, decide_eq_true_eq, hx1] at t1'
      have hn1 : (1 : Int) < s.size := by omega
      have hy1 := gN_of s 1 (by omega)
      rw [hx1] at hy1
      have HF : Hid (fst s = (64 * (x0 - 192) + x1 - 128, 2)) := fst_some (by unfold decodeN; rw [if_neg (by omega), if_pos (by omega), if_pos (by omega)]; apply Prod.ext <;> simp only; omega) hn (by omega) hx0 hx1 hx2 hx3
      have HV : Hid ((64 : Int) * ((x0 : Int) - 192) + x1 - 128 = ((64 * (x0 - 192) + x1 - 128 : Nat) : Int)) := by show _ = _; omega
      clear hx0 hx1 hx2 hx3
      go_enter Tryz.func53, Tryz.ntmps53
      go_wp2_with (go_at_call 85; refine (tail_any _ _ _ (by first | exact (rfl : (1 : Int) = ((1 : Nat) : Int)) | exact (rfl : (2 : Int) = ((2 : Nat) : Int)) | exact (rfl : (3 : Int) = ((3 : Nat) : Int))) _).mono ?_; rintro e w' ⟨rfl, rfl⟩)
      refine bodyPost_ret (v := .agg #[.int .i64 ((64 : Int) * ((x0 : Int) - 192) + x1 - 128), .int .i64 2]) (by simp [results, Tryz.results53, go_sem]) rfl ⟨by rw [HF.out, HV.out]; rfl, ?_⟩
      repeat (first | exact Below.refl _ _ | refine Below.setCell ?_ (by exact Nat.le_refl _) _ | refine Below.alloc ?_ (Nat.le_refl _) _ | refine Below.drew ?_ | refine below_dN ?_ _)
    · have t1' : ¬ (1 < s.size ∧ 128 ≤ x1 ∧ x1 < 192) := by simpa only [tl, decide_eq_true_eq, hx1] using t1
      have t1f : tl s 1 = false := by simpa using t1
      have HF : Hid (fst s = (0, 0)) := fst_none (by unfold decodeN; (repeat' split) <;> first | rfl | (exfalso; omega)) hx0 hx1 hx2 hx3
      clear hx0 hx1 hx2 hx3 t1
      go_enter Tryz.func53, Tryz.ntmps53
      go_wp2_with (go_at_call 85; refine (tail_any _ _ _ (by first | exact (rfl : (1 : Int) = ((1 : Nat) : Int)) | exact (rfl : (2 : Int) = ((2 : Nat) : Int)) | exact (rfl : (3 : Int) = ((3 : Nat) : Int))) _).mono ?_; rintro e w' ⟨rfl, rfl⟩)
      refine bodyPost_ret (v := .agg #[.int .i64 0, .int .i64 0]) (by simp [results, Tryz.results53, go_sem]) rfl ⟨by rw [HF.out]; rfl, ?_⟩
      repeat (first | exact Below.refl _ _ | refine Below.setCell ?_ (by exact Nat.le_refl _) _ | refine Below.alloc ?_ (Nat.le_refl _) _ | refine Below.drew ?_ | refine below_dN ?_ _)
  have d3 : decide ((x0 : Int) < 224) = false := by simp; omega
  have d4 : decide ((224 : Int) ≤ x0) = true := by simp; omega
  by_cases a4 : x0 < 240
  · have d5 : decide ((x0 : Int) < 240) = true := by simp; omega
    have d6 : decide ((240 : Int) ≤ x0) = false := by simp; omega
    by_cases t1 : tl s 1 = true
    · have t1' := t1
      simp only [tl, decide_eq_true_eq, hx1] at t1'
      by_cases t2 : tl s 2 = true
      · have t2' := t2
        simp only [tl, decide_eq_true_eq, hx2] at t2'
        have hn1 : (1 : Int) < s.size := by omega
        have hn2 : (2 : Int) < s.size := by omega
        have hy1 := gN_of s 1 (by omega)
        rw [hx1] at hy1
        have hy2 := gN_of s 2 (by omega)
        rw [hx2] at hy2
        obtain ⟨c, hc⟩ : ∃ c, c = 4096 * (x0 - 224) + 64 * (x1 - 128) + x2 - 128 := ⟨_, rfl⟩
        have HV : (4096 : Int) * ((x0 : Int) - 224) + 64 * ((x1 : Int) - 128) + x2 - 128 = (c : Int) := by omega
        by_cases ok : 2048 ≤ c ∧ (c < 55296 ∨ 57343 < c)
        · have HF : Hid (fst s = (c, 3)) := fst_some (by unfold decodeN; rw [if_neg (by omega), if_neg (by omega), if_pos (by omega), if_pos (by omega)]; apply Prod.ext <;> simp only; omega) hn (by omega) hx0 hx1 hx2 hx3
          have k1 : decide ((2048 : Int) ≤ c) = true := by simp; omega
          clear hx0 hx1 hx2 hx3 hc
          by_cases ok2 : c < 55296
          · have k2 : decide ((c : Int) < 55296) = true := by simp; omega
            go_enter Tryz.func53, Tryz.ntmps53
            go_wp2_with (go_at_call 85; refine (tail_any _ _ _ (by first | exact (rfl : (1 : Int) = ((1 : Nat) : Int)) | exact (rfl : (2 : Int) = ((2 : Nat) : Int)) | exact (rfl : (3 : Int) = ((3 : Nat) : Int))) _).mono ?_; rintro e w' ⟨rfl, rfl⟩)
            go_quiet (fail)
            go_wp2
            refine bodyPost_ret (v := .agg #[.int .i64 c, .int .i64 3]) (by simp [results, Tryz.results53, go_sem]) rfl ⟨by rw [HF.out]; rfl, ?_⟩
            repeat (first | exact Below.refl _ _ | refine Below.setCell ?_ (by exact Nat.le_refl _) _ | refine Below.alloc ?_ (Nat.le_refl _) _ | refine Below.drew ?_ | refine below_dN ?_ _)
          · have k2 : decide ((c : Int) < 55296) = false := by simp; omega
            have k3 : decide ((57343 : Int) < c) = true := by simp; omega
            go_enter Tryz.func53, Tryz.ntmps53
            go_wp2_with (go_at_call 85; refine (tail_any _ _ _ (by first | exact (rfl : (1 : Int) = ((1 : Nat) : Int)) | exact (rfl : (2 : Int) = ((2 : Nat) : Int)) | exact (rfl : (3 : Int) = ((3 : Nat) : Int))) _).mono ?_; rintro e w' ⟨rfl, rfl⟩)
            go_quiet (fail)
            go_wp2
            refine bodyPost_ret (v := .agg #[.int .i64 c, .int .i64 3]) (by simp [results, Tryz.results53, go_sem]) rfl ⟨by rw [HF.out]; rfl, ?_⟩
            repeat (first | exact Below.refl _ _ | refine Below.setCell ?_ (by exact Nat.le_refl _) _ | refine Below.alloc ?_ (Nat.le_refl _) _ | refine Below.drew ?_ | refine below_dN ?_ _)
        · have HF : Hid (fst s = (0, 0)) := fst_none (by unfold decodeN; rw [if_neg (by omega), if_neg (by omega), if_pos (by omega), if_neg (by omega)]) hx0 hx1 hx2 hx3
          clear hx0 hx1 hx2 hx3 hc
          by_cases ok1 : 2048 ≤ c
          · have k1 : decide ((2048 : Int) ≤ c) = true := by simp; omega
            have k2 : decide ((c : Int) < 55296) = false := by simp; omega
            have k3 : decide ((57343 : Int) < c) = false := by simp; omega
            go_enter Tryz.func53, Tryz.ntmps53
            go_wp2_with (go_at_call 85; refine (tail_any _ _ _ (by first | exact (rfl : (1 : Int) = ((1 : Nat) : Int)) | exact (rfl : (2 : Int) = ((2 : Nat) : Int)) | exact (rfl : (3 : Int) = ((3 : Nat) : Int))) _).mono ?_; rintro e w' ⟨rfl, rfl⟩)
            go_quiet (fail)
            go_wp2
            refine bodyPost_ret (v := .agg #[.int .i64 0, .int .i64 0]) (by simp [results, Tryz.results53, go_sem]) rfl ⟨by rw [HF.out]; rfl, ?_⟩
            repeat (first | exact Below.refl _ _ | refine Below.setCell ?_ (by exact Nat.le_refl _) _ | refine Below.alloc ?_ (Nat.le_refl _) _ | refine Below.drew ?_ | refine below_dN ?_ _)
          · have k1 : decide ((2048 : Int) ≤ c) = false := by simp; omega
            go_enter Tryz.func53, Tryz.ntmps53
            go_wp2_with (go_at_call 85; refine (tail_any _ _ _ (by first | exact (rfl : (1 : Int) = ((1 : Nat) : Int)) | exact (rfl : (2 : Int) = ((2 : Nat) : Int)) | exact (rfl : (3 : Int) = ((3 : Nat) : Int))) _).mono ?_; rintro e w' ⟨rfl, rfl⟩)
            go_quiet (fail)
            go_wp2
            refine bodyPost_ret (v := .agg #[.int .i64 0, .int .i64 0]) (by simp [results, Tryz.results53, go_sem]) rfl ⟨by rw [HF.out]; rfl, ?_⟩
            repeat (first | exact Below.refl _ _ | refine Below.setCell ?_ (by exact Nat.le_refl _) _ | refine Below.alloc ?_ (Nat.le_refl _) _ | refine Below.drew ?_ | refine below_dN ?_ _)
      · have t2' : ¬ (2 < s.size ∧ 128 ≤ x2 ∧ x2 < 192) := by simpa only [tl, decide_eq_true_eq, hx2] using t2
        have t2f : tl s 2 = false := by simpa using t2
        have HF : Hid (fst s = (0, 0)) := fst_none (by unfold decodeN; (repeat' split) <;> first | rfl | (exfalso; omega)) hx0 hx1 hx2 hx3
        clear hx0 hx1 hx2 hx3 t2
        go_enter Tryz.func53, Tryz.ntmps53
        go_wp2_with (go_at_call 85; refine (tail_any _ _ _ (by first | exact (rfl : (1 : Int) = ((1 : Nat) : Int)) | exact (rfl : (2 : Int) = ((2 : Nat) : Int)) | exact (rfl : (3 : Int) = ((3 : Nat) : Int))) _).mono ?_; rintro e w' ⟨rfl, rfl⟩)
        refine bodyPost_ret (v := .agg #[.int .i64 0, .int .i64 0]) (by simp [results, Tryz.results53, go_sem]) rfl ⟨by rw [HF.out]; rfl, ?_⟩
        repeat (first | exact Below.refl _ _ | refine Below.setCell ?_ (by exact Nat.le_refl _) _ | refine Below.alloc ?_ (Nat.le_refl _) _ | refine Below.drew ?_ | refine below_dN ?_ _)
    · have t1' : ¬ (1 < s.size ∧ 128 ≤ x1 ∧ x1 < 192) := by simpa only [tl, decide_eq_true_eq, hx1] using t1
      have t1f : tl s 1 = false := by simpa using t1
      have HF : Hid (fst s = (0, 0)) := fst_none (by unfold decodeN; (repeat' split) <;> first | rfl | (exfalso; omega)) hx0 hx1 hx2 hx3
      clear hx0 hx1 hx2 hx3 t1
      go_enter Tryz.func53, Tryz.ntmps53
      go_wp2_with (go_at_call 85; refine (tail_any _ _ _ (by first | exact (rfl : (1 : Int) = ((1 : Nat) : Int)) | exact (rfl : (2 : Int) = ((2 : Nat) : Int)) | exact (rfl : (3 : Int) = ((3 : Nat) : Int))) _).mono ?_; rintro e w' ⟨rfl, rfl⟩)
      refine bodyPost_ret (v := .agg #[.int .i64 0, .int .i64 0]) (by simp [results, Tryz.results53, go_sem]) rfl ⟨by rw [HF.out]; rfl, ?_⟩
      repeat (first | exact Below.refl _ _ | refine Below.setCell ?_ (by exact Nat.le_refl _) _ | refine Below.alloc ?_ (Nat.le_refl _) _ | refine Below.drew ?_ | refine below_dN ?_ _)
  have d5 : decide ((x0 : Int) < 240) = false := by simp; omega
  have d6 : decide ((240 : Int) ≤ x0) = true := by simp; omega
  by_cases a5 : x0 < 245
  · have d7 : decide ((x0 : Int) < 245) = true := by simp; omega
    by_cases t1 : tl s 1 = true
    · have t1' := t1
      simp only [tl, decide_eq_true_eq, hx1] at t1'
      by_cases t2 : tl s 2 = true
      · have t2' := t2
        simp only [tl, decide_eq_true_eq, hx2] at t2'
        by_cases t3 : tl s 3 = true
        · have t3' := t3
          simp only [tl, decide_eq_true_eq, hx3] at t3'
          have hn1 : (1 : Int) < s.size := by omega
          have hn2 : (2 : Int) < s.size := by omega
          have hn3 : (3 : Int) < s.size := by omega
          have hy1 := gN_of s 1 (by omega)
          rw [hx1] at hy1
          have hy2 := gN_of s 2 (by omega)
          rw [hx2] at hy2
          have hy3 := gN_of s 3 (by omega)
          rw [hx3] at hy3
          obtain ⟨c, hc⟩ : ∃ c, c = 262144 * (x0 - 240) + 4096 * (x1 - 128) + 64 * (x2 - 128) + x3 - 128 := ⟨_, rfl⟩
          have HV : (262144 : Int) * ((x0 : Int) - 240) + 4096 * ((x1 : Int) - 128) + 64 * ((x2 : Int) - 128) + x3 - 128 = (c : Int) := by omega
          by_cases ok1 : 65536 ≤ c
          · have k1 : decide ((65536 : Int) ≤ c) = true := by simp; omega
            by_cases ok2 : c ≤ 1114111
            · have k2 : decide ((c : Int) ≤ 1114111) = true := by simp; omega
              have HF : Hid (fst s = (c, 4)) := fst_some (by unfold decodeN; rw [if_neg (by omega), if_neg (by omega), if_neg (by omega), if_pos (by omega), if_pos (by omega)]; apply Prod.ext <;> simp only; omega) hn (by omega) hx0 hx1 hx2 hx3
              clear hx0 hx1 hx2 hx3 hc
              go_enter Tryz.func53, Tryz.ntmps53
              go_wp2_with (go_at_call 85; refine (tail_any _ _ _ (by first | exact (rfl : (1 : Int) = ((1 : Nat) : Int)) | exact (rfl : (2 : Int) = ((2 : Nat) : Int)) | exact (rfl : (3 : Int) = ((3 : Nat) : Int))) _).mono ?_; rintro e w' ⟨rfl, rfl⟩)
              go_quiet (fail)
              go_wp2
              refine bodyPost_ret (v := .agg #[.int .i64 c, .int .i64 4]) (by simp [results, Tryz.results53, go_sem]) rfl ⟨by rw [HF.out]; rfl, ?_⟩
              repeat (first | exact Below.refl _ _ | refine Below.setCell ?_ (by exact Nat.le_refl _) _ | refine Below.alloc ?_ (Nat.le_refl _) _ | refine Below.drew ?_ | refine below_dN ?_ _)
            · have k2 : decide ((c : Int) ≤ 1114111) = false := by simp; omega
              have HF : Hid (fst s = (0, 0)) := fst_none (by unfold decodeN; rw [if_neg (by omega), if_neg (by omega), if_neg (by omega), if_pos (by omega), if_neg (by omega)]) hx0 hx1 hx2 hx3
              clear hx0 hx1 hx2 hx3 hc
              go_enter Tryz.func53, Tryz.ntmps53
              go_wp2_with (go_at_call 85; refine (tail_any _ _ _ (by first | exact (rfl : (1 : Int) = ((1 : Nat) : Int)) | exact (rfl : (2 : Int) = ((2 : Nat) : Int)) | exact (rfl : (3 : Int) = ((3 : Nat) : Int))) _).mono ?_; rintro e w' ⟨rfl, rfl⟩)
              go_quiet (fail)
              go_wp2
              refine bodyPost_ret (v := .agg #[.int .i64 0, .int .i64 0]) (by simp [results, Tryz.results53, go_sem]) rfl ⟨by rw [HF.out]; rfl, ?_⟩
              repeat (first | exact Below.refl _ _ | refine Below.setCell ?_ (by exact Nat.le_refl _) _ | refine Below.alloc ?_ (Nat.le_refl _) _ | refine Below.drew ?_ | refine below_dN ?_ _)
          · have k1 : decide ((65536 : Int) ≤ c) = false := by simp; omega
            have HF : Hid (fst s = (0, 0)) := fst_none (by unfold decodeN; rw [if_neg (by omega), if_neg (by omega), if_neg (by omega), if_pos (by omega), if_neg (by omega)]) hx0 hx1 hx2 hx3
            clear hx0 hx1 hx2 hx3 hc
            go_enter Tryz.func53, Tryz.ntmps53
            go_wp2_with (go_at_call 85; refine (tail_any _ _ _ (by first | exact (rfl : (1 : Int) = ((1 : Nat) : Int)) | exact (rfl : (2 : Int) = ((2 : Nat) : Int)) | exact (rfl : (3 : Int) = ((3 : Nat) : Int))) _).mono ?_; rintro e w' ⟨rfl, rfl⟩)
            go_quiet (fail)
            go_wp2
            refine bodyPost_ret (v := .agg #[.int .i64 0, .int .i64 0]) (by simp [results, Tryz.results53, go_sem]) rfl ⟨by rw [HF.out]; rfl, ?_⟩
            repeat (first | exact Below.refl _ _ | refine Below.setCell ?_ (by exact Nat.le_refl _) _ | refine Below.alloc ?_ (Nat.le_refl _) _ | refine Below.drew ?_ | refine below_dN ?_ _)
        · have t3' : ¬ (3 < s.size ∧ 128 ≤ x3 ∧ x3 < 192) := by simpa only [tl, decide_eq_true_eq, hx3] using t3
          have t3f : tl s 3 = false := by simpa using t3
          have HF : Hid (fst s = (0, 0)) := fst_none (by unfold decodeN; (repeat' split) <;> first | rfl | (exfalso; omega)) hx0 hx1 hx2 hx3
          clear hx0 hx1 hx2 hx3 t3
          go_enter Tryz.func53, Tryz.ntmps53
          go_wp2_with (go_at_call 85; refine (tail_any _ _ _ (by first | exact (rfl : (1 : Int) = ((1 : Nat) : Int)) | exact (rfl : (2 : Int) = ((2 : Nat) : Int)) | exact (rfl : (3 : Int) = ((3 : Nat) : Int))) _).mono ?_; rintro e w' ⟨rfl, rfl⟩)
          refine bodyPost_ret (v := .agg #[.int .i64 0, .int .i64 0]) (by simp [results, Tryz.results53, go_sem]) rfl ⟨by rw [HF.out]; rfl, ?_⟩
          repeat (first | exact Below.refl _ _ | refine Below.setCell ?_ (by exact Nat.le_refl _) _ | refine Below.alloc ?_ (Nat.le_refl _) _ | refine Below.drew ?_ | refine below_dN ?_ _)
      · have t2' : ¬ (2 < s.size ∧ 128 ≤ x2 ∧ x2 < 192) := by simpa only [tl, decide_eq_true_eq, hx2] using t2
        have t2f : tl s 2 = false := by simpa using t2
        have HF : Hid (fst s = (0, 0)) := fst_none (by unfold decodeN; (repeat' split) <;> first | rfl | (exfalso; omega)) hx0 hx1 hx2 hx3
        clear hx0 hx1 hx2 hx3 t2
        go_enter Tryz.func53, Tryz.ntmps53
        go_wp2_with (go_at_call 85; refine (tail_any _ _ _ (by first | exact (rfl : (1 : Int) = ((1 : Nat) : Int)) | exact (rfl : (2 : Int) = ((2 : Nat) : Int)) | exact (rfl : (3 : Int) = ((3 : Nat) : Int))) _).mono ?_; rintro e w' ⟨rfl, rfl⟩)
        refine bodyPost_ret (v := .agg #[.int .i64 0, .int .i64 0]) (by simp [results, Tryz.results53, go_sem]) rfl ⟨by rw [HF.out]; rfl, ?_⟩
        repeat (first | exact Below.refl _ _ | refine Below.setCell ?_ (by exact Nat.le_refl _) _ | refine Below.alloc ?_ (Nat.le_refl _) _ | refine Below.drew ?_ | refine below_dN ?_ _)
    · have t1' : ¬ (1 < s.size ∧ 128 ≤ x1 ∧ x1 < 192) := by simpa only [tl, decide_eq_true_eq, hx1] using t1
      have t1f : tl s 1 = false := by simpa using t1
      have HF : Hid (fst s = (0, 0)) := fst_none (by unfold decodeN; (repeat' split) <;> first | rfl | (exfalso; omega)) hx0 hx1 hx2 hx3
      clear hx0 hx1 hx2 hx3 t1
      go_enter Tryz.func53, Tryz.ntmps53
      go_wp2_with (go_at_call 85; refine (tail_any _ _ _ (by first | exact (rfl : (1 : Int) = ((1 : Nat) : Int)) | exact (rfl : (2 : Int) = ((2 : Nat) : Int)) | exact (rfl : (3 : Int) = ((3 : Nat) : Int))) _).mono ?_; rintro e w' ⟨rfl, rfl⟩)
      refine bodyPost_ret (v := .agg #[.int .i64 0, .int .i64 0]) (by simp [results, Tryz.results53, go_sem]) rfl ⟨by rw [HF.out]; rfl, ?_⟩
      repeat (first | exact Below.refl _ _ | refine Below.setCell ?_ (by exact Nat.le_refl _) _ | refine Below.alloc ?_ (Nat.le_refl _) _ | refine Below.drew ?_ | refine below_dN ?_ _)
  have d7 : decide ((x0 : Int) < 245) = false := by simp; omega
  have HF : Hid (fst s = (0, 0)) := fst_none (by unfold decodeN; (repeat' split) <;> first | rfl | (exfalso; omega)) hx0 hx1 hx2 hx3
  clear hx0 hx1 hx2 hx3
  go_enter Tryz.func53, Tryz.ntmps53
  go_wp2_with (go_at_call 85; refine (tail_any _ _ _ (by first | exact (rfl : (1 : Int) = ((1 : Nat) : Int)) | exact (rfl : (2 : Int) = ((2 : Nat) : Int)) | exact (rfl : (3 : Int) = ((3 : Nat) : Int))) _).mono ?_; rintro e w' ⟨rfl, rfl⟩)
  refine bodyPost_ret (v := .agg #[.int .i64 0, .int .i64 0]) (by simp [results, Tryz.results53, go_sem]) rfl ⟨by rw [HF.out]; rfl, ?_⟩
  repeat (first | exact Below.refl _ _ | refine Below.setCell ?_ (by exact Nat.le_refl _) _ | refine Below.alloc ?_ (Nat.le_refl _) _ | refine Below.drew ?_ | refine below_dN ?_ _)
end Go.Proofs.YtdendpckihckeaaGreatDoor
/- value.scanNumbered, scanEscape, scanRune at any text: walks. -/
namespace Go.Proofs.YtdendpckihckeaaGreatDoor
open Go.RowKit

/-- What scanning a rune hands back. -/
def srV : Option (Nat × Nat) → Value
  | some p => .tuple #[.int .i32 (p.1 : Int), .int .i64 (p.2 : Int)]
  | none => .tuple #[.int .i32 0, .int .i64 0]
/-- What the variable of syntax errors holds. -/
def ES (w : World) : Prop := ∃ ev, w.cell? ⟨6, 0, none⟩ = some ev ∧ (ev = .nilIface ∨ ∃ te pe, ev = .iface te pe)
theorem ES_below {w w' : World} (h : ES w) (hb : Below w.heap.size w w') : ES w' := by
  obtain ⟨ev, h1, h2⟩ := h
  exact ⟨ev, (hb.cell (p := ⟨6, 0, none⟩) (World.block_lt_of_cell? _ _ h1)).trans h1, h2⟩
theorem parseUint_ok (t : ByteArray) (n : Nat) (w : World) (h1 : t.size ≠ 0) (h2 : t.size ≤ 2) (h : puL t.data.toList = some n) :
    Calls Tryz.prog 128 #[.string t, .int .i64 16, .int .i64 8] w fun e w' => e = .returned (.tuple #[.int .u64 (n : Int), .nilIface]) ∧ Below w.heap.size w w' := by
  have hp : puVal (puG 0 t.data.toList) = .tuple #[.int .u64 (n : Int), .nilIface] := by
    rw [puG_puL (by rw [← Lib.size_eq]; exact h1) (by rw [← Lib.size_eq]; exact h2), h]; rfl
  clear h
  go_enter Tryz.func128, Tryz.ntmps128
  go_wp2_with fail
  refine (parseUint_i t _ h1 h2).mono ?_
  rintro e w1 ⟨rfl, hb1⟩
  rw [hp]
  clear hp
  go_wp2
  go_ret2
  exact ⟨rfl, hb1⟩
/-- A syntax error. -/
def NoPost (w : World) (e : Ending) (w' : World) : Prop := (∃ q, e = .returned (.tuple #[.int .u64 0, .iface 165 (.pointer q)])) ∧ Below w.heap.size w w'
theorem parseUint_no (t : ByteArray) (w : World) (hE : ES w) (h1 : t.size ≠ 0) (h2 : t.size ≤ 2) (h : puL t.data.toList = none) :
    Calls Tryz.prog 128 #[.string t, .int .i64 16, .int .i64 8] w fun e w' => NoPost w e w' := by
  have hp : puVal (puG 0 t.data.toList) = .tuple #[.int .u64 0, .iface 163 (.int .i64 2)] := by
    rw [puG_puL (by rw [← Lib.size_eq]; exact h1) (by rw [← Lib.size_eq]; exact h2), h]; rfl
  clear h
  go_enter Tryz.func128, Tryz.ntmps128
  go_wp2_with fail
  refine (parseUint_i t _ h1 h2).mono ?_
  rintro e w1 ⟨rfl, hb1⟩
  rw [hp]
  clear hp
  obtain ⟨ev, e1, e2⟩ := ES_below hE hb1
  have HE : Hid (w1.cell? ⟨6, 0, none⟩ = some ev) := e1
  have HF : Hid (ev = .nilIface ∨ ∃ te pe, ev = .iface te pe) := e2
  clear e1 e2
  go_wp2_with fail
  refine (Tryz.strconv_toError_syntax _ _ _ _ ev _ (by omega) HE.out HF.out).mono ?_
  rintro e w2 ⟨N, rfl, -, -, hb2⟩
  have hB2 : Hid (Below w.heap.size w w2) := hb1.trans (hb2.mono hb1.size)
  clear hb2 HE HF
  go_wp2
  go_ret2
  exact ⟨⟨_, rfl⟩, hB2.out⟩
theorem take_list (s : ByteArray) (m : Nat) : (s.extract 0 m).data.toList = s.data.toList.take m := by
  rw [Lib.extract_data]
  simp
theorem mid_list (s : ByteArray) (a b : Nat) : (s.extract a b).data.toList = (s.data.toList.drop a).take (b - a) := Lib.extract_data ..
theorem beq_str (a b : ByteArray) : (a.toList == b.toList) = decide (a = b) := by
  rw [Bool.eq_iff_iff, beq_iff_eq, decide_eq_true_eq, ByteArray.toList_eq, ByteArray.toList_eq]
  exact ⟨ba_eq, fun h => by rw [h]⟩
theorem bneq_str {a b : ByteArray} (h : ¬ a = b) : (!a.toList == b.toList) = true := by rw [beq_str, decide_eq_false h]; rfl
theorem beqs_no {a b : ByteArray} (h : ¬ a = b) : (a.toList == b.toList) = false := by rw [beq_str, decide_eq_false h]
theorem T16_drew' {w : World} (h : T16 w) : T16 w.drew := h
theorem SN_call {w0 W w' : World} (hb : Below W.heap.size W w') (h : T16 W ∧ Below w0.heap.size w0 W) : T16 w' ∧ Below w0.heap.size w0 w' := ⟨T16_below h.1 hb, h.2.trans (hb.mono h.2.size)⟩
theorem SN_drew {w0 W : World} (h : T16 W ∧ Below w0.heap.size w0 W) : T16 W.drew ∧ Below w0.heap.size w0 W.drew := ⟨h.1, h.2.drew⟩
theorem min6 (s : ByteArray) : (s.extract 0 (min (s.size : Int) 6).toNat).data.toList = s.data.toList.take 6 := by
  rw [take_list]
  by_cases h : s.size ≤ 6
  · rw [show (min (s.size : Int) 6).toNat = s.size by omega, List.take_of_length_le (by rw [← Lib.size_eq]; exact Nat.le_refl _), List.take_of_length_le (by rw [← Lib.size_eq]; exact h)]
  · rw [show (min (s.size : Int) 6).toNat = 6 by omega]
theorem ixb_any (s : ByteArray) (w : World) : Calls Tryz.prog 60 #[.string (s.extract 0 (min (s.size : Int) 6).toNat), .int .u8 125] w fun e w' => e = .returned (.int .i64 (Lib.indexByte (s.data.toList.take 6) 125)) ∧ w' = w := by
  have := Tryz.strings_IndexByte (s.extract 0 (min (s.size : Int) 6).toNat) 125 w
  rw [min6] at this
  exact this
set_option maxRecDepth 100000 in
set_option maxHeartbeats 2000000 in
theorem scanNum_no (s : ByteArray) (w : World) (hs : s.size ≤ 140737488355328) (hJ : Lib.indexByte (s.data.toList.take 6) 125 < 4) :
    Calls Tryz.prog 110 #[.string s] w fun e w' => e = .returned (.tuple #[.int .i32 0, .int .i64 0]) ∧ Below w.heap.size w w' := by
  have hge := Lib.indexByte_ge (s.data.toList.take 6) 125
  have HI : Hid (∀ w, Calls Tryz.prog 60 #[.string (s.extract 0 (min (s.size : Int) 6).toNat), .int .u8 125] w fun e w' => e = .returned (.int .i64 (Lib.indexByte (s.data.toList.take 6) 125)) ∧ w' = w) := fun w => ixb_any s w
  generalize Lib.indexByte (s.data.toList.take 6) 125 = J at *
  go_enter Tryz.func110, Tryz.ntmps110
  go_wp2_with fail
  refine (HI.out _).mono ?_
  rintro e w1 ⟨rfl, rfl⟩
  go_wp2
  go_ret2
  exact ⟨rfl, Below.refl _ _⟩
set_option maxRecDepth 100000 in
set_option maxHeartbeats 2000000 in
theorem scanNum_err (s : ByteArray) (w : World) (hs : s.size ≤ 140737488355328) (J : Nat) (hJ : Lib.indexByte (s.data.toList.take 6) 125 = (J : Int)) (h4 : J = 4 ∨ J = 5) (hz : J < s.size) (hE : ES w) (hp : puL (s.extract 3 J).data.toList = none) :
    Calls Tryz.prog 110 #[.string s] w fun e w' => e = .returned (.tuple #[.int .i32 0, .int .i64 0]) ∧ Below w.heap.size w w' := by
  have HI : Hid (∀ w, Calls Tryz.prog 60 #[.string (s.extract 0 (min (s.size : Int) 6).toNat), .int .u8 125] w fun e w' => e = .returned (.int .i64 (J : Int)) ∧ w' = w) := fun w => by rw [← hJ]; exact ixb_any s w
  have hms : (s.extract 3 J).size = J - 3 := by rw [ByteArray.size_extract]; omega
  have HP : Hid (∀ w, ES w → Calls Tryz.prog 128 #[.string (s.extract 3 J), .int .i64 16, .int .i64 8] w fun e w' => NoPost w e w') := fun w h => parseUint_no _ w h (by omega) (by omega) hp
  have hz' : (J : Int) ≤ s.size := by omega
  clear hJ hp hms
  rcases h4 with rfl | rfl
  all_goals
    go_enter Tryz.func110, Tryz.ntmps110
    go_wp2_with fail
    refine (HI.out _).mono ?_
    rintro e w1 ⟨rfl, rfl⟩
    go_wp2_with fail
    refine (HP.out _ hE).mono ?_
    rintro e w2 ⟨⟨q, rfl⟩, hb2⟩
    go_wp2
    go_region
    all_goals go_wp2
    all_goals go_ret2
    all_goals exact ⟨rfl, by first | assumption | exact Below.drew (by assumption)⟩
set_option maxRecDepth 100000 in
set_option maxHeartbeats 2000000 in
theorem scanNum_ok (s : ByteArray) (w : World) (hs : s.size ≤ 140737488355328) (J n : Nat) (hJ : Lib.indexByte (s.data.toList.take 6) 125 = (J : Int)) (h4 : J = 4 ∨ J = 5) (hz : J < s.size) (hT : T16 w) (hp : puL (s.extract 3 J).data.toList = some n) :
    Calls Tryz.prog 110 #[.string s] w fun e w' => e = .returned (if str (shR n) = s.extract 0 (J + 1) then .tuple #[.int .i32 (n : Int), .int .i64 ((J + 1 : Nat) : Int)] else .tuple #[.int .i32 0, .int .i64 0]) ∧ Below w.heap.size w w' := by
  have hn := puL_lt hp
  have HI : Hid (∀ w, Calls Tryz.prog 60 #[.string (s.extract 0 (min (s.size : Int) 6).toNat), .int .u8 125] w fun e w' => e = .returned (.int .i64 (J : Int)) ∧ w' = w) := fun w => by rw [← hJ]; exact ixb_any s w
  have hms : (s.extract 3 J).size = J - 3 := by rw [ByteArray.size_extract]; omega
  have HP : Hid (∀ w, Calls Tryz.prog 128 #[.string (s.extract 3 J), .int .i64 16, .int .i64 8] w fun e w' => e = .returned (.tuple #[.int .u64 (n : Int), .nilIface]) ∧ Below w.heap.size w w') := fun w => parseUint_ok _ n w (by omega) (by omega) hp
  have HS : Hid (∀ w, T16 w → Calls Tryz.prog 74 #[.int .i32 (n : Int)] w fun e w' => e = .returned (.string (str (shR n))) ∧ Below w.heap.size w w') := fun w h => showRune_all n w (.inl (by omega)) h
  have hz' : (J : Int) ≤ s.size := by omega
  generalize str (shR n) = Y at *
  clear hJ hp hms
  have key : ∀ (C : Bool), C = decide (Y = s.extract 0 (J + 1)) → Calls Tryz.prog 110 #[.string s] w fun e w' => e = .returned (if C = true then .tuple #[.int .i32 (n : Int), .int .i64 ((J + 1 : Nat) : Int)] else .tuple #[.int .i32 0, .int .i64 0]) ∧ Below w.heap.size w w' := by
    intro C hC
    rcases h4 with rfl | rfl
    all_goals
      have hz5 : (5 : Int) ≤ s.size := by omega
      try (have hz6 : (6 : Int) ≤ s.size := by omega)
      cases C
      · have hc : ¬ Y = s.extract 0 _ := of_decide_eq_false hC.symm
        simp only [Nat.reduceAdd] at hc
        have hq := bneq_str hc
        clear hC hc
        go_enter Tryz.func110, Tryz.ntmps110
        go_wp2_with fail
        refine (HI.out _).mono ?_
        rintro e w1 ⟨rfl, rfl⟩
        go_wp2_with fail
        refine (HP.out _).mono ?_
        rintro e w2 ⟨rfl, hb2⟩
        have hT2 : T16 w2 ∧ Below w1.heap.size w1 w2 := ⟨T16_below hT hb2, hb2⟩
        clear hb2
        go_wp2
        go_region_held3 (fun w' => T16 w' ∧ Below w1.heap.size w1 w') (first | assumption | exact SN_call (by assumption) (by assumption) | exact SN_drew (by assumption)) (first | (go_at_call 74; refine (HS.out _ ?_).mono ?_; exact (show T16 _ ∧ _ by assumption).1; rintro e w' ⟨rfl, hb⟩))
        all_goals go_wp2
        all_goals go_ret2
        all_goals exact ⟨rfl, (show T16 _ ∧ _ by assumption).2⟩
      · have hc : Y = s.extract 0 _ := of_decide_eq_true hC.symm
        simp only [Nat.reduceAdd] at hc
        clear hC
        subst hc
        go_enter Tryz.func110, Tryz.ntmps110
        go_wp2_with fail
        refine (HI.out _).mono ?_
        rintro e w1 ⟨rfl, rfl⟩
        go_wp2_with fail
        refine (HP.out _).mono ?_
        rintro e w2 ⟨rfl, hb2⟩
        have hT2 : T16 w2 ∧ Below w1.heap.size w1 w2 := ⟨T16_below hT hb2, hb2⟩
        clear hb2
        go_wp2
        go_region_held3 (fun w' => T16 w' ∧ Below w1.heap.size w1 w') (first | assumption | exact SN_call (by assumption) (by assumption) | exact SN_drew (by assumption)) (first | (go_at_call 74; refine (HS.out _ ?_).mono ?_; exact (show T16 _ ∧ _ by assumption).1; rintro e w' ⟨rfl, hb⟩))
        all_goals go_wp2
        all_goals go_ret2
        all_goals exact ⟨rfl, (show T16 _ ∧ _ by assumption).2⟩
  have := key _ rfl
  simpa using this
theorem str_inj {a b : List UInt8} (h : str a = str b) : a = b := by rw [← str_data a, h, str_data]
theorem ext5 (s : ByteArray) (m : Nat) : s.extract 0 m = str (s.data.toList.take m) := ba_eq (by rw [str_data, Lib.extract_data]; simp)
/-- scanNumbered at any text that opens with a back stroke and an u. -/
theorem scanNum_any (s : ByteArray) (u : List UInt8) (w : World) (hs : s.size ≤ 140737488355328) (hu : s.data.toList = 92 :: 117 :: u) (hT : T16 w) (hE : ES w) :
    Calls Tryz.prog 110 #[.string s] w fun e w' => e = .returned (srV ((escL s.data.toList).map fun c => (c, (shR c).length))) ∧ Below w.heap.size w w' := by
  have hsz : s.size = u.length + 2 := by rw [Lib.size_eq, hu]; rfl
  rcases ix_cases u with h | ⟨h, a, b, t, rfl⟩ | ⟨h, a, b, c, t, rfl⟩
  · rw [hu, esc_num_no h]
    exact scanNum_no s w hs (by rw [hu]; exact h)
  · have hm : (s.extract 3 4).data.toList = [b] := by rw [mid_list, hu]; rfl
    have h5 : s.extract 0 (4 + 1) = str [92, 117, a, b, 125] := by rw [ext5, hu]; rfl
    rw [hu, esc_num1 h]
    cases hp : puL [b] with
    | none => exact scanNum_err s w hs 4 (by rw [hu]; exact h) (.inl rfl) (by rw [hsz]; simp) hE (by rw [hm]; exact hp)
    | some n =>
      have := scanNum_ok s w hs 4 n (by rw [hu]; exact h) (.inl rfl) (by rw [hsz]; simp) hT (by rw [hm]; exact hp)
      rw [h5] at this
      have e : (srV (((some n).bind fun n => if shR n = [92, 117, a, b, 125] then some n else none).map fun c => (c, (shR c).length))) = if str (shR n) = str [92, 117, a, b, 125] then Value.tuple #[.int .i32 (n : Int), .int .i64 ((4 + 1 : Nat) : Int)] else .tuple #[.int .i32 0, .int .i64 0] := by
        by_cases hc : shR n = [92, 117, a, b, 125]
        · simp [hc, srV]
        · rw [if_neg (fun e => hc (str_inj e))]
          simp [hc, srV]
      rw [e]
      exact this
  · have hm : (s.extract 3 5).data.toList = [b, c] := by rw [mid_list, hu]; rfl
    have h6 : s.extract 0 (5 + 1) = str [92, 117, a, b, c, 125] := by rw [ext5, hu]; rfl
    rw [hu, esc_num2 h]
    cases hp : puL [b, c] with
    | none => exact scanNum_err s w hs 5 (by rw [hu]; exact h) (.inr rfl) (by rw [hsz]; simp) hE (by rw [hm]; exact hp)
    | some n =>
      have := scanNum_ok s w hs 5 n (by rw [hu]; exact h) (.inr rfl) (by rw [hsz]; simp) hT (by rw [hm]; exact hp)
      rw [h6] at this
      have e : (srV (((some n).bind fun n => if shR n = [92, 117, a, b, c, 125] then some n else none).map fun c => (c, (shR c).length))) = if str (shR n) = str [92, 117, a, b, c, 125] then Value.tuple #[.int .i32 (n : Int), .int .i64 ((5 + 1 : Nat) : Int)] else .tuple #[.int .i32 0, .int .i64 0] := by
        by_cases hc : shR n = [92, 117, a, b, c, 125]
        · simp [hc, srV]
        · rw [if_neg (fun e => hc (str_inj e))]
          simp [hc, srV]
      rw [e]
      exact this
theorem gN_list (s : ByteArray) (i : Nat) (h : i < s.size) : gN s i = (s.data.toList.getD i 0).toNat := by
  rw [← gN_of s i h, List.getD_eq_getElem?_getD, List.getElem?_eq_getElem (by rw [← Lib.size_eq]; exact h)]
  rfl
set_option maxRecDepth 100000 in
set_option maxHeartbeats 2000000 in
theorem scanEscape_any (s : ByteArray) (w : World) (hs : s.size ≤ 140737488355328) (hh : s.data.toList.head? = some 92) (hT : T16 w) (hE : ES w) :
    Calls Tryz.prog 86 #[.string s] w fun e w' => e = .returned (srV ((escL s.data.toList).map fun c => (c, (shR c).length))) ∧ Below w.heap.size w w' := by
  have hse : s.size = s.data.toList.length := Lib.size_eq s
  obtain ⟨l', hl⟩ : ∃ t, s.data.toList = 92 :: t := by
    cases e : s.data.toList with
    | nil => rw [e] at hh; cases hh
    | cons b t => rw [e] at hh; simp only [List.head?_cons, Option.some.injEq] at hh; exact ⟨t, by rw [hh]⟩
  rw [hl]
  cases l' with
  | nil =>
    rw [hl] at hse
    have hd : decide ((s.size : Int) < 2) = true := by rw [hse]; rfl
    rw [esc_one]
    clear hl hse hh
    go_enter Tryz.func86, Tryz.ntmps86
    go_wp2
    go_ret2
    exact ⟨rfl, Below.refl _ _⟩
  | cons b t =>
    rw [hl] at hse
    have hd : decide ((s.size : Int) < 2) = false := by rw [hse]; simp only [List.length_cons, decide_eq_false_iff_not]; omega
    have h1 : 1 < s.size := by rw [hse]; simp
    have h1' : (1 : Int) < s.size := by omega
    have hg := gN_of s 1 h1
    have hb : gN s 1 = b.toNat := by rw [gN_list s 1 h1, hl]; rfl
    have hlt := gN_lt s 1
    have HB : Hid (gN s 1 = b.toNat) := hb
    have key : ∀ x : UInt8, b = x ∨ ((gN s 1 : Int) == (x.toNat : Int)) = false := fun x => by
      by_cases e : b = x
      · exact .inl e
      · refine .inr ?_
        rw [beq_eq_false_iff_ne, HB.out]
        intro h
        exact e (UInt8.toNat_inj.1 (by omega))
    have k1 := key 34
    have k2 := key 92
    have k3 := key 110
    have k4 := key 116
    have k5 := key 114
    have k6 := key 117
    have HN : Hid (b = 117 → Calls Tryz.prog 110 #[.string s] w fun e w' => e = .returned (srV ((escL s.data.toList).map fun c => (c, (shR c).length))) ∧ Below w.heap.size w w') := fun e => scanNum_any s t w hs (by rw [hl, e]) hT hE
    rw [hl] at HN
    clear hl hse hh hb key
    rcases k1 with rfl | k1
    · have e34 : gN s 1 = 34 := HB.out
      rw [e34] at hg
      rw [esc_q]
      clear HN HB e34 hlt k2 k3 k4 k5 k6
      go_enter Tryz.func86, Tryz.ntmps86
      go_wp2
      go_ret2
      exact ⟨rfl, Below.refl _ _⟩
    rcases k2 with rfl | k2
    · have e34 : gN s 1 = 92 := HB.out
      rw [e34] at hg
      rw [esc_b]
      clear HN HB e34 hlt k1 k3 k4 k5 k6
      go_enter Tryz.func86, Tryz.ntmps86
      go_wp2
      go_ret2
      exact ⟨rfl, Below.refl _ _⟩
    rcases k3 with rfl | k3
    · have e34 : gN s 1 = 110 := HB.out
      rw [e34] at hg
      rw [esc_n]
      clear HN HB e34 hlt k1 k2 k4 k5 k6
      go_enter Tryz.func86, Tryz.ntmps86
      go_wp2
      go_ret2
      exact ⟨rfl, Below.refl _ _⟩
    rcases k4 with rfl | k4
    · have e34 : gN s 1 = 116 := HB.out
      rw [e34] at hg
      rw [esc_t]
      clear HN HB e34 hlt k1 k2 k3 k5 k6
      go_enter Tryz.func86, Tryz.ntmps86
      go_wp2
      go_ret2
      exact ⟨rfl, Below.refl _ _⟩
    rcases k5 with rfl | k5
    · have e34 : gN s 1 = 114 := HB.out
      rw [e34] at hg
      rw [esc_r]
      clear HN HB e34 hlt k1 k2 k3 k4 k6
      go_enter Tryz.func86, Tryz.ntmps86
      go_wp2
      go_ret2
      exact ⟨rfl, Below.refl _ _⟩
    rcases k6 with rfl | k6
    · have e34 : gN s 1 = 117 := HB.out
      rw [e34] at hg
      have HN2 := HN.out rfl
      cases hX : escL (92 :: 117 :: t) with
      | none =>
        rw [hX] at HN2
        have HN3 : Hid (Calls Tryz.prog 110 #[.string s] w fun e w' => e = .returned (.tuple #[.int .i32 0, .int .i64 0]) ∧ Below w.heap.size w w') := HN2
        clear HN HB e34 hlt k1 k2 k3 k4 k5 HN2 hX
        go_enter Tryz.func86, Tryz.ntmps86
        go_wp2_with fail
        refine (Calls.mono HN3.out) ?_
        rintro e w1 ⟨rfl, hb1⟩
        go_wp2
        go_ret2
        exact ⟨rfl, hb1⟩
      | some c =>
        rw [hX] at HN2
        have HN3 : Hid (Calls Tryz.prog 110 #[.string s] w fun e w' => e = .returned (.tuple #[.int .i32 (c : Int), .int .i64 ((shR c).length : Int)]) ∧ Below w.heap.size w w') := HN2
        clear HN HB e34 hlt k1 k2 k3 k4 k5 HN2 hX
        go_enter Tryz.func86, Tryz.ntmps86
        go_wp2_with fail
        refine (Calls.mono HN3.out) ?_
        rintro e w1 ⟨rfl, hb1⟩
        go_wp2
        go_ret2
        exact ⟨rfl, hb1⟩
    · have HE : Hid (escL (92 :: b :: t) = none) := by
        have hne : ∀ x : UInt8, ((gN s 1 : Int) == (x.toNat : Int)) = false → b ≠ x := fun x h e => by
          rw [beq_eq_false_iff_ne] at h
          exact h (by rw [HB.out, e])
        exact esc_other (hne 34 k1) (hne 92 k2) (hne 110 k3) (hne 116 k4) (hne 114 k5) (hne 117 k6)
      rw [HE.out]
      simp only [show (34 : UInt8).toNat = 34 from rfl, show (92 : UInt8).toNat = 92 from rfl, show (110 : UInt8).toNat = 110 from rfl, show (116 : UInt8).toNat = 116 from rfl, show (114 : UInt8).toNat = 114 from rfl, show (117 : UInt8).toNat = 117 from rfl] at k1 k2 k3 k4 k5 k6
      have k1' : ((gN s 1 : Int) == 34) = false := k1
      have k2' : ((gN s 1 : Int) == 92) = false := k2
      have k3' : ((gN s 1 : Int) == 110) = false := k3
      have k4' : ((gN s 1 : Int) == 116) = false := k4
      have k5' : ((gN s 1 : Int) == 114) = false := k5
      have k6' : ((gN s 1 : Int) == 117) = false := k6
      clear HN HB k1 k2 k3 k4 k5 k6 HE
      generalize gN s 1 = y at *
      go_enter Tryz.func86, Tryz.ntmps86
      go_wp2
      go_ret2
      exact ⟨rfl, Below.refl _ _⟩
end Go.Proofs.YtdendpckihckeaaGreatDoor
