/- The reference's tail and First: walks. -/
import Derived.Test.YtbekpemidpngaaaGreatDoorZk0
import Derived.Lib.OthersKept
import Derived.BigCall
import Derived.RegionTactic
import Derived.Deep.QuietTactic
import Derived.BigQuiet
import Derived.Test.YtbekpemidpngaaaGreatDoorZk9
namespace Go.Proofs.YtbekpemidpngaaaGreatDoor.V
open Go.RowKit Go.Lib

/-- A byte by its number; 0 beyond the end. -/
def gN (s : ByteArray) (i : Nat) : Nat := (s.get! i).toNat
theorem gN_lt (s : ByteArray) (i : Nat) : gN s i < 256 := (s.get! i).toNat_lt
theorem gN_of (s : ByteArray) (i : Nat) (h : i < s.size) : (s[i]'h).toNat = gN s i := by
  cases s with
  | mk d =>
    show (d[i]'h).toNat = (d[i]!).toNat
    rw [getElem!_pos d i h]
def tl (s : ByteArray) (i : Nat) : Bool := decide (i < s.size ∧ 128 ≤ gN s i ∧ gN s i < 192)

set_option maxHeartbeats 1000000 in
theorem tail_any (s : ByteArray) (i : Nat) (z : Int) (hz : z = (i : Int)) (w : World) :
    Calls Tryz.prog 151 #[.string s, .int .i64 z] w fun e w' => e = .returned (.bool (tl s i)) ∧ w' = w := by
  subst hz
  by_cases hi : i < s.size
  · have hi' : (i : Int) < s.size := by omega
    have hx := gN_of s i hi
    have hlt := gN_lt s i
    have HT : Hid (tl s i = decide (128 ≤ gN s i ∧ gN s i < 192)) := by show _ = _; unfold tl; simp [hi]
    generalize tl s i = t at *
    generalize gN s i = x at *
    by_cases h1 : 128 ≤ x
    · have h1' : decide ((128 : Int) ≤ x) = true := by simp; omega
      by_cases h2 : x < 192
      · have h2' : decide ((x : Int) < 192) = true := by simp; omega
        go_enter Tryz.func151, Tryz.ntmps151
        go_wp2
        go_ret
        exact ⟨by rw [HT.out, decide_eq_true (And.intro h1 h2)]; rfl, rfl⟩
      · have h2' : decide ((x : Int) < 192) = false := by simp; omega
        go_enter Tryz.func151, Tryz.ntmps151
        go_wp2
        go_ret
        exact ⟨by rw [HT.out, decide_eq_false (fun h => h2 h.2)]; rfl, rfl⟩
    · have h1' : decide ((128 : Int) ≤ x) = false := by simp; omega
      go_enter Tryz.func151, Tryz.ntmps151
      go_wp2
      go_ret
      exact ⟨by rw [HT.out, decide_eq_false (fun h => h1 h.1)]; rfl, rfl⟩
  · have hi' : decide ((i : Int) < s.size) = false := by simp; omega
    have HT : Hid (tl s i = false) := by show _ = _; unfold tl; simp [hi]
    go_enter Tryz.func151, Tryz.ntmps151
    go_wp2
    go_ret
    exact ⟨by rw [HT.out]; rfl, rfl⟩

/-- The rune at the front and its width; (0, 0): there is none. -/
def fst (s : ByteArray) : Nat × Nat := if s.size = 0 ∨ ((Utf8.decode s 0).1 = 65533 ∧ (Utf8.decode s 0).2 = 1) then (0, 0) else Utf8.decode s 0
theorem fst_none {s : ByteArray} {x0 x1 x2 x3 : Nat} (h : decodeN s.size x0 x1 x2 x3 = (65533, 1)) (e0 : gN s 0 = x0) (e1 : gN s 1 = x1) (e2 : gN s 2 = x2) (e3 : gN s 3 = x3) : fst s = (0, 0) := by
  subst e0 e1 e2 e3
  have e : Utf8.decode s 0 = (65533, 1) := by rw [decode_at]; exact h
  unfold fst
  rw [e]
  simp
theorem fst_some {s : ByteArray} {x0 x1 x2 x3 c k : Nat} (h : decodeN s.size x0 x1 x2 x3 = (c, k)) (hn : s.size ≠ 0) (hk : c = 65533 → k ≠ 1) (e0 : gN s 0 = x0) (e1 : gN s 1 = x1) (e2 : gN s 2 = x2) (e3 : gN s 3 = x3) : fst s = (c, k) := by
  subst e0 e1 e2 e3
  have e : Utf8.decode s 0 = (c, k) := by rw [decode_at]; exact h
  unfold fst
  rw [e, if_neg]
  intro h
  rcases h with h | ⟨h1, h2⟩
  · exact hn h
  · exact hk h1 h2
theorem below_dN {B : Nat} {a w : World} (h : Below B a w) : ∀ q, Below B a (w.drewN q)
  | 0 => h
  | q + 1 => (below_dN h q).drew
def FsPost (s : ByteArray) (w : World) (e : Ending) (w' : World) : Prop :=
  e = .returned (.agg #[.int .i64 (fst s).1, .int .i64 (fst s).2]) ∧ Below w.heap.size w w'

set_option maxRecDepth 100000 in
set_option maxHeartbeats 2000000 in
theorem first_any (s : ByteArray) (w : World) (hs : s.size ≤ 140737488355328) :
    Calls Tryz.prog 121 #[.string s] w fun e w' => FsPost s w e w' := by
  by_cases hn : s.size = 0
  · have he : s.toList.isEmpty = true := by rw [ByteArray.toList_eq]; simp; exact Array.eq_empty_of_size_eq_zero hn
    have HF : Hid (fst s = (0, 0)) := by show _ = _; simp [fst, hn]
    go_enter Tryz.func121, Tryz.ntmps121
    go_wp2
    refine bodyPost_ret (v := .agg #[.int .i64 0, .int .i64 0]) (by simp [results, Tryz.results121, go_sem]) rfl ⟨by rw [HF.out]; rfl, ?_⟩
    repeat (first | exact Below.refl _ _ | refine Below.setCell ?_ (by exact Nat.le_refl _) _ | refine Below.alloc ?_ (Nat.le_refl _) _ | refine Below.drew ?_ | refine below_dN ?_ _)
  have he : s.toList.isEmpty = false := by rw [ByteArray.toList_eq]; simp; intro h; rw [ByteArray.size, h] at hn; exact hn rfl
  have hn0 : (0 : Int) < s.size := by omega
  have hy0 := gN_of s 0 (by omega)
  obtain ⟨x0, hx0⟩ : ∃ x0, gN s 0 = x0 := ⟨_, rfl⟩
  obtain ⟨x1, hx1⟩ : ∃ x1, gN s 1 = x1 := ⟨_, rfl⟩
  obtain ⟨x2, hx2⟩ : ∃ x2, gN s 2 = x2 := ⟨_, rfl⟩
  obtain ⟨x3, hx3⟩ : ∃ x3, gN s 3 = x3 := ⟨_, rfl⟩
  have l0 : x0 < 256 := hx0 ▸ gN_lt s 0
  have l1 : x1 < 256 := hx1 ▸ gN_lt s 1
  have l2 : x2 < 256 := hx2 ▸ gN_lt s 2
  have l3 : x3 < 256 := hx3 ▸ gN_lt s 3
  rw [hx0] at hy0
  by_cases a1 : x0 < 128
  · have d1 : decide ((x0 : Int) < 128) = true := by simp; omega
    have HF : Hid (fst s = (x0, 1)) := fst_some (by unfold decodeN; rw [if_pos a1]) hn (by omega) hx0 hx1 hx2 hx3
    clear hx0 hx1 hx2 hx3
    go_enter Tryz.func121, Tryz.ntmps121
    go_wp2_with (go_at_call 151; refine (tail_any _ _ _ (by first | exact (rfl : (1 : Int) = ((1 : Nat) : Int)) | exact (rfl : (2 : Int) = ((2 : Nat) : Int)) | exact (rfl : (3 : Int) = ((3 : Nat) : Int))) _).mono ?_; rintro e w' ⟨rfl, rfl⟩)
    refine bodyPost_ret (v := .agg #[.int .i64 x0, .int .i64 1]) (by simp [results, Tryz.results121, go_sem]) rfl ⟨by rw [HF.out]; rfl, ?_⟩
    repeat (first | exact Below.refl _ _ | refine Below.setCell ?_ (by exact Nat.le_refl _) _ | refine Below.alloc ?_ (Nat.le_refl _) _ | refine Below.drew ?_ | refine below_dN ?_ _)
  have d1 : decide ((x0 : Int) < 128) = false := by simp; omega
  by_cases a2 : x0 < 194
  · have d2 : decide ((194 : Int) ≤ x0) = false := by simp; omega
    have d4 : decide ((224 : Int) ≤ x0) = false := by simp; omega
    have d6 : decide ((240 : Int) ≤ x0) = false := by simp; omega
    have HF : Hid (fst s = (0, 0)) := fst_none (by unfold decodeN; (repeat' split) <;> first | rfl | (exfalso; omega)) hx0 hx1 hx2 hx3
    clear hx0 hx1 hx2 hx3
    go_enter Tryz.func121, Tryz.ntmps121
    go_wp2_with (go_at_call 151; refine (tail_any _ _ _ (by first | exact (rfl : (1 : Int) = ((1 : Nat) : Int)) | exact (rfl : (2 : Int) = ((2 : Nat) : Int)) | exact (rfl : (3 : Int) = ((3 : Nat) : Int))) _).mono ?_; rintro e w' ⟨rfl, rfl⟩)
    refine bodyPost_ret (v := .agg #[.int .i64 0, .int .i64 0]) (by simp [results, Tryz.results121, go_sem]) rfl ⟨by rw [HF.out]; rfl, ?_⟩
    repeat (first | exact Below.refl _ _ | refine Below.setCell ?_ (by exact Nat.le_refl _) _ | refine Below.alloc ?_ (Nat.le_refl _) _ | refine Below.drew ?_ | refine below_dN ?_ _)
  have d2 : decide ((194 : Int) ≤ x0) = true := by simp; omega
  by_cases a3 : x0 < 224
  · have d3 : decide ((x0 : Int) < 224) = true := by simp; omega
    have d4 : decide ((224 : Int) ≤ x0) = false := by simp; omega
    have d6 : decide ((240 : Int) ≤ x0) = false := by simp; omega
    by_cases t1 : tl s 1 = true
    · have t1' := t1
      simp only [tl, decide_eq_true_eq, hx1] at t1'
      have hn1 : (1 : Int) < s.size := by omega
      have hy1 := gN_of s 1 (by omega)
      rw [hx1] at hy1
      have HF : Hid (fst s = (64 * (x0 - 192) + x1 - 128, 2)) := fst_some (by unfold decodeN; rw [if_neg (by omega), if_pos (by omega), if_pos (by omega)]; apply Prod.ext <;> simp only; omega) hn (by omega) hx0 hx1 hx2 hx3
      have HV : Hid ((64 : Int) * ((x0 : Int) - 192) + x1 - 128 = ((64 * (x0 - 192) + x1 - 128 : Nat) : Int)) := by show _ = _; omega
      clear hx0 hx1 hx2 hx3
      go_enter Tryz.func121, Tryz.ntmps121
      go_wp2_with (go_at_call 151; refine (tail_any _ _ _ (by first | exact (rfl : (1 : Int) = ((1 : Nat) : Int)) | exact (rfl : (2 : Int) = ((2 : Nat) : Int)) | exact (rfl : (3 : Int) = ((3 : Nat) : Int))) _).mono ?_; rintro e w' ⟨rfl, rfl⟩)
      refine bodyPost_ret (v := .agg #[.int .i64 ((64 : Int) * ((x0 : Int) - 192) + x1 - 128), .int .i64 2]) (by simp [results, Tryz.results121, go_sem]) rfl ⟨by rw [HF.out, HV.out]; rfl, ?_⟩
      repeat (first | exact Below.refl _ _ | refine Below.setCell ?_ (by exact Nat.le_refl _) _ | refine Below.alloc ?_ (Nat.le_refl _) _ | refine Below.drew ?_ | refine below_dN ?_ _)
    · have t1' : ¬ (1 < s.size ∧ 128 ≤ x1 ∧ x1 < 192) := by simpa only [tl, decide_eq_true_eq, hx1] using t1
      have t1f : tl s 1 = false := by simpa using t1
      have HF : Hid (fst s = (0, 0)) := fst_none (by unfold decodeN; (repeat' split) <;> first | rfl | (exfalso; omega)) hx0 hx1 hx2 hx3
      clear hx0 hx1 hx2 hx3 t1
      go_enter Tryz.func121, Tryz.ntmps121
      go_wp2_with (go_at_call 151; refine (tail_any _ _ _ (by first | exact (rfl : (1 : Int) = ((1 : Nat) : Int)) | exact (rfl : (2 : Int) = ((2 : Nat) : Int)) | exact (rfl : (3 : Int) = ((3 : Nat) : Int))) _).mono ?_; rintro e w' ⟨rfl, rfl⟩)
      refine bodyPost_ret (v := .agg #[.int .i64 0, .int .i64 0]) (by simp [results, Tryz.results121, go_sem]) rfl ⟨by rw [HF.out]; rfl, ?_⟩
      repeat (first | exact Below.refl _ _ | refine Below.setCell ?_ (by exact Nat.le_refl _) _ | refine Below.alloc ?_ (Nat.le_refl _) _ | refine Below.drew ?_ | refine below_dN ?_ _)
  have d3 : decide ((x0 : Int) < 224) = false := by simp; omega
  have d4 : decide ((224 : Int) ≤ x0) = true := by simp; omega
  by_cases a4 : x0 < 240
  · have d5 : decide ((x0 : Int) < 240) = true := by simp; omega
    have d6 : decide ((240 : Int) ≤ x0) = false := by simp; omega
    by_cases t1 : tl s 1 = true
    · have t1' := t1
      simp only [tl, decide_eq_true_eq, hx1] at t1'
      by_cases t2 : tl s 2 = true
      · have t2' := t2
        simp only [tl, decide_eq_true_eq, hx2] at t2'
        have hn1 : (1 : Int) < s.size := by omega
        have hn2 : (2 : Int) < s.size := by omega
        have hy1 := gN_of s 1 (by omega)
        rw [hx1] at hy1
        have hy2 := gN_of s 2 (by omega)
        rw [hx2] at hy2
        obtain ⟨c, hc⟩ : ∃ c, c = 4096 * (x0 - 224) + 64 * (x1 - 128) + x2 - 128 := ⟨_, rfl⟩
        have HV : (4096 : Int) * ((x0 : Int) - 224) + 64 * ((x1 : Int) - 128) + x2 - 128 = (c : Int) := by omega
        by_cases ok : 2048 ≤ c ∧ (c < 55296 ∨ 57343 < c)
        · have HF : Hid (fst s = (c, 3)) := fst_some (by unfold decodeN; rw [if_neg (by omega), if_neg (by omega), if_pos (by omega), if_pos (by omega)]; apply Prod.ext <;> simp only; omega) hn (by omega) hx0 hx1 hx2 hx3
          have k1 : decide ((2048 : Int) ≤ c) = true := by simp; omega
          clear hx0 hx1 hx2 hx3 hc
          by_cases ok2 : c < 55296
          · have k2 : decide ((c : Int) < 55296) = true := by simp; omega
            go_enter Tryz.func121, Tryz.ntmps121
            go_wp2_with (go_at_call 151; refine (tail_any _ _ _ (by first | exact (rfl : (1 : Int) = ((1 : Nat) : Int)) | exact (rfl : (2 : Int) = ((2 : Nat) : Int)) | exact (rfl : (3 : Int) = ((3 : Nat) : Int))) _).mono ?_; rintro e w' ⟨rfl, rfl⟩)
            go_quiet (fail)
            go_wp2
            refine bodyPost_ret (v := .agg #[.int .i64 c, .int .i64 3]) (by simp [results, Tryz.results121, go_sem]) rfl ⟨by rw [HF.out]; rfl, ?_⟩
            repeat (first | exact Below.refl _ _ | refine Below.setCell ?_ (by exact Nat.le_refl _) _ | refine Below.alloc ?_ (Nat.le_refl _) _ | refine Below.drew ?_ | refine below_dN ?_ _)
          · have k2 : decide ((c : Int) < 55296) = false := by simp; omega
            have k3 : decide ((57343 : Int) < c) = true := by simp; omega
            go_enter Tryz.func121, Tryz.ntmps121
            go_wp2_with (go_at_call 151; refine (tail_any _ _ _ (by first | exact (rfl : (1 : Int) = ((1 : Nat) : Int)) | exact (rfl : (2 : Int) = ((2 : Nat) : Int)) | exact (rfl : (3 : Int) = ((3 : Nat) : Int))) _).mono ?_; rintro e w' ⟨rfl, rfl⟩)
            go_quiet (fail)
            go_wp2
            refine bodyPost_ret (v := .agg #[.int .i64 c, .int .i64 3]) (by simp [results, Tryz.results121, go_sem]) rfl ⟨by rw [HF.out]; rfl, ?_⟩
            repeat (first | exact Below.refl _ _ | refine Below.setCell ?_ (by exact Nat.le_refl _) _ | refine Below.alloc ?_ (Nat.le_refl _) _ | refine Below.drew ?_ | refine below_dN ?_ _)
        · have HF : Hid (fst s = (0, 0)) := fst_none (by unfold decodeN; rw [if_neg (by omega), if_neg (by omega), if_pos (by omega), if_neg (by omega)]) hx0 hx1 hx2 hx3
          clear hx0 hx1 hx2 hx3 hc
          by_cases ok1 : 2048 ≤ c
          · have k1 : decide ((2048 : Int) ≤ c) = true := by simp; omega
            have k2 : decide ((c : Int) < 55296) = false := by simp; omega
            have k3 : decide ((57343 : Int) < c) = false := by simp; omega
            go_enter Tryz.func121, Tryz.ntmps121
            go_wp2_with (go_at_call 151; refine (tail_any _ _ _ (by first | exact (rfl : (1 : Int) = ((1 : Nat) : Int)) | exact (rfl : (2 : Int) = ((2 : Nat) : Int)) | exact (rfl : (3 : Int) = ((3 : Nat) : Int))) _).mono ?_; rintro e w' ⟨rfl, rfl⟩)
            go_quiet (fail)
            go_wp2
            refine bodyPost_ret (v := .agg #[.int .i64 0, .int .i64 0]) (by simp [results, Tryz.results121, go_sem]) rfl ⟨by rw [HF.out]; rfl, ?_⟩
            repeat (first | exact Below.refl _ _ | refine Below.setCell ?_ (by exact Nat.le_refl _) _ | refine Below.alloc ?_ (Nat.le_refl _) _ | refine Below.drew ?_ | refine below_dN ?_ _)
          · have k1 : decide ((2048 : Int) ≤ c) = false := by simp; omega
            go_enter Tryz.func121, Tryz.ntmps121
            go_wp2_with (go_at_call 151; refine (tail_any _ _ _ (by first | exact (rfl : (1 : Int) = ((1 : Nat) : Int)) | exact (rfl : (2 : Int) = ((2 : Nat) : Int)) | exact (rfl : (3 : Int) = ((3 : Nat) : Int))) _).mono ?_; rintro e w' ⟨rfl, rfl⟩)
            go_quiet (fail)
            go_wp2
            refine bodyPost_ret (v := .agg #[.int .i64 0, .int .i64 0]) (by simp [results, Tryz.results121, go_sem]) rfl ⟨by rw [HF.out]; rfl, ?_⟩
            repeat (first | exact Below.refl _ _ | refine Below.setCell ?_ (by exact Nat.le_refl _) _ | refine Below.alloc ?_ (Nat.le_refl _) _ | refine Below.drew ?_ | refine below_dN ?_ _)
      · have t2' : ¬ (2 < s.size ∧ 128 ≤ x2 ∧ x2 < 192) := by simpa only [tl, decide_eq_true_eq, hx2] using t2
        have t2f : tl s 2 = false := by simpa using t2
        have HF : Hid (fst s = (0, 0)) := fst_none (by unfold decodeN; (repeat' split) <;> first | rfl | (exfalso; omega)) hx0 hx1 hx2 hx3
        clear hx0 hx1 hx2 hx3 t2
        go_enter Tryz.func121, Tryz.ntmps121
        go_wp2_with (go_at_call 151; refine (tail_any _ _ _ (by first | exact (rfl : (1 : Int) = ((1 : Nat) : Int)) | exact (rfl : (2 : Int) = ((2 : Nat) : Int)) | exact (rfl : (3 : Int) = ((3 : Nat) : Int))) _).mono ?_; rintro e w' ⟨rfl, rfl⟩)
        refine bodyPost_ret (v := .agg #[.int .i64 0, .int .i64 0]) (by simp [results, Tryz.results121, go_sem]) rfl ⟨by rw [HF.out]; rfl, ?_⟩
        repeat (first | exact Below.refl _ _ | refine Below.setCell ?_ (by exact Nat.le_refl _) _ | refine Below.alloc ?_ (Nat.le_refl _) _ | refine Below.drew ?_ | refine below_dN ?_ _)
    · have t1' : ¬ (1 < s.size ∧ 128 ≤ x1 ∧ x1 < 192) := by simpa only [tl, decide_eq_true_eq, hx1] using t1
      have t1f : tl s 1 = false := by simpa using t1
      have HF : Hid (fst s = (0, 0)) := fst_none (by unfold decodeN; (repeat' split) <;> first | rfl | (exfalso; omega)) hx0 hx1 hx2 hx3
      clear hx0 hx1 hx2 hx3 t1
      go_enter Tryz.func121, Tryz.ntmps121
      go_wp2_with (go_at_call 151; refine (tail_any _ _ _ (by first | exact (rfl : (1 : Int) = ((1 : Nat) : Int)) | exact (rfl : (2 : Int) = ((2 : Nat) : Int)) | exact (rfl : (3 : Int) = ((3 : Nat) : Int))) _).mono ?_; rintro e w' ⟨rfl, rfl⟩)
      refine bodyPost_ret (v := .agg #[.int .i64 0, .int .i64 0]) (by simp [results, Tryz.results121, go_sem]) rfl ⟨by rw [HF.out]; rfl, ?_⟩
      repeat (first | exact Below.refl _ _ | refine Below.setCell ?_ (by exact Nat.le_refl _) _ | refine Below.alloc ?_ (Nat.le_refl _) _ | refine Below.drew ?_ | refine below_dN ?_ _)
  have d5 : decide ((x0 : Int) < 240) = false := by simp; omega
  have d6 : decide ((240 : Int) ≤ x0) = true := by simp; omega
  by_cases a5 : x0 < 245
  · have d7 : decide ((x0 : Int) < 245) = true := by simp; omega
    by_cases t1 : tl s 1 = true
    · have t1' := t1
      simp only [tl, decide_eq_true_eq, hx1] at t1'
      by_cases t2 : tl s 2 = true
      · have t2' := t2
        simp only [tl, decide_eq_true_eq, hx2] at t2'
        by_cases t3 : tl s 3 = true
        · have t3' := t3
          simp only [tl, decide_eq_true_eq, hx3] at t3'
          have hn1 : (1 : Int) < s.size := by omega
          have hn2 : (2 : Int) < s.size := by omega
          have hn3 : (3 : Int) < s.size := by omega
          have hy1 := gN_of s 1 (by omega)
          rw [hx1] at hy1
          have hy2 := gN_of s 2 (by omega)
          rw [hx2] at hy2
          have hy3 := gN_of s 3 (by omega)
          rw [hx3] at hy3
          obtain ⟨c, hc⟩ : ∃ c, c = 262144 * (x0 - 240) + 4096 * (x1 - 128) + 64 * (x2 - 128) + x3 - 128 := ⟨_, rfl⟩
          have HV : (262144 : Int) * ((x0 : Int) - 240) + 4096 * ((x1 : Int) - 128) + 64 * ((x2 : Int) - 128) + x3 - 128 = (c : Int) := by omega
          by_cases ok1 : 65536 ≤ c
          · have k1 : decide ((65536 : Int) ≤ c) = true := by simp; omega
            by_cases ok2 : c ≤ 1114111
            · have k2 : decide ((c : Int) ≤ 1114111) = true := by simp; omega
              have HF : Hid (fst s = (c, 4)) := fst_some (by unfold decodeN; rw [if_neg (by omega), if_neg (by omega), if_neg (by omega), if_pos (by omega), if_pos (by omega)]; apply Prod.ext <;> simp only; omega) hn (by omega) hx0 hx1 hx2 hx3
              clear hx0 hx1 hx2 hx3 hc
              go_enter Tryz.func121, Tryz.ntmps121
              go_wp2_with (go_at_call 151; refine (tail_any _ _ _ (by first | exact (rfl : (1 : Int) = ((1 : Nat) : Int)) | exact (rfl : (2 : Int) = ((2 : Nat) : Int)) | exact (rfl : (3 : Int) = ((3 : Nat) : Int))) _).mono ?_; rintro e w' ⟨rfl, rfl⟩)
              go_quiet (fail)
              go_wp2
              refine bodyPost_ret (v := .agg #[.int .i64 c, .int .i64 4]) (by simp [results, Tryz.results121, go_sem]) rfl ⟨by rw [HF.out]; rfl, ?_⟩
              repeat (first | exact Below.refl _ _ | refine Below.setCell ?_ (by exact Nat.le_refl _) _ | refine Below.alloc ?_ (Nat.le_refl _) _ | refine Below.drew ?_ | refine below_dN ?_ _)
            · have k2 : decide ((c : Int) ≤ 1114111) = false := by simp; omega
              have HF : Hid (fst s = (0, 0)) := fst_none (by unfold decodeN; rw [if_neg (by omega), if_neg (by omega), if_neg (by omega), if_pos (by omega), if_neg (by omega)]) hx0 hx1 hx2 hx3
              clear hx0 hx1 hx2 hx3 hc
              go_enter Tryz.func121, Tryz.ntmps121
              go_wp2_with (go_at_call 151; refine (tail_any _ _ _ (by first | exact (rfl : (1 : Int) = ((1 : Nat) : Int)) | exact (rfl : (2 : Int) = ((2 : Nat) : Int)) | exact (rfl : (3 : Int) = ((3 : Nat) : Int))) _).mono ?_; rintro e w' ⟨rfl, rfl⟩)
              go_quiet (fail)
              go_wp2
              refine bodyPost_ret (v := .agg #[.int .i64 0, .int .i64 0]) (by simp [results, Tryz.results121, go_sem]) rfl ⟨by rw [HF.out]; rfl, ?_⟩
              repeat (first | exact Below.refl _ _ | refine Below.setCell ?_ (by exact Nat.le_refl _) _ | refine Below.alloc ?_ (Nat.le_refl _) _ | refine Below.drew ?_ | refine below_dN ?_ _)
          · have k1 : decide ((65536 : Int) ≤ c) = false := by simp; omega
            have HF : Hid (fst s = (0, 0)) := fst_none (by unfold decodeN; rw [if_neg (by omega), if_neg (by omega), if_neg (by omega), if_pos (by omega), if_neg (by omega)]) hx0 hx1 hx2 hx3
            clear hx0 hx1 hx2 hx3 hc
            go_enter Tryz.func121, Tryz.ntmps121
            go_wp2_with (go_at_call 151; refine (tail_any _ _ _ (by first | exact (rfl : (1 : Int) = ((1 : Nat) : Int)) | exact (rfl : (2 : Int) = ((2 : Nat) : Int)) | exact (rfl : (3 : Int) = ((3 : Nat) : Int))) _).mono ?_; rintro e w' ⟨rfl, rfl⟩)
            go_quiet (fail)
            go_wp2
            refine bodyPost_ret (v := .agg #[.int .i64 0, .int .i64 0]) (by simp [results, Tryz.results121, go_sem]) rfl ⟨by rw [HF.out]; rfl, ?_⟩
            repeat (first | exact Below.refl _ _ | refine Below.setCell ?_ (by exact Nat.le_refl _) _ | refine Below.alloc ?_ (Nat.le_refl _) _ | refine Below.drew ?_ | refine below_dN ?_ _)
        · have t3' : ¬ (3 < s.size ∧ 128 ≤ x3 ∧ x3 < 192) := by simpa only [tl, decide_eq_true_eq, hx3] using t3
          have t3f : tl s 3 = false := by simpa using t3
          have HF : Hid (fst s = (0, 0)) := fst_none (by unfold decodeN; (repeat' split) <;> first | rfl | (exfalso; omega)) hx0 hx1 hx2 hx3
          clear hx0 hx1 hx2 hx3 t3
          go_enter Tryz.func121, Tryz.ntmps121
          go_wp2_with (go_at_call 151; refine (tail_any _ _ _ (by first | exact (rfl : (1 : Int) = ((1 : Nat) : Int)) | exact (rfl : (2 : Int) = ((2 : Nat) : Int)) | exact (rfl : (3 : Int) = ((3 : Nat) : Int))) _).mono ?_; rintro e w' ⟨rfl, rfl⟩)
          refine bodyPost_ret (v := .agg #[.int .i64 0, .int .i64 0]) (by simp [results, Tryz.results121, go_sem]) rfl ⟨by rw [HF.out]; rfl, ?_⟩
          repeat (first | exact Below.refl _ _ | refine Below.setCell ?_ (by exact Nat.le_refl _) _ | refine Below.alloc ?_ (Nat.le_refl _) _ | refine Below.drew ?_ | refine below_dN ?_ _)
      · have t2' : ¬ (2 < s.size ∧ 128 ≤ x2 ∧ x2 < 192) := by simpa only [tl, decide_eq_true_eq, hx2] using t2
        have t2f : tl s 2 = false := by simpa using t2
        have HF : Hid (fst s = (0, 0)) := fst_none (by unfold decodeN; (repeat' split) <;> first | rfl | (exfalso; omega)) hx0 hx1 hx2 hx3
        clear hx0 hx1 hx2 hx3 t2
        go_enter Tryz.func121, Tryz.ntmps121
        go_wp2_with (go_at_call 151; refine (tail_any _ _ _ (by first | exact (rfl : (1 : Int) = ((1 : Nat) : Int)) | exact (rfl : (2 : Int) = ((2 : Nat) : Int)) | exact (rfl : (3 : Int) = ((3 : Nat) : Int))) _).mono ?_; rintro e w' ⟨rfl, rfl⟩)
        refine bodyPost_ret (v := .agg #[.int .i64 0, .int .i64 0]) (by simp [results, Tryz.results121, go_sem]) rfl ⟨by rw [HF.out]; rfl, ?_⟩
        repeat (first | exact Below.refl _ _ | refine Below.setCell ?_ (by exact Nat.le_refl _) _ | refine Below.alloc ?_ (Nat.le_refl _) _ | refine Below.drew ?_ | refine below_dN ?_ _)
    · have t1' : ¬ (1 < s.size ∧ 128 ≤ x1 ∧ x1 < 192) := by simpa only [tl, decide_eq_true_eq, hx1] using t1
      have t1f : tl s 1 = false := by simpa using t1
      have HF : Hid (fst s = (0, 0)) := fst_none (by unfold decodeN; (repeat' split) <;> first | rfl | (exfalso; omega)) hx0 hx1 hx2 hx3
      clear hx0 hx1 hx2 hx3 t1
      go_enter Tryz.func121, Tryz.ntmps121
      go_wp2_with (go_at_call 151; refine (tail_any _ _ _ (by first | exact (rfl : (1 : Int) = ((1 : Nat) : Int)) | exact (rfl : (2 : Int) = ((2 : Nat) : Int)) | exact (rfl : (3 : Int) = ((3 : Nat) : Int))) _).mono ?_; rintro e w' ⟨rfl, rfl⟩)
      refine bodyPost_ret (v := .agg #[.int .i64 0, .int .i64 0]) (by simp [results, Tryz.results121, go_sem]) rfl ⟨by rw [HF.out]; rfl, ?_⟩
      repeat (first | exact Below.refl _ _ | refine Below.setCell ?_ (by exact Nat.le_refl _) _ | refine Below.alloc ?_ (Nat.le_refl _) _ | refine Below.drew ?_ | refine below_dN ?_ _)
  have d7 : decide ((x0 : Int) < 245) = false := by simp; omega
  have HF : Hid (fst s = (0, 0)) := fst_none (by unfold decodeN; (repeat' split) <;> first | rfl | (exfalso; omega)) hx0 hx1 hx2 hx3
  clear hx0 hx1 hx2 hx3
  go_enter Tryz.func121, Tryz.ntmps121
  go_wp2_with (go_at_call 151; refine (tail_any _ _ _ (by first | exact (rfl : (1 : Int) = ((1 : Nat) : Int)) | exact (rfl : (2 : Int) = ((2 : Nat) : Int)) | exact (rfl : (3 : Int) = ((3 : Nat) : Int))) _).mono ?_; rintro e w' ⟨rfl, rfl⟩)
  refine bodyPost_ret (v := .agg #[.int .i64 0, .int .i64 0]) (by simp [results, Tryz.results121, go_sem]) rfl ⟨by rw [HF.out]; rfl, ?_⟩
  repeat (first | exact Below.refl _ _ | refine Below.setCell ?_ (by exact Nat.le_refl _) _ | refine Below.alloc ?_ (Nat.le_refl _) _ | refine Below.drew ?_ | refine below_dN ?_ _)
end Go.Proofs.YtbekpemidpngaaaGreatDoor.V
/- value.Show of any value: its walk. -/
namespace Go.Proofs.YtbekpemidpngaaaGreatDoor.V
open Go.RowKit

/-- The table that decimal numbers are written by. -/
def P10 (w : World) : Prop := Lib.TabIs Tryz.prog w "internal/strconv.uint64pow10" .u64 Lib.pow10Tab
theorem g10 : Tryz.prog.globalNamed "internal/strconv.uint64pow10" = some 3 := by kernel_rfl
theorem P10_below {w w' : World} (h : P10 w) (hb : Below w.heap.size w w') : P10 w' := by
  unfold P10 Lib.TabIs World.var? at *
  rw [g10] at *
  simp only [Option.bind_some] at *
  have hlt : 3 < w.heap.size := by
    apply Decidable.byContradiction
    intro hn
    rw [Array.getElem?_eq_none (by omega)] at h
    cases h
  rw [hb.block _ hlt]
  exact h
theorem grow_below {B : Nat} {a w : World} (os : Array Obj) (h : Below B a w) (hB : B ≤ w.heap.size) : Below B a (Sort.grow w os) :=
  ⟨h.os, h.tape, h.output, Nat.le_trans h.size (by show w.heap.size ≤ (w.heap ++ os).size; simp), fun k hk => by
    show (w.heap ++ os)[k]? = _
    rw [Array.getElem?_append_left (by omega)]
    exact h.block k hk⟩
theorem itoa_any (n : Int) (w : World) (h0 : -9007199254740991 ≤ n) (h1 : n ≤ 9007199254740991) (hP : P10 w) :
    Calls Tryz.prog 109 #[.int .i64 n] w fun e w' => e = .returned (.string (str (Lib.itoa n))) ∧ Below w.heap.size w w' := by
  refine (Tryz.strconv_Itoa n (by omega) (by omega) w hP).mono ?_
  rintro e w' ⟨he, k, os, rfl⟩
  exact ⟨he, grow_below os (below_dN (Below.refl _ _) k) (below_dN (Below.refl w.heap.size w) k).size⟩
theorem fmtBool_i (b : Bool) (w : World) : Calls Tryz.prog 141 #[.bool b] w fun e w' => e = .returned (.string (if b = true then ⟨#[116, 114, 117, 101]⟩ else ⟨#[102, 97, 108, 115, 101]⟩)) ∧ w' = w := by
  cases b
  all_goals
    go_enter Tryz.func141, Tryz.ntmps141
    go_wp2
    go_ret
    exact ⟨rfl, rfl⟩
theorem fmtBool_any (b : Bool) (w : World) : Calls Tryz.prog 110 #[.bool b] w fun e w' => e = .returned (.string (if b = true then ⟨#[116, 114, 117, 101]⟩ else ⟨#[102, 97, 108, 115, 101]⟩)) ∧ w' = w := by
  cases b
  all_goals
    go_enter Tryz.func110, Tryz.ntmps110
    go_wp2_with fail
    refine (fmtBool_i _ _).mono ?_
    rintro e w' ⟨rfl, rfl⟩
    go_wp2
    go_ret
    exact ⟨rfl, rfl⟩
/-- A value's literal. -/
def shwV (k n : Int) (s : ByteArray) : ByteArray :=
  if chkV k n s = true then
    if k = 1 then str (Lib.itoa n) else if k = 3 then (if (n == 1) = true then ⟨#[116, 114, 117, 101]⟩ else ⟨#[102, 97, 108, 115, 101]⟩)
    else if k = 4 then str (120 :: 39 :: hexs s.data.toList ++ [39]) else str (34 :: shws (rns s.data.toList) ++ [34])
  else ⟨#[]⟩
theorem chk_rng {k n : Int} {s : ByteArray} (h : chkV k n s = true) : 1 ≤ k ∧ k ≤ 4 ∧ -9007199254740991 ≤ n ∧ n ≤ 9007199254740991 ∧ s.size ≤ 200 := by
  unfold chkV at h
  split at h
  · simp only [Bool.and_eq_true, decide_eq_true_eq] at h; omega
  split at h
  · simp only [Bool.and_eq_true, decide_eq_true_eq] at h; omega
  split at h
  · simp only [Bool.and_eq_true, decide_eq_true_eq] at h; omega
  split at h
  · simp only [Bool.and_eq_true, decide_eq_true_eq] at h; omega
  · cases h

set_option maxRecDepth 100000 in
set_option maxHeartbeats 4000000 in
theorem show_any (k n : Int) (s : ByteArray) (w : World) (hs : s.size ≤ 140737488355328) (hU : UT w) (hT : T16 w) (hP : P10 w) :
    Calls Tryz.prog 77 #[vv k n s] w fun e w' => e = .returned (.string (shwV k n s)) ∧ Below w.heap.size w w' := by
  have hA : Below w.heap.size w (w.alloc (.cells #[.int .i64 k, .int .i64 n, .string s] 54)) := (Below.refl _ _).alloc (Nat.le_refl _) _
  by_cases hc : chkV k n s = true
  · obtain ⟨k1, k4, n1, n2, hz⟩ := chk_rng hc
    have HC : Hid (chkV k n s = true) := hc
    have HS : Hid (shwV k n s = if k = 1 then str (Lib.itoa n) else if k = 3 then (if (n == 1) = true then ⟨#[116, 114, 117, 101]⟩ else ⟨#[102, 97, 108, 115, 101]⟩) else if k = 4 then str (120 :: 39 :: hexs s.data.toList ++ [39]) else str (34 :: shws (rns s.data.toList) ++ [34])) := by
      show _ = _
      rw [shwV, if_pos hc]
    rw [HS.out]
    have HI : Hid (∀ w, P10 w → Calls Tryz.prog 109 #[.int .i64 n] w fun e w' => e = .returned (.string (str (Lib.itoa n))) ∧ Below w.heap.size w w') := fun w h => itoa_any n w n1 n2 h
    have HH : Hid (∀ w, Calls Tryz.prog 111 #[.string s] w fun e w' => e = .returned (.string (str (120 :: 39 :: hexs s.data.toList ++ [39]))) ∧ Below w.heap.size w w') := fun w => showBytes_any s w (by omega)
    have HX : Hid (∀ w, T16 w → Calls Tryz.prog 112 #[.string s] w fun e w' => e = .returned (.string (str (34 :: shws (rns s.data.toList) ++ [34]))) ∧ Below w.heap.size w w') := fun w h => showText_all s w (by omega) h
    generalize str (Lib.itoa n) = R1 at *
    generalize str (120 :: 39 :: hexs s.data.toList ++ [39]) = R2 at *
    generalize str (34 :: shws (rns s.data.toList) ++ [34]) = R3 at *
    clear hc HS
    go_enter Tryz.func77, Tryz.ntmps77
    go_wp2_with fail
    refine (check_any _ _ _ _ hs (Utf8Tabs_below hU hA)).mono ?_
    rintro e w1 ⟨rfl, hb1⟩
    rw [HC.out]
    have c0 : w1.cell? ⟨w.heap.size, 0, none⟩ = some (.int .i64 k) := (hb1.cell (p := ⟨w.heap.size, 0, none⟩) (by simp)).trans (by simp)
    have c1 : w1.cell? ⟨w.heap.size, 1, none⟩ = some (.int .i64 n) := (hb1.cell (p := ⟨w.heap.size, 1, none⟩) (by simp)).trans (by simp)
    have c2 : w1.cell? ⟨w.heap.size, 2, none⟩ = some (.string s) := (hb1.cell (p := ⟨w.heap.size, 2, none⟩) (by simp)).trans (by simp)
    have hB1 : Below w.heap.size w w1 := hA.trans (hb1.mono (by simp))
    have hT1 := T16_below hT hB1
    have HP1 : Hid (P10 w1) := P10_below hP hB1
    clear hb1 hA HC
    obtain rfl | rfl | rfl | rfl : k = 1 ∨ k = 2 ∨ k = 3 ∨ k = 4 := by omega
    all_goals go_wp2_with fail
    · refine (HI.out _ HP1.out).mono ?_
      rintro e w2 ⟨rfl, hb2⟩
      have hB2 := hB1.trans (hb2.mono hB1.size)
      clear hb2
      go_wp2
      go_ret
      exact ⟨rfl, hB2⟩
    · refine (HX.out _ hT1).mono ?_
      rintro e w2 ⟨rfl, hb2⟩
      have hB2 := hB1.trans (hb2.mono hB1.size)
      clear hb2
      go_wp2
      go_ret
      exact ⟨rfl, hB2⟩
    · by_cases hn : (n == 1) = true
      · obtain rfl : n = 1 := by simpa using hn
        refine (fmtBool_any _ _).mono ?_
        rintro e w2 ⟨rfl, rfl⟩
        go_wp2
        go_ret
        exact ⟨rfl, hB1⟩
      · have hn' : (n == 1) = false := by simpa using hn
        rw [hn']
        refine (fmtBool_any _ _).mono ?_
        rintro e w2 ⟨rfl, rfl⟩
        go_wp2
        go_ret
        exact ⟨rfl, hB1⟩
    · refine (HH.out _).mono ?_
      rintro e w2 ⟨rfl, hb2⟩
      have hB2 := hB1.trans (hb2.mono hB1.size)
      clear hb2
      go_wp2
      go_ret
      exact ⟨rfl, hB2⟩
  · have hc' : chkV k n s = false := by simpa using hc
    have HC : Hid (chkV k n s = false) := hc'
    rw [show shwV k n s = ⟨#[]⟩ by rw [shwV, if_neg hc]]
    clear hc hc'
    go_enter Tryz.func77, Tryz.ntmps77
    go_wp2_with fail
    refine (check_any _ _ _ _ hs (Utf8Tabs_below hU hA)).mono ?_
    rintro e w1 ⟨rfl, hb1⟩
    rw [HC.out]
    have hB1 : Below w.heap.size w w1 := hA.trans (hb1.mono (by simp))
    clear hb1 hA
    go_wp2
    go_ret
    exact ⟨rfl, hB1⟩
end Go.Proofs.YtbekpemidpngaaaGreatDoor.V
