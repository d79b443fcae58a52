/- The reference's tail and First: walks. -/
import Derived.Test.YtlndgepoekllkaaGreatDoorZk0
import Derived.RegionTactic
import Derived.Deep.QuietTactic
import Derived.BigQuiet
import Derived.Test.YtlndgepoekllkaaGreatDoorZk1
import Derived.Lib.RuneCountTail
namespace Go.Proofs.YtlndgepoekllkaaGreatDoor
open Go.RowKit Go.Lib

/-- A byte by its number; 0 beyond the end. -/
def gN (s : ByteArray) (i : Nat) : Nat := (s.get! i).toNat
theorem gN_lt (s : ByteArray) (i : Nat) : gN s i < 256 := (s.get! i).toNat_lt
theorem gN_of (s : ByteArray) (i : Nat) (h : i < s.size) : (s[i]'h).toNat = gN s i := by
  cases s with
  | mk d =>
    show (d[i]'h).toNat = (d[i]!).toNat
    rw [getElem!_pos d i h]
def tl (s : ByteArray) (i : Nat) : Bool := decide (i < s.size ∧ 128 ≤ gN s i ∧ gN s i < 192)

set_option maxHeartbeats 1000000 in
theorem tail_any (s : ByteArray) (i : Nat) (z : Int) (hz : z = (i : Int)) (w : World) :
    Calls Tryz.prog 127 #[.string s, .int .i64 z] w fun e w' => e = .returned (.bool (tl s i)) ∧ w' = w := by
  subst hz
  by_cases hi : i < s.size
  · have hi' : (i : Int) < s.size := by omega
    have hx := gN_of s i hi
    have hlt := gN_lt s i
    have HT : Hid (tl s i = decide (128 ≤ gN s i ∧ gN s i < 192)) := by show _ = _; unfold tl; simp [hi]
    generalize tl s i = t at *
    generalize gN s i = x at *
    by_cases h1 : 128 ≤ x
    · have h1' : decide ((128 : Int) ≤ x) = true := by simp; omega
      by_cases h2 : x < 192
      · have h2' : decide ((x : Int) < 192) = true := by simp; omega
        go_enter Tryz.func127, Tryz.ntmps127
        go_wp2
        go_ret
        exact ⟨by rw [HT.out, decide_eq_true (And.intro h1 h2)]; rfl, rfl⟩
      · have h2' : decide ((x : Int) < 192) = false := by simp; omega
        go_enter Tryz.func127, Tryz.ntmps127
        go_wp2
        go_ret
        exact ⟨by rw [HT.out, decide_eq_false (fun h => h2 h.2)]; rfl, rfl⟩
    · have h1' : decide ((128 : Int) ≤ x) = false := by simp; omega
      go_enter Tryz.func127, Tryz.ntmps127
      go_wp2
      go_ret
      exact ⟨by rw [HT.out, decide_eq_false (fun h => h1 h.1)]; rfl, rfl⟩
  · have hi' : decide ((i : Int) < s.size) = false := by simp; omega
    have HT : Hid (tl s i = false) := by show _ = _; unfold tl; simp [hi]
    go_enter Tryz.func127, Tryz.ntmps127
    go_wp2
    go_ret
    exact ⟨by rw [HT.out]; rfl, rfl⟩

/-- The rune at the front and its width; (0, 0): there is none. -/
def fst (s : ByteArray) : Nat × Nat := if s.size = 0 ∨ ((Utf8.decode s 0).1 = 65533 ∧ (Utf8.decode s 0).2 = 1) then (0, 0) else Utf8.decode s 0
theorem fst_none {s : ByteArray} {x0 x1 x2 x3 : Nat} (h : decodeN s.size x0 x1 x2 x3 = (65533, 1)) (e0 : gN s 0 = x0) (e1 : gN s 1 = x1) (e2 : gN s 2 = x2) (e3 : gN s 3 = x3) : fst s = (0, 0) := by
  subst e0 e1 e2 e3
  have e : Utf8.decode s 0 = (65533, 1) := by rw [decode_at]; exact h
  unfold fst
  rw [e]
  simp
theorem fst_some {s : ByteArray} {x0 x1 x2 x3 c k : Nat} (h : decodeN s.size x0 x1 x2 x3 = (c, k)) (hn : s.size ≠ 0) (hk : c = 65533 → k ≠ 1) (e0 : gN s 0 = x0) (e1 : gN s 1 = x1) (e2 : gN s 2 = x2) (e3 : gN s 3 = x3) : fst s = (c, k) := by
  subst e0 e1 e2 e3
  have e : Utf8.decode s 0 = (c, k) := by rw [decode_at]; exact h
  unfold fst
  rw [e, if_neg]
  intro h
  rcases h with h | ⟨h1, h2⟩
  · exact hn h
  · exact hk h1 h2
theorem below_dN {B : Nat} {a w : World} (h : Below B a w) : ∀ q, Below B a (w.drewN q)
  | 0 => h
  | q + 1 => (below_dN h q).drew
def FsPost (s : ByteArray) (w : World) (e : Ending) (w' : World) : Prop :=
  e = .returned (.agg #[.int .i64 (fst s).1, .int .i64 (fst s).2]) ∧ Below w.heap.size w w'

set_option maxRecDepth 100000 in
set_option maxHeartbeats 2000000 in
theorem first_any (s : ByteArray) (w : World) (hs : s.size ≤ 140737488355328) :
    Calls Tryz.prog 109 #[.string s] w fun e w' => FsPost s w e w' := by
  by_cases hn : s.size = 0
  · have he : s.toList.isEmpty = true := by rw [ByteArray.toList_eq]; simp; exact Array.eq_empty_of_size_eq_zero hn
    have HF : Hid (fst s = (0, 0)) := by show _ = _; simp [fst, hn]
    go_enter Tryz.func109, Tryz.ntmps109
    go_wp2
    refine bodyPost_ret (v := .agg #[.int .i64 0, .int .i64 0]) (by simp [results, Tryz.results109, go_sem]) rfl ⟨by rw [HF.out]; rfl, ?_⟩
    repeat (first | exact Below.refl _ _ | refine Below.setCell ?_ (by exact Nat.le_refl _) _ | refine Below.alloc ?_ (Nat.le_refl _) _ | refine Below.drew ?_ | refine below_dN ?_ _)
  have he : s.toList.isEmpty = false := by rw [ByteArray.toList_eq]; simp; intro h; rw [ByteArray.size, h] at hn; exact hn rfl
  have hn0 : (0 : Int) < s.size := by omega
  have hy0 := gN_of s 0 (by omega)
  obtain ⟨x0, hx0⟩ : ∃ x0, gN s 0 = x0 := ⟨_, rfl⟩
  obtain ⟨x1, hx1⟩ : ∃ x1, gN s 1 = x1 := ⟨_, rfl⟩
  obtain ⟨x2, hx2⟩ : ∃ x2, gN s 2 = x2 := ⟨_, rfl⟩
  obtain ⟨x3, hx3⟩ : ∃ x3, gN s 3 = x3 := ⟨_, rfl⟩
  have l0 : x0 < 256 := hx0 ▸ gN_lt s 0
  have l1 : x1 < 256 := hx1 ▸ gN_lt s 1
  have l2 : x2 < 256 := hx2 ▸ gN_lt s 2
  have l3 : x3 < 256 := hx3 ▸ gN_lt s 3
  rw [hx0] at hy0
  by_cases a1 : x0 < 128
  · have d1 : decide ((x0 : Int) < 128) = true := by simp; omega
    have HF : Hid (fst s = (x0, 1)) := fst_some (by unfold decodeN; rw [if_pos a1]) hn (by omega) hx0 hx1 hx2 hx3
    clear hx0 hx1 hx2 hx3
    go_enter Tryz.func109, Tryz.ntmps109
    go_wp2_with (go_at_call 127; refine (tail_any _ _ _ (by first | exact (rfl : (1 : Int) = ((1 : Nat) : Int)) | exact (rfl : (2 : Int) = ((2 : Nat) : Int)) | exact (rfl : (3 : Int) = ((3 : Nat) : Int))) _).mono ?_; rintro e w' ⟨rfl, rfl⟩)
    refine bodyPost_ret (v := .agg #[.int .i64 x0, .int .i64 1]) (by simp [results, Tryz.results109, go_sem]) rfl ⟨by rw [HF.out]; rfl, ?_⟩
    repeat (first | exact Below.refl _ _ | refine Below.setCell ?_ (by exact Nat.le_refl _) _ | refine Below.alloc ?_ (Nat.le_refl _) _ | refine Below.drew ?_ | refine below_dN ?_ _)
  have d1 : decide ((x0 : Int) < 128) = false := by simp; omega
  by_cases a2 : x0 < 194
  · have d2 : decide ((194 : Int) ≤ x0) = false := by simp; omega
    have d4 : decide ((224 : Int) ≤ x0) = false := by simp; omega
    have d6 : decide ((240 : Int) ≤ x0) = false := by simp; omega
    have HF : Hid (fst s = (0, 0)) := fst_none (by unfold decodeN; (repeat' split) <;> first | rfl | (exfalso; omega)) hx0 hx1 hx2 hx3
    clear hx0 hx1 hx2 hx3
    go_enter Tryz.func109, Tryz.ntmps109
    go_wp2_with (go_at_call 127; refine (tail_any _ _ _ (by first | exact (rfl : (1 : Int) = ((1 : Nat) : Int)) | exact (rfl : (2 : Int) = ((2 : Nat) : Int)) | exact (rfl : (3 : Int) = ((3 : Nat) : Int))) _).mono ?_; rintro e w' ⟨rfl, rfl⟩)
    refine bodyPost_ret (v := .agg #[.int .i64 0, .int .i64 0]) (by simp [results, Tryz.results109, go_sem]) rfl ⟨by rw [HF.out]; rfl, ?_⟩
    repeat (first | exact Below.refl _ _ | refine Below.setCell ?_ (by exact Nat.le_refl _) _ | refine Below.alloc ?_ (Nat.le_refl _) _ | refine Below.drew ?_ | refine below_dN ?_ _)
  have d2 : decide ((194 : Int) ≤ x0) = true := by simp; omega
  by_cases a3 : x0 < 224
  · have d3 : decide ((x0 : Int) < 224) = true := by simp; omega
    have d4 : decide ((224 : Int) ≤ x0) = false := by simp; omega
    have d6 : decide ((240 : Int) ≤ x0) = false := by simp; omega
    by_cases t1 : tl s 1 = true
    · have t1' := t1
      simp only [tl, decide_eq_true_eq, hx1] at t1'
      have hn1 : (1 : Int) < s.size := by omega
      have hy1 := gN_of s 1 (by omega)
      rw [hx1] at hy1
      have HF : Hid (fst s = (64 * (x0 - 192) + x1 - 128, 2)) := fst_some (by unfold decodeN; rw [if_neg (by omega), if_pos (by omega), if_pos (by omega)]; apply Prod.ext <;> simp only; omega) hn (by omega) hx0 hx1 hx2 hx3
      have HV : Hid ((64 : Int) * ((x0 : Int) - 192) + x1 - 128 = ((64 * (x0 - 192) + x1 - 128 : Nat) : Int)) := by show _ = _; omega
      clear hx0 hx1 hx2 hx3
      go_enter Tryz.func109, Tryz.ntmps109
      go_wp2_with (go_at_call 127; refine (tail_any _ _ _ (by first | exact (rfl : (1 : Int) = ((1 : Nat) : Int)) | exact (rfl : (2 : Int) = ((2 : Nat) : Int)) | exact (rfl : (3 : Int) = ((3 : Nat) : Int))) _).mono ?_; rintro e w' ⟨rfl, rfl⟩)
      refine bodyPost_ret (v := .agg #[.int .i64 ((64 : Int) * ((x0 : Int) - 192) + x1 - 128), .int .i64 2]) (by simp [results, Tryz.results109, go_sem]) rfl ⟨by rw [HF.out, HV.out]; rfl, ?_⟩
      repeat (first | exact Below.refl _ _ | refine Below.setCell ?_ (by exact Nat.le_refl _) _ | refine Below.alloc ?_ (Nat.le_refl _) _ | refine Below.drew ?_ | refine below_dN ?_ _)
    · have t1' : ¬ (1 < s.size ∧ 128 ≤ x1 ∧ x1 < 192) := by simpa only [tl, decide_eq_true_eq, hx1] using t1
      have t1f : tl s 1 = false := by simpa using t1
      have HF : Hid (fst s = (0, 0)) := fst_none (by unfold decodeN; (repeat' split) <;> first | rfl | (exfalso; omega)) hx0 hx1 hx2 hx3
      clear hx0 hx1 hx2 hx3 t1
      go_enter Tryz.func109, Tryz.ntmps109
      go_wp2_with (go_at_call 127; refine (tail_any _ _ _ (by first | exact (rfl : (1 : Int) = ((1 : Nat) : Int)) | exact (rfl : (2 : Int) = ((2 : Nat) : Int)) | exact (rfl : (3 : Int) = ((3 : Nat) : Int))) _).mono ?_; rintro e w' ⟨rfl, rfl⟩)
      refine bodyPost_ret (v := .agg #[.int .i64 0, .int .i64 0]) (by simp [results, Tryz.results109, go_sem]) rfl ⟨by rw [HF.out]; rfl, ?_⟩
      repeat (first | exact Below.refl _ _ | refine Below.setCell ?_ (by exact Nat.le_refl _) _ | refine Below.alloc ?_ (Nat.le_refl _) _ | refine Below.drew ?_ | refine below_dN ?_ _)
  have d3 : decide ((x0 : Int) < 224) = false := by simp; omega
  have d4 : decide ((224 : Int) ≤ x0) = true := by simp; omega
  by_cases a4 : x0 < 240
  · have d5 : decide ((x0 : Int) < 240) = true := by simp; omega
    have d6 : decide ((240 : Int) ≤ x0) = false := by simp; omega
    by_cases t1 : tl s 1 = true
    · have t1' := t1
      simp only [tl, decide_eq_true_eq, hx1] at t1'
      by_cases t2 : tl s 2 = true
      · have t2' := t2
        simp only [tl, decide_eq_true_eq, hx2] at t2'
        have hn1 : (1 : Int) < s.size := by omega
        have hn2 : (2 : Int) < s.size := by omega
        have hy1 := gN_of s 1 (by omega)
        rw [hx1] at hy1
        have hy2 := gN_of s 2 (by omega)
        rw [hx2] at hy2
        obtain ⟨c, hc⟩ : ∃ c, c = 4096 * (x0 - 224) + 64 * (x1 - 128) + x2 - 128 := ⟨_, rfl⟩
        have HV : (4096 : Int) * ((x0 : Int) - 224) + 64 * ((x1 : Int) - 128) + x2 - 128 = (c : Int) := by omega
        by_cases ok : 2048 ≤ c ∧ (c < 55296 ∨ 57343 < c)
        · have HF : Hid (fst s = (c, 3)) := fst_some (by unfold decodeN; rw [if_neg (by omega), if_neg (by omega), if_pos (by omega), if_pos (by omega)]; apply Prod.ext <;> simp only; omega) hn (by omega) hx0 hx1 hx2 hx3
          have k1 : decide ((2048 : Int) ≤ c) = true := by simp; omega
          clear hx0 hx1 hx2 hx3 hc
          by_cases ok2 : c < 55296
          · have k2 : decide ((c : Int) < 55296) = true := by simp; omega
            go_enter Tryz.func109, Tryz.ntmps109
            go_wp2_with (go_at_call 127; refine (tail_any _ _ _ (by first | exact (rfl : (1 : Int) = ((1 : Nat) : Int)) | exact (rfl : (2 : Int) = ((2 : Nat) : Int)) | exact (rfl : (3 : Int) = ((3 : Nat) : Int))) _).mono ?_; rintro e w' ⟨rfl, rfl⟩)
            go_quiet (fail)
            go_wp2
            refine bodyPost_ret (v := .agg #[.int .i64 c, .int .i64 3]) (by simp [results, Tryz.results109, go_sem]) rfl ⟨by rw [HF.out]; rfl, ?_⟩
            repeat (first | exact Below.refl _ _ | refine Below.setCell ?_ (by exact Nat.le_refl _) _ | refine Below.alloc ?_ (Nat.le_refl _) _ | refine Below.drew ?_ | refine below_dN ?_ _)
          · have k2 : decide ((c : Int) < 55296) = false := by simp; omega
            have k3 : decide ((57343 : Int) < c) = true := by simp; omega
            go_enter Tryz.func109, Tryz.ntmps109
            go_wp2_with (go_at_call 127; refine (tail_any _ _ _ (by first | exact (rfl : (1 : Int) = ((1 : Nat) : Int)) | exact (rfl : (2 : Int) = ((2 : Nat) : Int)) | exact (rfl : (3 : Int) = ((3 : Nat) : Int))) _).mono ?_; rintro e w' ⟨rfl, rfl⟩)
            go_quiet (fail)
            go_wp2
            refine bodyPost_ret (v := .agg #[.int .i64 c, .int .i64 3]) (by simp [results, Tryz.results109, go_sem]) rfl ⟨by rw [HF.out]; rfl, ?_⟩
            repeat (first | exact Below.refl _ _ | refine Below.setCell ?_ (by exact Nat.le_refl _) _ | refine Below.alloc ?_ (Nat.le_refl _) _ | refine Below.drew ?_ | refine below_dN ?_ _)
        · have HF : Hid (fst s = (0, 0)) := fst_none (by unfold decodeN; rw [if_neg (by omega), if_neg (by omega), if_pos (by omega), if_neg (by omega)]) hx0 hx1 hx2 hx3
          clear hx0 hx1 hx2 hx3 hc
          by_cases ok1 : 2048 ≤ c
          · have k1 : decide ((2048 : Int) ≤ c) = true := by simp; omega
            have k2 : decide ((c : Int) < 55296) = false := by simp; omega
            have k3 : decide ((57343 : Int) < c) = false := by simp; omega
            go_enter Tryz.func109, Tryz.ntmps109
            go_wp2_with (go_at_call 127; refine (tail_any _ _ _ (by first | exact (rfl : (1 : Int) = ((1 : Nat) : Int)) | exact (rfl : (2 : Int) = ((2 : Nat) : Int)) | exact (rfl : (3 : Int) = ((3 : Nat) : Int))) _).mono ?_; rintro e w' ⟨rfl, rfl⟩)
            go_quiet (fail)
            go_wp2
            refine bodyPost_ret (v := .agg #[.int .i64 0, .int .i64 0]) (by simp [results, Tryz.results109, go_sem]) rfl ⟨by rw [HF.out]; rfl, ?_⟩
            repeat (first | exact Below.refl _ _ | refine Below.setCell ?_ (by exact Nat.le_refl _) _ | refine Below.alloc ?_ (Nat.le_refl _) _ | refine Below.drew ?_ | refine below_dN ?_ _)
          · have k1 : decide ((2048 : Int) ≤ c) = false := by simp; omega
            go_enter Tryz.func109, Tryz.ntmps109
            go_wp2_with (go_at_call 127; refine (tail_any _ _ _ (by first | exact (rfl : (1 : Int) = ((1 : Nat) : Int)) | exact (rfl : (2 : Int) = ((2 : Nat) : Int)) | exact (rfl : (3 : Int) = ((3 : Nat) : Int))) _).mono ?_; rintro e w' ⟨rfl, rfl⟩)
            go_quiet (fail)
            go_wp2
            refine bodyPost_ret (v := .agg #[.int .i64 0, .int .i64 0]) (by simp [results, Tryz.results109, go_sem]) rfl ⟨by rw [HF.out]; rfl, ?_⟩
            repeat (first | exact Below.refl _ _ | refine Below.setCell ?_ (by exact Nat.le_refl _) _ | refine Below.alloc ?_ (Nat.le_refl _) _ | refine Below.drew ?_ | refine below_dN ?_ _)
      · have t2' : ¬ (2 < s.size ∧ 128 ≤ x2 ∧ x2 < 192) := by simpa only [tl, decide_eq_true_eq, hx2] using t2
        have t2f : tl s 2 = false := by simpa using t2
        have HF : Hid (fst s = (0, 0)) := fst_none (by unfold decodeN; (repeat' split) <;> first | rfl | (exfalso; omega)) hx0 hx1 hx2 hx3
        clear hx0 hx1 hx2 hx3 t2
        go_enter Tryz.func109, Tryz.ntmps109
        go_wp2_with (go_at_call 127; refine (tail_any _ _ _ (by first | exact (rfl : (1 : Int) = ((1 : Nat) : Int)) | exact (rfl : (2 : Int) = ((2 : Nat) : Int)) | exact (rfl : (3 : Int) = ((3 : Nat) : Int))) _).mono ?_; rintro e w' ⟨rfl, rfl⟩)
        refine bodyPost_ret (v := .agg #[.int .i64 0, .int .i64 0]) (by simp [results, Tryz.results109, go_sem]) rfl ⟨by rw [HF.out]; rfl, ?_⟩
        repeat (first | exact Below.refl _ _ | refine Below.setCell ?_ (by exact Nat.le_refl _) _ | refine Below.alloc ?_ (Nat.le_refl _) _ | refine Below.drew ?_ | refine below_dN ?_ _)
    · have t1' : ¬ (1 < s.size ∧ 128 ≤ x1 ∧ x1 < 192) := by simpa only [tl, decide_eq_true_eq, hx1] using t1
      have t1f : tl s 1 = false := by simpa using t1
      have HF : Hid (fst s = (0, 0)) := fst_none (by unfold decodeN; (repeat' split) <;> first | rfl | (exfalso; omega)) hx0 hx1 hx2 hx3
      clear hx0 hx1 hx2 hx3 t1
      go_enter Tryz.func109, Tryz.ntmps109
      go_wp2_with (go_at_call 127; refine (tail_any _ _ _ (by first | exact (rfl : (1 : Int) = ((1 : Nat) : Int)) | exact (rfl : (2 : Int) = ((2 : Nat) : Int)) | exact (rfl : (3 : Int) = ((3 : Nat) : Int))) _).mono ?_; rintro e w' ⟨rfl, rfl⟩)
      refine bodyPost_ret (v := .agg #[.int .i64 0, .int .i64 0]) (by simp [results, Tryz.results109, go_sem]) rfl ⟨by rw [HF.out]; rfl, ?_⟩
      repeat (first | exact Below.refl _ _ | refine Below.setCell ?_ (by exact Nat.le_refl _) _ | refine Below.alloc ?_ (Nat.le_refl _) _ | refine Below.drew ?_ | refine below_dN ?_ _)
  have d5 : decide ((x0 : Int) < 240) = false := by simp; omega
  have d6 : decide ((240 : Int) ≤ x0) = true := by simp; omega
  by_cases a5 : x0 < 245
  · have d7 : decide ((x0 : Int) < 245) = true := by simp; omega
    by_cases t1 : tl s 1 = true
    · have t1' := t1
      simp only [tl, decide_eq_true_eq, hx1] at t1'
      by_cases t2 : tl s 2 = true
      · have t2' := t2
        simp only [tl, decide_eq_true_eq, hx2] at t2'
        by_cases t3 : tl s 3 = true
        · have t3' := t3
          simp only [tl, decide_eq_true_eq, hx3] at t3'
          have hn1 : (1 : Int) < s.size := by omega
          have hn2 : (2 : Int) < s.size := by omega
          have hn3 : (3 : Int) < s.size := by omega
          have hy1 := gN_of s 1 (by omega)
          rw [hx1] at hy1
          have hy2 := gN_of s 2 (by omega)
          rw [hx2] at hy2
          have hy3 := gN_of s 3 (by omega)
          rw [hx3] at hy3
          obtain ⟨c, hc⟩ : ∃ c, c = 262144 * (x0 - 240) + 4096 * (x1 - 128) + 64 * (x2 - 128) + x3 - 128 := ⟨_, rfl⟩
          have HV : (262144 : Int) * ((x0 : Int) - 240) + 4096 * ((x1 : Int) - 128) + 64 * ((x2 : Int) - 128) + x3 - 128 = (c : Int) := by omega
          by_cases ok1 : 65536 ≤ c
          · have k1 : decide ((65536 : Int) ≤ c) = true := by simp; omega
            by_cases ok2 : c ≤ 1114111
            · have k2 : decide ((c : Int) ≤ 1114111) = true := by simp; omega
              have HF : Hid (fst s = (c, 4)) := fst_some (by unfold decodeN; rw [if_neg (by omega), if_neg (by omega), if_neg (by omega), if_pos (by omega), if_pos (by omega)]; apply Prod.ext <;> simp only; omega) hn (by omega) hx0 hx1 hx2 hx3
              clear hx0 hx1 hx2 hx3 hc
              go_enter Tryz.func109, Tryz.ntmps109
              go_wp2_with (go_at_call 127; refine (tail_any _ _ _ (by first | exact (rfl : (1 : Int) = ((1 : Nat) : Int)) | exact (rfl : (2 : Int) = ((2 : Nat) : Int)) | exact (rfl : (3 : Int) = ((3 : Nat) : Int))) _).mono ?_; rintro e w' ⟨rfl, rfl⟩)
              go_quiet (fail)
              go_wp2
              refine bodyPost_ret (v := .agg #[.int .i64 c, .int .i64 4]) (by simp [results, Tryz.results109, go_sem]) rfl ⟨by rw [HF.out]; rfl, ?_⟩
              repeat (first | exact Below.refl _ _ | refine Below.setCell ?_ (by exact Nat.le_refl _) _ | refine Below.alloc ?_ (Nat.le_refl _) _ | refine Below.drew ?_ | refine below_dN ?_ _)
            · have k2 : decide ((c : Int) ≤ 1114111) = false := by simp; omega
              have HF : Hid (fst s = (0, 0)) := fst_none (by unfold decodeN; rw [if_neg (by omega), if_neg (by omega), if_neg (by omega), if_pos (by omega), if_neg (by omega)]) hx0 hx1 hx2 hx3
              clear hx0 hx1 hx2 hx3 hc
              go_enter Tryz.func109, Tryz.ntmps109
              go_wp2_with (go_at_call 127; refine (tail_any _ _ _ (by first | exact (rfl : (1 : Int) = ((1 : Nat) : Int)) | exact (rfl : (2 : Int) = ((2 : Nat) : Int)) | exact (rfl : (3 : Int) = ((3 : Nat) : Int))) _).mono ?_; rintro e w' ⟨rfl, rfl⟩)
              go_quiet (fail)
              go_wp2
              refine bodyPost_ret (v := .agg #[.int .i64 0, .int .i64 0]) (by simp [results, Tryz.results109, go_sem]) rfl ⟨by rw [HF.out]; rfl, ?_⟩
              repeat (first | exact Below.refl _ _ | refine Below.setCell ?_ (by exact Nat.le_refl _) _ | refine Below.alloc ?_ (Nat.le_refl _) _ | refine Below.drew ?_ | refine below_dN ?_ _)
          · have k1 : decide ((65536 : Int) ≤ c) = false := by simp; omega
            have HF : Hid (fst s = (0, 0)) := fst_none (by unfold decodeN; rw [if_neg (by omega), if_neg (by omega), if_neg (by omega), if_pos (by omega), if_neg (by omega)]) hx0 hx1 hx2 hx3
            clear hx0 hx1 hx2 hx3 hc
            go_enter Tryz.func109, Tryz.ntmps109
            go_wp2_with (go_at_call 127; refine (tail_any _ _ _ (by first | exact (rfl : (1 : Int) = ((1 : Nat) : Int)) | exact (rfl : (2 : Int) = ((2 : Nat) : Int)) | exact (rfl : (3 : Int) = ((3 : Nat) : Int))) _).mono ?_; rintro e w' ⟨rfl, rfl⟩)
            go_quiet (fail)
            go_wp2
            refine bodyPost_ret (v := .agg #[.int .i64 0, .int .i64 0]) (by simp [results, Tryz.results109, go_sem]) rfl ⟨by rw [HF.out]; rfl, ?_⟩
            repeat (first | exact Below.refl _ _ | refine Below.setCell ?_ (by exact Nat.le_refl _) _ | refine Below.alloc ?_ (Nat.le_refl _) _ | refine Below.drew ?_ | refine below_dN ?_ _)
        · have t3' : ¬ (3 < s.size ∧ 128 ≤ x3 ∧ x3 < 192) := by simpa only [tl, decide_eq_true_eq, hx3] using t3
          have t3f : tl s 3 = false := by simpa using t3
          have HF : Hid (fst s = (0, 0)) := fst_none (by unfold decodeN; (repeat' split) <;> first | rfl | (exfalso; omega)) hx0 hx1 hx2 hx3
          clear hx0 hx1 hx2 hx3 t3
          go_enter Tryz.func109, Tryz.ntmps109
          go_wp2_with (go_at_call 127; refine (tail_any _ _ _ (by first | exact (rfl : (1 : Int) = ((1 : Nat) : Int)) | exact (rfl : (2 : Int) = ((2 : Nat) : Int)) | exact (rfl : (3 : Int) = ((3 : Nat) : Int))) _).mono ?_; rintro e w' ⟨rfl, rfl⟩)
          refine bodyPost_ret (v := .agg #[.int .i64 0, .int .i64 0]) (by simp [results, Tryz.results109, go_sem]) rfl ⟨by rw [HF.out]; rfl, ?_⟩
          repeat (first | exact Below.refl _ _ | refine Below.setCell ?_ (by exact Nat.le_refl _) _ | refine Below.alloc ?_ (Nat.le_refl _) _ | refine Below.drew ?_ | refine below_dN ?_ _)
      · have t2' : ¬ (2 < s.size ∧ 128 ≤ x2 ∧ x2 < 192) := by simpa only [tl, decide_eq_true_eq, hx2] using t2
        have t2f : tl s 2 = false := by simpa using t2
        have HF : Hid (fst s = (0, 0)) := fst_none (by unfold decodeN; (repeat' split) <;> first | rfl | (exfalso; omega)) hx0 hx1 hx2 hx3
        clear hx0 hx1 hx2 hx3 t2
        go_enter Tryz.func109, Tryz.ntmps109
        go_wp2_with (go_at_call 127; refine (tail_any _ _ _ (by first | exact (rfl : (1 : Int) = ((1 : Nat) : Int)) | exact (rfl : (2 : Int) = ((2 : Nat) : Int)) | exact (rfl : (3 : Int) = ((3 : Nat) : Int))) _).mono ?_; rintro e w' ⟨rfl, rfl⟩)
        refine bodyPost_ret (v := .agg #[.int .i64 0, .int .i64 0]) (by simp [results, Tryz.results109, go_sem]) rfl ⟨by rw [HF.out]; rfl, ?_⟩
        repeat (first | exact Below.refl _ _ | refine Below.setCell ?_ (by exact Nat.le_refl _) _ | refine Below.alloc ?_ (Nat.le_refl _) _ | refine Below.drew ?_ | refine below_dN ?_ _)
    · have t1' : ¬ (1 < s.size ∧ 128 ≤ x1 ∧ x1 < 192) := by simpa only [tl, decide_eq_true_eq, hx1] using t1
      have t1f : tl s 1 = false := by simpa using t1
      have HF : Hid (fst s = (0, 0)) := fst_none (by unfold decodeN; (repeat' split) <;> first | rfl | (exfalso; omega)) hx0 hx1 hx2 hx3
      clear hx0 hx1 hx2 hx3 t1
      go_enter Tryz.func109, Tryz.ntmps109
      go_wp2_with (go_at_call 127; refine (tail_any _ _ _ (by first | exact (rfl : (1 : Int) = ((1 : Nat) : Int)) | exact (rfl : (2 : Int) = ((2 : Nat) : Int)) | exact (rfl : (3 : Int) = ((3 : Nat) : Int))) _).mono ?_; rintro e w' ⟨rfl, rfl⟩)
      refine bodyPost_ret (v := .agg #[.int .i64 0, .int .i64 0]) (by simp [results, Tryz.results109, go_sem]) rfl ⟨by rw [HF.out]; rfl, ?_⟩
      repeat (first | exact Below.refl _ _ | refine Below.setCell ?_ (by exact Nat.le_refl _) _ | refine Below.alloc ?_ (Nat.le_refl _) _ | refine Below.drew ?_ | refine below_dN ?_ _)
  have d7 : decide ((x0 : Int) < 245) = false := by simp; omega
  have HF : Hid (fst s = (0, 0)) := fst_none (by unfold decodeN; (repeat' split) <;> first | rfl | (exfalso; omega)) hx0 hx1 hx2 hx3
  clear hx0 hx1 hx2 hx3
  go_enter Tryz.func109, Tryz.ntmps109
  go_wp2_with (go_at_call 127; refine (tail_any _ _ _ (by first | exact (rfl : (1 : Int) = ((1 : Nat) : Int)) | exact (rfl : (2 : Int) = ((2 : Nat) : Int)) | exact (rfl : (3 : Int) = ((3 : Nat) : Int))) _).mono ?_; rintro e w' ⟨rfl, rfl⟩)
  refine bodyPost_ret (v := .agg #[.int .i64 0, .int .i64 0]) (by simp [results, Tryz.results109, go_sem]) rfl ⟨by rw [HF.out]; rfl, ?_⟩
  repeat (first | exact Below.refl _ _ | refine Below.setCell ?_ (by exact Nat.le_refl _) _ | refine Below.alloc ?_ (Nat.le_refl _) _ | refine Below.drew ?_ | refine below_dN ?_ _)
end Go.Proofs.YtlndgepoekllkaaGreatDoor
/- The reference's Valid and Runes: walks. -/
namespace Go.Proofs.YtlndgepoekllkaaGreatDoor
open Go.RowKit Go.Lib

theorem ext_list (s : ByteArray) (pos : Nat) : (s.extract pos s.size).data.toList = s.data.toList.drop pos := by
  rw [extract_data]
  apply List.take_of_length_le
  rw [List.length_drop, Array.length_toList]
  exact Nat.le_refl _
theorem fst_at (s : ByteArray) (pos : Nat) (h : pos < s.size) : fst (s.extract pos s.size) = if (Utf8.decode s pos).1 = 65533 ∧ (Utf8.decode s pos).2 = 1 then (0, 0) else Utf8.decode s pos := by
  have e : Utf8.decode (s.extract pos s.size) 0 = Utf8.decode s pos := by
    rw [← decodeL_drop, ← decodeL_drop, List.drop_zero, ext_list]
  have hz : ¬ (s.extract pos s.size).size = 0 := by rw [tail_size]; omega
  unfold fst
  rw [e]
  simp only [hz, false_or]
theorem drop_ne (s : ByteArray) (pos : Nat) (h : pos < s.size) : s.data.toList.drop pos ≠ [] := by
  intro e
  have := congrArg List.length e
  rw [List.length_drop, Array.length_toList] at this
  have e2 : s.data.size = s.size := rfl
  simp at this
  omega
theorem valid_at (s : ByteArray) (pos : Nat) (h : pos < s.size) : validD (s.data.toList.drop pos) = if (Utf8.decode s pos).1 = 65533 ∧ (Utf8.decode s pos).2 = 1 then false else validD (s.data.toList.drop (pos + (Utf8.decode s pos).2)) := by
  rw [validD_step _ (drop_ne s pos h), decodeL_drop, List.drop_drop]
theorem width_le (s : ByteArray) (pos : Nat) (h : pos < s.size) : pos + (Utf8.decode s pos).2 ≤ s.size := by
  have h1 := decodeL_le _ (drop_ne s pos h)
  rw [decodeL_drop, List.length_drop, Array.length_toList] at h1
  have e2 : s.data.size = s.size := rfl
  omega
theorem slice_ok (s : ByteArray) (pos : Nat) : (s.extract pos s.size).size ≤ s.size := by rw [tail_size]; omega

set_option maxRecDepth 100000 in
set_option maxHeartbeats 2000000 in
theorem refValid_any (s : ByteArray) (w : World) (hs : s.size ≤ 140737488355328) :
    Calls Tryz.prog 91 #[.string s] w fun e w' => e = .returned (.bool (validD s.data.toList)) ∧ Below w.heap.size w w' := by
  obtain ⟨V, HV⟩ : ∃ V, Hid (validD s.data.toList = V) := ⟨_, rfl⟩
  rw [HV.out]
  go_enter Tryz.func91, Tryz.ntmps91
  go_wp2
  go_loopw [3] (fun i wr => ∃ pos : Nat, pos ≤ s.size ∧ i = .int .i64 pos ∧ Hid (validD (s.data.toList.drop pos) = V) ∧ Below w.heap.size w wr) (fun i _ => s.size - (RowKit.intOf i).toNat)
  case atStart => exact ⟨0, Nat.zero_le _, rfl, HV, Below.refl _ _⟩
  case round =>
    obtain ⟨pos, hp, rfl, hv, hb⟩ := hrel
    by_cases hlt : pos < s.size
    · have hi : (pos : Int) < s.size := by omega
      have hsl := slice_ok s pos
      have hwl := width_le s pos hlt
      have hw1 := width_pos s pos
      have hfa := fst_at s pos hlt
      have hva : Hid _ := valid_at s pos hlt
      have hbs := hb.size
      by_cases hbad : (Utf8.decode s pos).1 = 65533 ∧ (Utf8.decode s pos).2 = 1
      · rw [if_pos hbad] at hfa
        have HR : Hid (false = V) := by show _ = _; rw [← hv.out, hva.out, if_pos hbad]
        clear hva hbad hwl hw1
        go_wp2_with fail
        refine (first_any _ _ (by omega)).mono ?_
        rintro e w1 ⟨rfl, hb1⟩
        rw [hfa]
        have hb2 : Hid (Below w.heap.size w w1) := hb.trans (hb1.mono hb.size)
        have hs1 := hb1.size
        clear hb1 hfa
        go_wp2
        go_ret
        exact ⟨by rw [← HR.out]; rfl, hb2.out.alloc (by omega) _⟩
      · rw [if_neg hbad] at hfa
        have HR : Hid (validD (s.data.toList.drop (pos + (Utf8.decode s pos).2)) = V) := by show _ = _; rw [← hv.out, hva.out, if_neg hbad]
        clear hva hbad
        generalize (Utf8.decode s pos) = dc at *
        obtain ⟨c, d⟩ := dc
        simp only at hwl hw1 HR
        have hd0 : ((d : Int) == 0) = false := by rw [beq_eq_false_iff_ne]; omega
        go_wp2_with fail
        refine (first_any _ _ (by omega)).mono ?_
        rintro e w1 ⟨rfl, hb1⟩
        rw [show (fst (s.extract pos s.size)).1 = c by rw [hfa], show (fst (s.extract pos s.size)).2 = d by rw [hfa]]
        have hb2 : Hid (Below w.heap.size w w1) := hb.trans (hb1.mono hb.size)
        have hs1 := hb1.size
        clear hb1 hfa
        go_wp2
        go_roundw
        case rel => exact ⟨pos + d, hwl, by go_num, HR, hb2.out.alloc (by omega) _⟩
        case measure => simp [RowKit.intOf]; omega
    · have HR : Hid (true = V) := by
        show _ = _
        rw [← hv.out, List.drop_of_length_le (by rw [Array.length_toList]; exact Nat.le_of_not_lt hlt)]
        rfl
      have hp' : pos = s.size := by omega
      subst hp'
      go_wp2
      go_ret
      exact ⟨by rw [← HR.out]; rfl, hb⟩

theorem owns_below' {w w1 : World} {base : Nat} {e : TypeId} {sz : Nat} {v : Value} {n : Nat} {xs : List Value} (h : w.ownsRow base e sz v n xs) (hb : Below w.heap.size w w1) : w1.ownsRow base e sz v n xs :=
  h.kept (row := none) ⟨hb.os, hb.tape, hb.output, hb.size, fun k hk _ => hb.block k hk⟩ (by cases hv : v.ownBlock <;> simp)
def icells (l : List Nat) : List Value := l.map fun (c : Nat) => Value.int .i64 (c : Int)
theorem info_int : (Tryz.prog.info? 3).map (fun i => (i.zero, i.size, i.bytes)) = some (some (.int .i64 0), 1, 8) := by kernel_rfl
/-- What Runes leaves. -/
def RnPost (l : List Nat) (w : World) (e : Ending) (w' : World) : Prop :=
  ∃ v, e = .returned v ∧ IsRow w' 1 v l.length (icells l) ∧ Below w.heap.size w w'
def RnRel (s : ByteArray) (w : World) (t i : Value) (wr : World) : Prop :=
  ∃ (pos : Nat) (acc : List Nat), pos ≤ s.size ∧ i = .int .i64 pos ∧ wr.ownsRow w.heap.size 3 1 t acc.length (icells acc) ∧ Below w.heap.size w wr ∧ acc ++ rns (s.data.toList.drop pos) = rns s.data.toList ∧ validD (s.data.toList.drop pos) = true ∧ acc.length ≤ pos

set_option maxRecDepth 100000 in
set_option maxHeartbeats 2000000 in
theorem refRunes_any (s : ByteArray) (w : World) (hs : s.size ≤ 1000000) (hvs : validD s.data.toList = true) :
    Calls Tryz.prog 92 #[.string s] w fun e w' => RnPost (rns s.data.toList) w e w' := by
  obtain ⟨i0, hi0, hz0, hz1, hz2⟩ := info_parts info_int
  go_enter Tryz.func92, Tryz.ntmps92
  go_wp2
  go_loopw [3, 4] (fun t i wr => RnRel s w t i wr) (fun _ i _ => s.size - (RowKit.intOf i).toNat)
  case atStart => exact ⟨0, [], Nat.zero_le _, rfl, World.ownsRow_nil _ _ _ _, Below.refl _ _, rfl, hvs, Nat.le_refl _⟩
  case round =>
    obtain ⟨pos, acc, hp, rfl, hown, hb, hck, hv, hal⟩ := hrel
    have HC : Hid (acc ++ rns (s.data.toList.drop pos) = rns s.data.toList) := hck
    have HV : Hid (validD (s.data.toList.drop pos) = true) := hv
    clear hck hv
    by_cases hlt : pos < s.size
    · have hi : (pos : Int) < s.size := by omega
      have hsl := slice_ok s pos
      have hwl := width_le s pos hlt
      have hw1 := width_pos s pos
      have hfa := fst_at s pos hlt
      have hbs := hb.size
      have hbad : ¬ ((Utf8.decode s pos).1 = 65533 ∧ (Utf8.decode s pos).2 = 1) := by
        intro h
        have := HV.out
        rw [valid_at s pos hlt, if_pos h] at this
        cases this
      have HV2 : Hid (validD (s.data.toList.drop (pos + (Utf8.decode s pos).2)) = true) := by
        have := HV.out
        rw [valid_at s pos hlt, if_neg hbad] at this
        exact this
      have HC2 : Hid ((acc ++ [(Utf8.decode s pos).1]) ++ rns (s.data.toList.drop (pos + (Utf8.decode s pos).2)) = rns s.data.toList) := by
        show _ = _
        rw [← HC.out, rns_at s pos hlt]
        simp
      rw [if_neg hbad] at hfa
      clear hbad HC HV
      generalize (Utf8.decode s pos) = dc at *
      obtain ⟨c, d⟩ := dc
      simp only at hwl hw1 HC2 HV2
      have hd0 : ((d : Int) == 0) = false := by rw [beq_eq_false_iff_ne]; omega
      have HX : Hid (icells acc ++ [Value.int .i64 (c : Nat)] = icells (acc ++ [c])) := by show _ = _; simp [icells]
      go_wp2_with fail
      refine (first_any _ _ (by omega)).mono ?_
      rintro e w1 ⟨rfl, hb1⟩
      rw [show (fst (s.extract pos s.size)).1 = c by rw [hfa], show (fst (s.extract pos s.size)).2 = d by rw [hfa]]
      have hb2 := hb.trans (hb1.mono hb.size)
      have hs1 := hb1.size
      have hown1 := owns_below' hown hb1
      clear hb1 hfa hown
      have hne : u3.ownBlock ≠ some w1.heap.size := fun e => by have := (hown1.lt _ e).2; omega
      have hownA := hown1.alloc (.cells #[Value.int .i64 c, .int .i64 d] 155)
      go_wp2_with (at_builtin; refine wpl_apps _ rfl (.tmp 18) (.tmp 21) 36 3 rfl i0 _ 8 Tryz.underlying36 hi0 hz0 hz1 hz2 rfl _ _ _ _ rfl hownA (.int .i64 (c : Nat)) (w1.heap.size + 1) (by simp) rfl rfl (by omega) (by unfold maxLen; omega) (by simp; omega) ?_; intro v3 w3 hown3 hb3 hst3; have hc3 : w3.cell? ⟨w1.heap.size, 1, none⟩ = some (.int .i64 d) := (World.cell?_of_block (a := ⟨w1.heap.size, 1, none⟩) (hst3 w1.heap.size (by simp) hne)).trans (by simp))
      have HO : Hid (w3.ownsRow w.heap.size 3 1 v3 (acc ++ [c]).length (icells (acc ++ [c]))) := by
        show World.ownsRow _ _ _ _ _ _ _
        rw [← HX.out, List.length_append]
        exact hown3
      have HB : Hid (Below w.heap.size w w3) := (hb2.alloc (by omega) _).trans hb3
      clear hst3 hown3 hb3 hown1 hownA hb2
      go_wp2
      go_roundw
      case rel => exact ⟨pos + d, acc ++ [c], hwl, by go_num, HO.out, HB.out, HC2.out, HV2.out, by simp; omega⟩
      case measure => simp [RowKit.intOf]; omega
    · have HC2 : Hid (acc = rns s.data.toList) := by show _ = _; rw [← HC.out, rns_end s pos hlt]; simp
      have HO : Hid (IsRow wr 1 u3 acc.length (icells acc)) := IsRow.own hown
      have hp' : pos = s.size := by omega
      clear HC hown HV
      subst hp'
      go_wp2
      go_ret
      refine ⟨_, rfl, ?_, hb⟩
      rw [← HC2.out]
      exact HO.out
end Go.Proofs.YtlndgepoekllkaaGreatDoor
