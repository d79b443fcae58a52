/- ring.Point, compareStands and what they call: walks. -/
import Derived.Test.YtpepdcbhimjddaaDoorJB0
import Derived.Test.YtpepdcbhimjddaaDoorNB
import Derived.Test.YtpepdcbhimjddaaDoorU3
import Derived.Test.YtpepdcbhimjddaaDoorRShelf
import Derived.RegionTactic
import Derived.Deep.RegionHeld3
import Derived.Sort.Grow
namespace Go.Proofs.YtpepdcbhimjddaaDoor
open Go.RowKit

/-- The point of a number. -/
def ptI (x : Int) : Nat := if isN x = true then pt x.toNat else 0
theorem nt_itoa : ∀ m : Fin 16, Lib.itoa (m.val : Int) = nt m.val := by decide +kernel
theorem point_any (x : Int) (w : World) : Calls Tryd.prog 80 #[.int .i64 x] w fun e w' => e = .returned (.int .u64 (ptI x : Int)) ∧ w' = w := by
  cases hi : isN x
  · have HI : Hid (∀ w, Calls Tryd.prog 49 #[.int .i64 x] w fun e w' => e = .returned (.bool false) ∧ w' = w) := fun w => by have := isNode_any x w; rw [hi] at this; exact this
    have e : ptI x = 0 := if_neg (by rw [hi]; decide)
    rw [e]
    clear hi e
    go_enter Tryd.func80, Tryd.ntmps80
    go_wp2_with fail
    refine (HI.out _).mono ?_
    rintro e w' ⟨rfl, hw⟩
    subst hw
    go_wp2
    go_ret
    exact ⟨rfl, rfl⟩
  · have HI : Hid (∀ w, Calls Tryd.prog 49 #[.int .i64 x] w fun e w' => e = .returned (.bool true) ∧ w' = w) := fun w => by have := isNode_any x w; rw [hi] at this; exact this
    have e : ptI x = pt x.toNat := if_pos hi
    obtain ⟨i1, i2⟩ := isN_get hi
    obtain ⟨n, rfl⟩ : ∃ n : Nat, x = (n : Int) := ⟨x.toNat, by omega⟩
    rw [e, Int.toNat_natCast]
    have HT : Hid (∀ w, Calls Tryd.prog 89 #[.int .i64 (n : Int)] w fun e w' => e = .returned (.string ⟨(nt n).toArray⟩) ∧ w' = w) := fun w => by
      have := Tryd.strconv_Itoa_small n (by omega) w
      rw [nt_itoa ⟨n, by omega⟩] at this
      exact this
    have hz : (⟨(nt n).toArray⟩ : ByteArray).size ≤ 2 := by
      show (nt n).toArray.size ≤ 2
      unfold nt
      split <;> simp
    have HZ : Hid (((⟨#[110, 111, 100, 101, 32]⟩ : ByteArray) ++ ⟨(nt n).toArray⟩).data.toList = 110 :: 111 :: 100 :: 101 :: 32 :: nt n) := by
      show _ = _
      rw [ByteArray.data_append]
      simp
    have HH : Hid (∀ w, Calls Tryd.prog 64 #[.string ((⟨#[110, 111, 100, 101, 32]⟩ : ByteArray) ++ ⟨(nt n).toArray⟩)] w fun e w' => e = .returned (.int .u64 (pt n : Int)) ∧ w' = w) := fun w => by
      have := hash_any ((⟨#[110, 111, 100, 101, 32]⟩ : ByteArray) ++ ⟨(nt n).toArray⟩) w (by rw [ByteArray.size_append]; show 5 + _ ≤ _; omega)
      rw [HZ.out] at this
      exact this
    generalize (⟨(nt n).toArray⟩ : ByteArray) = z at *
    clear hi e HZ
    go_enter Tryd.func80, Tryd.ntmps80
    go_wp2_with fail
    refine (HI.out _).mono ?_
    rintro e w' ⟨rfl, hw⟩
    subst hw
    go_wp2_with fail
    refine (HT.out _).mono ?_
    rintro e w' ⟨rfl, hw⟩
    subst hw
    go_wp2_with fail
    refine (HH.out _).mono ?_
    rintro e w' ⟨rfl, hw⟩
    subst hw
    go_wp2
    go_ret
    exact ⟨rfl, rfl⟩
/-- How two numbers stand. -/
def c3 (x y : Int) : Int := if x < y then -1 else if y < x then 1 else 0
theorem nanU (x : Int) (w : World) : Calls Tryd.prog 111 #[.int .u64 x] w fun e w' => e = .returned (.bool false) ∧ w' = w := by
  go_enter Tryd.func111, Tryd.ntmps111
  go_wp2
  go_ret
  exact ⟨by simp, rfl⟩
theorem nanI (x : Int) (w : World) : Calls Tryd.prog 112 #[.int .i64 x] w fun e w' => e = .returned (.bool false) ∧ w' = w := by
  go_enter Tryd.func112, Tryd.ntmps112
  go_wp2
  go_ret
  exact ⟨by simp, rfl⟩
theorem compU (x y : Int) (w : World) : Calls Tryd.prog 93 #[.int .u64 x, .int .u64 y] w fun e w' => e = .returned (.int .i64 (c3 x y)) ∧ w' = w := by
  by_cases h1 : x < y
  · have d1 : decide (x < y) = true := by simpa using h1
    have e : c3 x y = -1 := if_pos h1
    rw [e]
    go_enter Tryd.func93, Tryd.ntmps93
    go_wp2_with (go_at_call 111; refine (nanU _ _).mono ?_; rintro e w' ⟨rfl, rfl⟩)
    go_ret
    exact ⟨rfl, rfl⟩
  · have d1 : decide (x < y) = false := by simpa using h1
    by_cases h2 : y < x
    · have d2 : decide (y < x) = true := by simpa using h2
      have e : c3 x y = 1 := by rw [c3, if_neg h1, if_pos h2]
      rw [e]
      go_enter Tryd.func93, Tryd.ntmps93
      go_wp2_with (go_at_call 111; refine (nanU _ _).mono ?_; rintro e w' ⟨rfl, rfl⟩)
      go_ret
      exact ⟨rfl, rfl⟩
    · have d2 : decide (y < x) = false := by simpa using h2
      have e : c3 x y = 0 := by rw [c3, if_neg h1, if_neg h2]
      rw [e]
      go_enter Tryd.func93, Tryd.ntmps93
      go_wp2_with (go_at_call 111; refine (nanU _ _).mono ?_; rintro e w' ⟨rfl, rfl⟩)
      go_ret
      exact ⟨rfl, rfl⟩
theorem compI (x y : Int) (w : World) : Calls Tryd.prog 94 #[.int .i64 x, .int .i64 y] w fun e w' => e = .returned (.int .i64 (c3 x y)) ∧ w' = w := by
  by_cases h1 : x < y
  · have d1 : decide (x < y) = true := by simpa using h1
    have e : c3 x y = -1 := if_pos h1
    rw [e]
    go_enter Tryd.func94, Tryd.ntmps94
    go_wp2_with (go_at_call 112; refine (nanI _ _).mono ?_; rintro e w' ⟨rfl, rfl⟩)
    go_ret
    exact ⟨rfl, rfl⟩
  · have d1 : decide (x < y) = false := by simpa using h1
    by_cases h2 : y < x
    · have d2 : decide (y < x) = true := by simpa using h2
      have e : c3 x y = 1 := by rw [c3, if_neg h1, if_pos h2]
      rw [e]
      go_enter Tryd.func94, Tryd.ntmps94
      go_wp2_with (go_at_call 112; refine (nanI _ _).mono ?_; rintro e w' ⟨rfl, rfl⟩)
      go_ret
      exact ⟨rfl, rfl⟩
    · have d2 : decide (y < x) = false := by simpa using h2
      have e : c3 x y = 0 := by rw [c3, if_neg h1, if_neg h2]
      rw [e]
      go_enter Tryd.func94, Tryd.ntmps94
      go_wp2_with (go_at_call 112; refine (nanI _ _).mono ?_; rintro e w' ⟨rfl, rfl⟩)
      go_ret
      exact ⟨rfl, rfl⟩
theorem or_two (b : Nat) (x y : Int) (w : World) (h0 : w.cell? ⟨b, 0, none⟩ = some (.int .i64 x)) (h1 : w.cell? ⟨b, 1, none⟩ = some (.int .i64 y)) :
    Calls Tryd.prog 92 #[.slice (some ⟨b, 0, none⟩) 2 2] w fun e w' => e = .returned (.int .i64 (if x = 0 then y else x)) ∧ w' = w := by
  by_cases hx : x = 0
  · subst hx
    rw [if_pos rfl]
    by_cases hy : y = 0
    · subst hy
      go_enter Tryd.func92, Tryd.ntmps92
      go_wp2_with fail
      refine wp_loop_rounds 3 ?_
      rw [rounds_succ]
      go_wp2
      rw [rounds_succ]
      go_wp2
      rw [rounds_succ]
      go_wp2
      go_ret
      exact ⟨rfl, rfl⟩
    · have d : (y != 0) = true := by rw [bne_iff_ne]; exact hy
      go_enter Tryd.func92, Tryd.ntmps92
      go_wp2_with fail
      refine wp_loop_rounds 3 ?_
      rw [rounds_succ]
      go_wp2
      rw [rounds_succ]
      go_wp2
      go_ret
      exact ⟨rfl, rfl⟩
  · rw [if_neg hx]
    have d : (x != 0) = true := by rw [bne_iff_ne]; exact hx
    go_enter Tryd.func92, Tryd.ntmps92
    go_wp2_with fail
    refine wp_loop_rounds 3 ?_
    rw [rounds_succ]
    go_wp2
    go_ret
    exact ⟨rfl, rfl⟩
end Go.Proofs.YtpepdcbhimjddaaDoor
