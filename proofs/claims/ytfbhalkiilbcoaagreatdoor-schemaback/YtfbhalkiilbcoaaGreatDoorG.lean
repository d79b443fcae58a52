/- quic.Get at the front of bytes: its walk. -/
import Derived.Test.YtfbhalkiilbcoaaGreatDoorU
import Derived.Test.YtfbhalkiilbcoaaGreatDoorM
import Derived.Test.YtfbhalkiilbcoaaGreatDoorN
import Derived.RegionTactic
import Derived.ChangeAlike
namespace Go.Proofs.YtfbhalkiilbcoaaGreatDoor.Q
open Go.RowKit

theorem orj (x b : Int) (h0 : 0 ≤ x) (h1 : x < 36028797018963968) (h2 : 0 ≤ b) (h3 : b < 256) : bits BinOp.or IntKind.i64 (x * 256) b = x * 256 + b := by
  have hk : ∀ n : Int, 0 ≤ n → n < 2 ^ 63 → IntKind.i64.wrap n = n := by intro n h0 h1; rw [IntKind.wrap_i64]; omega
  exact bits_join .i64 63 (by decide) hk 8 (x * 256) b (by omega) (by omega) (by omega) (by omega) (by omega) (by omega)

theorem toList_eq (s : ByteArray) : s.toList = s.data.toList := by
  exact ByteArray.toList_eq s
theorem isEmpty_of (s : ByteArray) (h : 0 < s.size) : s.toList.isEmpty = false := by
  rw [toList_eq]
  have h' : 0 < s.data.size := h
  cases hl : s.data.toList with
  | nil => have := congrArg List.length hl; simp at this; simp [this] at h'
  | cons a t => rfl
theorem isEmpty_to (s : ByteArray) (h : s.size = 0) : s.toList.isEmpty = true := by
  rw [toList_eq]
  have h' : s.data.size = 0 := h
  cases hl : s.data.toList with
  | nil => rfl
  | cons a t => have := congrArg List.length hl; simp [h'] at this

set_option maxRecDepth 100000 in
set_option maxHeartbeats 1000000 in
theorem get_1ok (s : ByteArray) (w : World) (hs : s.size ≤ 140737488355328) (h1 : 1 ≤ s.size) (hb0 : (0 : Int) ≤ ((s[0]'(by omega)).toNat : Int)) (hb1 : ((s[0]'(by omega)).toNat : Int) < 64) (hq : qsize (((s[0]'(by omega)).toNat : Int) % (64 : Int)) = 1) :
    Calls Tryz.prog 51 #[.string s] w fun e w' => e = .returned (.tuple #[.int .i64 (((s[0]'(by omega)).toNat : Int) % (64 : Int)), .string (s.extract 1 s.size), .int .i64 0]) ∧ Below w.heap.size w w' := by
  have hne : s.toList.isEmpty = false := isEmpty_of s (by omega)
  have hlt : (0:Int) < s.size := by omega
  have hlt0 : 0 < s.size := by omega
  have hdiv : ((s[0]'(by omega)).toNat : Int) / 64 = 0 := by omega
  have hle : (1:Int) ≤ s.size := by omega
  have hQ : Hid (qsize (((s[0]'(by omega)).toNat : Int) % (64 : Int)) = 1) := hq
  have hR : Hid ((qsize (((s[0]'(by omega)).toNat : Int) % (64 : Int)) != 1) = false) := by show _ = _; rw [hq]; rfl
  clear hq
  go_enter Tryz.func51, Tryz.ntmps51
  go_wp2
  refine wp_loop_rounds 1 ?_
  rw [rounds_succ]
  go_wp2_with (go_at_call 61; refine (size_any _ _).mono ?_; rintro e _ ⟨rfl, rfl⟩; have hR := hR.out)
  go_region
  all_goals go_wp2
  all_goals go_ret3
  all_goals exact ⟨rfl, by repeat (first | exact Below.refl _ _ | refine Below.drew ?_)⟩

set_option maxRecDepth 100000 in
set_option maxHeartbeats 1000000 in
theorem get_1bad (s : ByteArray) (w : World) (hs : s.size ≤ 140737488355328) (h1 : 1 ≤ s.size) (hb0 : (0 : Int) ≤ ((s[0]'(by omega)).toNat : Int)) (hb1 : ((s[0]'(by omega)).toNat : Int) < 64) (hq : ¬ qsize (((s[0]'(by omega)).toNat : Int) % (64 : Int)) = 1) :
    Calls Tryz.prog 51 #[.string s] w fun e w' => e = .returned (.tuple #[.int .i64 0, .string ⟨#[]⟩, .int .i64 3]) ∧ Below w.heap.size w w' := by
  have hne : s.toList.isEmpty = false := isEmpty_of s (by omega)
  have hlt : (0:Int) < s.size := by omega
  have hlt0 : 0 < s.size := by omega
  have hdiv : ((s[0]'(by omega)).toNat : Int) / 64 = 0 := by omega
  have hle : (1:Int) ≤ s.size := by omega
  have hQ : Hid (qsize (((s[0]'(by omega)).toNat : Int) % (64 : Int)) ≠ 1) := hq
  have hR : Hid ((qsize (((s[0]'(by omega)).toNat : Int) % (64 : Int)) != 1) = true) := by show _ = _; rw [bne_iff_ne]; exact hq
  clear hq
  go_enter Tryz.func51, Tryz.ntmps51
  go_wp2
  refine wp_loop_rounds 1 ?_
  rw [rounds_succ]
  go_wp2_with (go_at_call 61; refine (size_any _ _).mono ?_; rintro e _ ⟨rfl, rfl⟩; have hR := hR.out)
  go_ret3
  exact ⟨rfl, Below.refl _ _⟩

set_option maxRecDepth 100000 in
set_option maxHeartbeats 1000000 in
theorem get_2ok (s : ByteArray) (w : World) (hs : s.size ≤ 140737488355328) (h2 : 2 ≤ s.size) (hb0 : (64 : Int) ≤ ((s[0]'(by omega)).toNat : Int)) (hb1 : ((s[0]'(by omega)).toNat : Int) < 128) (hq : qsize ((((s[0]'(by omega)).toNat : Int) % (64 : Int)) * (256 : Int) + ((s[1]'(by omega)).toNat : Int)) = 2) :
    Calls Tryz.prog 51 #[.string s] w fun e w' => e = .returned (.tuple #[.int .i64 ((((s[0]'(by omega)).toNat : Int) % (64 : Int)) * (256 : Int) + ((s[1]'(by omega)).toNat : Int)), .string (s.extract 2 s.size), .int .i64 0]) ∧ Below w.heap.size w w' := by
  have hne : s.toList.isEmpty = false := isEmpty_of s (by omega)
  have hlt : (0:Int) < s.size := by omega
  have hlt0 : 0 < s.size := by omega
  have hdiv : ((s[0]'(by omega)).toNat : Int) / 64 = 1 := by omega
  have hle : (2:Int) ≤ s.size := by omega
  have hlt1 : 1 < s.size := by omega
  have hub1 : (((s[1]'(by omega)).toNat : Int)) < 256 := by have := (s[1]'(by omega)).toNat_lt; omega
  have hQ : Hid (qsize ((((s[0]'(by omega)).toNat : Int) % (64 : Int)) * (256 : Int) + ((s[1]'(by omega)).toNat : Int)) = 2) := hq
  have hR : Hid ((qsize ((((s[0]'(by omega)).toNat : Int) % (64 : Int)) * (256 : Int) + ((s[1]'(by omega)).toNat : Int)) != 2) = false) := by show _ = _; rw [hq]; rfl
  clear hq
  go_enter Tryz.func51, Tryz.ntmps51
  go_wp2
  refine wp_loop_rounds 2 ?_
  rw [rounds_succ]
  go_wp2
  rw [orj _ _ (by omega) (by omega) (by omega) (by omega)]
  rw [rounds_succ]
  go_wp2_with (go_at_call 61; refine (size_any _ _).mono ?_; rintro e _ ⟨rfl, rfl⟩; have hR := hR.out)
  go_region
  all_goals go_wp2
  all_goals go_ret3
  all_goals exact ⟨rfl, by repeat (first | exact Below.refl _ _ | refine Below.drew ?_)⟩

set_option maxRecDepth 100000 in
set_option maxHeartbeats 1000000 in
theorem get_2bad (s : ByteArray) (w : World) (hs : s.size ≤ 140737488355328) (h2 : 2 ≤ s.size) (hb0 : (64 : Int) ≤ ((s[0]'(by omega)).toNat : Int)) (hb1 : ((s[0]'(by omega)).toNat : Int) < 128) (hq : ¬ qsize ((((s[0]'(by omega)).toNat : Int) % (64 : Int)) * (256 : Int) + ((s[1]'(by omega)).toNat : Int)) = 2) :
    Calls Tryz.prog 51 #[.string s] w fun e w' => e = .returned (.tuple #[.int .i64 0, .string ⟨#[]⟩, .int .i64 3]) ∧ Below w.heap.size w w' := by
  have hne : s.toList.isEmpty = false := isEmpty_of s (by omega)
  have hlt : (0:Int) < s.size := by omega
  have hlt0 : 0 < s.size := by omega
  have hdiv : ((s[0]'(by omega)).toNat : Int) / 64 = 1 := by omega
  have hle : (2:Int) ≤ s.size := by omega
  have hlt1 : 1 < s.size := by omega
  have hub1 : (((s[1]'(by omega)).toNat : Int)) < 256 := by have := (s[1]'(by omega)).toNat_lt; omega
  have hQ : Hid (qsize ((((s[0]'(by omega)).toNat : Int) % (64 : Int)) * (256 : Int) + ((s[1]'(by omega)).toNat : Int)) ≠ 2) := hq
  have hR : Hid ((qsize ((((s[0]'(by omega)).toNat : Int) % (64 : Int)) * (256 : Int) + ((s[1]'(by omega)).toNat : Int)) != 2) = true) := by show _ = _; rw [bne_iff_ne]; exact hq
  clear hq
  go_enter Tryz.func51, Tryz.ntmps51
  go_wp2
  refine wp_loop_rounds 2 ?_
  rw [rounds_succ]
  go_wp2
  rw [orj _ _ (by omega) (by omega) (by omega) (by omega)]
  rw [rounds_succ]
  go_wp2_with (go_at_call 61; refine (size_any _ _).mono ?_; rintro e _ ⟨rfl, rfl⟩; have hR := hR.out)
  go_ret3
  exact ⟨rfl, Below.refl _ _⟩

set_option maxRecDepth 100000 in
set_option maxHeartbeats 1000000 in
theorem get_2short (s : ByteArray) (w : World) (hs : s.size ≤ 140737488355328) (hp : 0 < s.size) (hsh : s.size < 2) (hb0 : (64 : Int) ≤ ((s[0]'(by omega)).toNat : Int)) (hb1 : ((s[0]'(by omega)).toNat : Int) < 128) :
    Calls Tryz.prog 51 #[.string s] w fun e w' => e = .returned (.tuple #[.int .i64 0, .string ⟨#[]⟩, .int .i64 7]) ∧ Below w.heap.size w w' := by
  have hne : s.toList.isEmpty = false := isEmpty_of s (by omega)
  have hlt : (0:Int) < s.size := by omega
  have hlt0 : 0 < s.size := by omega
  have hdiv : ((s[0]'(by omega)).toNat : Int) / 64 = 1 := by omega
  have hle : (s.size : Int) < 2 := by omega
  go_enter Tryz.func51, Tryz.ntmps51
  go_wp2
  go_ret3
  exact ⟨rfl, Below.refl _ _⟩

set_option maxRecDepth 100000 in
set_option maxHeartbeats 1000000 in
theorem get_4ok (s : ByteArray) (w : World) (hs : s.size ≤ 140737488355328) (h4 : 4 ≤ s.size) (hb0 : (128 : Int) ≤ ((s[0]'(by omega)).toNat : Int)) (hb1 : ((s[0]'(by omega)).toNat : Int) < 192) (hq : qsize ((((((s[0]'(by omega)).toNat : Int) % (64 : Int)) * (256 : Int) + ((s[1]'(by omega)).toNat : Int)) * (256 : Int) + ((s[2]'(by omega)).toNat : Int)) * (256 : Int) + ((s[3]'(by omega)).toNat : Int)) = 4) :
    Calls Tryz.prog 51 #[.string s] w fun e w' => e = .returned (.tuple #[.int .i64 ((((((s[0]'(by omega)).toNat : Int) % (64 : Int)) * (256 : Int) + ((s[1]'(by omega)).toNat : Int)) * (256 : Int) + ((s[2]'(by omega)).toNat : Int)) * (256 : Int) + ((s[3]'(by omega)).toNat : Int)), .string (s.extract 4 s.size), .int .i64 0]) ∧ Below w.heap.size w w' := by
  have hne : s.toList.isEmpty = false := isEmpty_of s (by omega)
  have hlt : (0:Int) < s.size := by omega
  have hlt0 : 0 < s.size := by omega
  have hdiv : ((s[0]'(by omega)).toNat : Int) / 64 = 2 := by omega
  have hle : (4:Int) ≤ s.size := by omega
  have hlt1 : 1 < s.size := by omega
  have hub1 : (((s[1]'(by omega)).toNat : Int)) < 256 := by have := (s[1]'(by omega)).toNat_lt; omega
  have hlt2 : 2 < s.size := by omega
  have hub2 : (((s[2]'(by omega)).toNat : Int)) < 256 := by have := (s[2]'(by omega)).toNat_lt; omega
  have hlt3 : 3 < s.size := by omega
  have hub3 : (((s[3]'(by omega)).toNat : Int)) < 256 := by have := (s[3]'(by omega)).toNat_lt; omega
  have hQ : Hid (qsize ((((((s[0]'(by omega)).toNat : Int) % (64 : Int)) * (256 : Int) + ((s[1]'(by omega)).toNat : Int)) * (256 : Int) + ((s[2]'(by omega)).toNat : Int)) * (256 : Int) + ((s[3]'(by omega)).toNat : Int)) = 4) := hq
  have hR : Hid ((qsize ((((((s[0]'(by omega)).toNat : Int) % (64 : Int)) * (256 : Int) + ((s[1]'(by omega)).toNat : Int)) * (256 : Int) + ((s[2]'(by omega)).toNat : Int)) * (256 : Int) + ((s[3]'(by omega)).toNat : Int)) != 4) = false) := by show _ = _; rw [hq]; rfl
  clear hq
  go_enter Tryz.func51, Tryz.ntmps51
  go_wp2
  refine wp_loop_rounds 4 ?_
  rw [rounds_succ]
  go_wp2
  rw [orj _ _ (by omega) (by omega) (by omega) (by omega)]
  rw [rounds_succ]
  go_wp2
  rw [orj _ _ (by omega) (by omega) (by omega) (by omega)]
  rw [rounds_succ]
  go_wp2
  rw [orj _ _ (by omega) (by omega) (by omega) (by omega)]
  rw [rounds_succ]
  go_wp2_with (go_at_call 61; refine (size_any _ _).mono ?_; rintro e _ ⟨rfl, rfl⟩; have hR := hR.out)
  go_region
  all_goals go_wp2
  all_goals go_ret3
  all_goals exact ⟨rfl, by repeat (first | exact Below.refl _ _ | refine Below.drew ?_)⟩

set_option maxRecDepth 100000 in
set_option maxHeartbeats 1000000 in
theorem get_4bad (s : ByteArray) (w : World) (hs : s.size ≤ 140737488355328) (h4 : 4 ≤ s.size) (hb0 : (128 : Int) ≤ ((s[0]'(by omega)).toNat : Int)) (hb1 : ((s[0]'(by omega)).toNat : Int) < 192) (hq : ¬ qsize ((((((s[0]'(by omega)).toNat : Int) % (64 : Int)) * (256 : Int) + ((s[1]'(by omega)).toNat : Int)) * (256 : Int) + ((s[2]'(by omega)).toNat : Int)) * (256 : Int) + ((s[3]'(by omega)).toNat : Int)) = 4) :
    Calls Tryz.prog 51 #[.string s] w fun e w' => e = .returned (.tuple #[.int .i64 0, .string ⟨#[]⟩, .int .i64 3]) ∧ Below w.heap.size w w' := by
  have hne : s.toList.isEmpty = false := isEmpty_of s (by omega)
  have hlt : (0:Int) < s.size := by omega
  have hlt0 : 0 < s.size := by omega
  have hdiv : ((s[0]'(by omega)).toNat : Int) / 64 = 2 := by omega
  have hle : (4:Int) ≤ s.size := by omega
  have hlt1 : 1 < s.size := by omega
  have hub1 : (((s[1]'(by omega)).toNat : Int)) < 256 := by have := (s[1]'(by omega)).toNat_lt; omega
  have hlt2 : 2 < s.size := by omega
  have hub2 : (((s[2]'(by omega)).toNat : Int)) < 256 := by have := (s[2]'(by omega)).toNat_lt; omega
  have hlt3 : 3 < s.size := by omega
  have hub3 : (((s[3]'(by omega)).toNat : Int)) < 256 := by have := (s[3]'(by omega)).toNat_lt; omega
  have hQ : Hid (qsize ((((((s[0]'(by omega)).toNat : Int) % (64 : Int)) * (256 : Int) + ((s[1]'(by omega)).toNat : Int)) * (256 : Int) + ((s[2]'(by omega)).toNat : Int)) * (256 : Int) + ((s[3]'(by omega)).toNat : Int)) ≠ 4) := hq
  have hR : Hid ((qsize ((((((s[0]'(by omega)).toNat : Int) % (64 : Int)) * (256 : Int) + ((s[1]'(by omega)).toNat : Int)) * (256 : Int) + ((s[2]'(by omega)).toNat : Int)) * (256 : Int) + ((s[3]'(by omega)).toNat : Int)) != 4) = true) := by show _ = _; rw [bne_iff_ne]; exact hq
  clear hq
  go_enter Tryz.func51, Tryz.ntmps51
  go_wp2
  refine wp_loop_rounds 4 ?_
  rw [rounds_succ]
  go_wp2
  rw [orj _ _ (by omega) (by omega) (by omega) (by omega)]
  rw [rounds_succ]
  go_wp2
  rw [orj _ _ (by omega) (by omega) (by omega) (by omega)]
  rw [rounds_succ]
  go_wp2
  rw [orj _ _ (by omega) (by omega) (by omega) (by omega)]
  rw [rounds_succ]
  go_wp2_with (go_at_call 61; refine (size_any _ _).mono ?_; rintro e _ ⟨rfl, rfl⟩; have hR := hR.out)
  go_ret3
  exact ⟨rfl, Below.refl _ _⟩

set_option maxRecDepth 100000 in
set_option maxHeartbeats 1000000 in
theorem get_4short (s : ByteArray) (w : World) (hs : s.size ≤ 140737488355328) (hp : 0 < s.size) (hsh : s.size < 4) (hb0 : (128 : Int) ≤ ((s[0]'(by omega)).toNat : Int)) (hb1 : ((s[0]'(by omega)).toNat : Int) < 192) :
    Calls Tryz.prog 51 #[.string s] w fun e w' => e = .returned (.tuple #[.int .i64 0, .string ⟨#[]⟩, .int .i64 7]) ∧ Below w.heap.size w w' := by
  have hne : s.toList.isEmpty = false := isEmpty_of s (by omega)
  have hlt : (0:Int) < s.size := by omega
  have hlt0 : 0 < s.size := by omega
  have hdiv : ((s[0]'(by omega)).toNat : Int) / 64 = 2 := by omega
  have hle : (s.size : Int) < 4 := by omega
  go_enter Tryz.func51, Tryz.ntmps51
  go_wp2
  go_ret3
  exact ⟨rfl, Below.refl _ _⟩

set_option maxRecDepth 100000 in
set_option maxHeartbeats 1000000 in
theorem get_8ok (s : ByteArray) (w : World) (hs : s.size ≤ 140737488355328) (h8 : 8 ≤ s.size) (hb0 : (192 : Int) ≤ ((s[0]'(by omega)).toNat : Int)) (hb1 : ((s[0]'(by omega)).toNat : Int) < 256) (hq : qsize ((((((((((s[0]'(by omega)).toNat : Int) % (64 : Int)) * (256 : Int) + ((s[1]'(by omega)).toNat : Int)) * (256 : Int) + ((s[2]'(by omega)).toNat : Int)) * (256 : Int) + ((s[3]'(by omega)).toNat : Int)) * (256 : Int) + ((s[4]'(by omega)).toNat : Int)) * (256 : Int) + ((s[5]'(by omega)).toNat : Int)) * (256 : Int) + ((s[6]'(by omega)).toNat : Int)) * (256 : Int) + ((s[7]'(by omega)).toNat : Int)) = 8) :
    Calls Tryz.prog 51 #[.string s] w fun e w' => e = .returned (.tuple #[.int .i64 ((((((((((s[0]'(by omega)).toNat : Int) % (64 : Int)) * (256 : Int) + ((s[1]'(by omega)).toNat : Int)) * (256 : Int) + ((s[2]'(by omega)).toNat : Int)) * (256 : Int) + ((s[3]'(by omega)).toNat : Int)) * (256 : Int) + ((s[4]'(by omega)).toNat : Int)) * (256 : Int) + ((s[5]'(by omega)).toNat : Int)) * (256 : Int) + ((s[6]'(by omega)).toNat : Int)) * (256 : Int) + ((s[7]'(by omega)).toNat : Int)), .string (s.extract 8 s.size), .int .i64 0]) ∧ Below w.heap.size w w' := by
  have hne : s.toList.isEmpty = false := isEmpty_of s (by omega)
  have hlt : (0:Int) < s.size := by omega
  have hlt0 : 0 < s.size := by omega
  have hdiv : ((s[0]'(by omega)).toNat : Int) / 64 = 3 := by omega
  have hle : (8:Int) ≤ s.size := by omega
  have hlt1 : 1 < s.size := by omega
  have hub1 : (((s[1]'(by omega)).toNat : Int)) < 256 := by have := (s[1]'(by omega)).toNat_lt; omega
  have hlt2 : 2 < s.size := by omega
  have hub2 : (((s[2]'(by omega)).toNat : Int)) < 256 := by have := (s[2]'(by omega)).toNat_lt; omega
  have hlt3 : 3 < s.size := by omega
  have hub3 : (((s[3]'(by omega)).toNat : Int)) < 256 := by have := (s[3]'(by omega)).toNat_lt; omega
  have hlt4 : 4 < s.size := by omega
  have hub4 : (((s[4]'(by omega)).toNat : Int)) < 256 := by have := (s[4]'(by omega)).toNat_lt; omega
  have hlt5 : 5 < s.size := by omega
  have hub5 : (((s[5]'(by omega)).toNat : Int)) < 256 := by have := (s[5]'(by omega)).toNat_lt; omega
  have hlt6 : 6 < s.size := by omega
  have hub6 : (((s[6]'(by omega)).toNat : Int)) < 256 := by have := (s[6]'(by omega)).toNat_lt; omega
  have hlt7 : 7 < s.size := by omega
  have hub7 : (((s[7]'(by omega)).toNat : Int)) < 256 := by have := (s[7]'(by omega)).toNat_lt; omega
  have hQ : Hid (qsize ((((((((((s[0]'(by omega)).toNat : Int) % (64 : Int)) * (256 : Int) + ((s[1]'(by omega)).toNat : Int)) * (256 : Int) + ((s[2]'(by omega)).toNat : Int)) * (256 : Int) + ((s[3]'(by omega)).toNat : Int)) * (256 : Int) + ((s[4]'(by omega)).toNat : Int)) * (256 : Int) + ((s[5]'(by omega)).toNat : Int)) * (256 : Int) + ((s[6]'(by omega)).toNat : Int)) * (256 : Int) + ((s[7]'(by omega)).toNat : Int)) = 8) := hq
  have hR : Hid ((qsize ((((((((((s[0]'(by omega)).toNat : Int) % (64 : Int)) * (256 : Int) + ((s[1]'(by omega)).toNat : Int)) * (256 : Int) + ((s[2]'(by omega)).toNat : Int)) * (256 : Int) + ((s[3]'(by omega)).toNat : Int)) * (256 : Int) + ((s[4]'(by omega)).toNat : Int)) * (256 : Int) + ((s[5]'(by omega)).toNat : Int)) * (256 : Int) + ((s[6]'(by omega)).toNat : Int)) * (256 : Int) + ((s[7]'(by omega)).toNat : Int)) != 8) = false) := by show _ = _; rw [hq]; rfl
  clear hq
  go_enter Tryz.func51, Tryz.ntmps51
  go_wp2
  refine wp_loop_rounds 8 ?_
  rw [rounds_succ]
  go_wp2
  rw [orj _ _ (by omega) (by omega) (by omega) (by omega)]
  rw [rounds_succ]
  go_wp2
  rw [orj _ _ (by omega) (by omega) (by omega) (by omega)]
  rw [rounds_succ]
  go_wp2
  rw [orj _ _ (by omega) (by omega) (by omega) (by omega)]
  rw [rounds_succ]
  go_wp2
  rw [orj _ _ (by omega) (by omega) (by omega) (by omega)]
  rw [rounds_succ]
  go_wp2
  rw [orj _ _ (by omega) (by omega) (by omega) (by omega)]
  rw [rounds_succ]
  go_wp2
  rw [orj _ _ (by omega) (by omega) (by omega) (by omega)]
  rw [rounds_succ]
  go_wp2
  rw [orj _ _ (by omega) (by omega) (by omega) (by omega)]
  rw [rounds_succ]
  go_wp2_with (go_at_call 61; refine (size_any _ _).mono ?_; rintro e _ ⟨rfl, rfl⟩; have hR := hR.out)
  go_region
  all_goals go_wp2
  all_goals go_ret3
  all_goals exact ⟨rfl, by repeat (first | exact Below.refl _ _ | refine Below.drew ?_)⟩

set_option maxRecDepth 100000 in
set_option maxHeartbeats 1000000 in
theorem get_8bad (s : ByteArray) (w : World) (hs : s.size ≤ 140737488355328) (h8 : 8 ≤ s.size) (hb0 : (192 : Int) ≤ ((s[0]'(by omega)).toNat : Int)) (hb1 : ((s[0]'(by omega)).toNat : Int) < 256) (hq : ¬ qsize ((((((((((s[0]'(by omega)).toNat : Int) % (64 : Int)) * (256 : Int) + ((s[1]'(by omega)).toNat : Int)) * (256 : Int) + ((s[2]'(by omega)).toNat : Int)) * (256 : Int) + ((s[3]'(by omega)).toNat : Int)) * (256 : Int) + ((s[4]'(by omega)).toNat : Int)) * (256 : Int) + ((s[5]'(by omega)).toNat : Int)) * (256 : Int) + ((s[6]'(by omega)).toNat : Int)) * (256 : Int) + ((s[7]'(by omega)).toNat : Int)) = 8) :
    Calls Tryz.prog 51 #[.string s] w fun e w' => e = .returned (.tuple #[.int .i64 0, .string ⟨#[]⟩, .int .i64 3]) ∧ Below w.heap.size w w' := by
  have hne : s.toList.isEmpty = false := isEmpty_of s (by omega)
  have hlt : (0:Int) < s.size := by omega
  have hlt0 : 0 < s.size := by omega
  have hdiv : ((s[0]'(by omega)).toNat : Int) / 64 = 3 := by omega
  have hle : (8:Int) ≤ s.size := by omega
  have hlt1 : 1 < s.size := by omega
  have hub1 : (((s[1]'(by omega)).toNat : Int)) < 256 := by have := (s[1]'(by omega)).toNat_lt; omega
  have hlt2 : 2 < s.size := by omega
  have hub2 : (((s[2]'(by omega)).toNat : Int)) < 256 := by have := (s[2]'(by omega)).toNat_lt; omega
  have hlt3 : 3 < s.size := by omega
  have hub3 : (((s[3]'(by omega)).toNat : Int)) < 256 := by have := (s[3]'(by omega)).toNat_lt; omega
  have hlt4 : 4 < s.size := by omega
  have hub4 : (((s[4]'(by omega)).toNat : Int)) < 256 := by have := (s[4]'(by omega)).toNat_lt; omega
  have hlt5 : 5 < s.size := by omega
  have hub5 : (((s[5]'(by omega)).toNat : Int)) < 256 := by have := (s[5]'(by omega)).toNat_lt; omega
  have hlt6 : 6 < s.size := by omega
  have hub6 : (((s[6]'(by omega)).toNat : Int)) < 256 := by have := (s[6]'(by omega)).toNat_lt; omega
  have hlt7 : 7 < s.size := by omega
  have hub7 : (((s[7]'(by omega)).toNat : Int)) < 256 := by have := (s[7]'(by omega)).toNat_lt; omega
  have hQ : Hid (qsize ((((((((((s[0]'(by omega)).toNat : Int) % (64 : Int)) * (256 : Int) + ((s[1]'(by omega)).toNat : Int)) * (256 : Int) + ((s[2]'(by omega)).toNat : Int)) * (256 : Int) + ((s[3]'(by omega)).toNat : Int)) * (256 : Int) + ((s[4]'(by omega)).toNat : Int)) * (256 : Int) + ((s[5]'(by omega)).toNat : Int)) * (256 : Int) + ((s[6]'(by omega)).toNat : Int)) * (256 : Int) + ((s[7]'(by omega)).toNat : Int)) ≠ 8) := hq
  have hR : Hid ((qsize ((((((((((s[0]'(by omega)).toNat : Int) % (64 : Int)) * (256 : Int) + ((s[1]'(by omega)).toNat : Int)) * (256 : Int) + ((s[2]'(by omega)).toNat : Int)) * (256 : Int) + ((s[3]'(by omega)).toNat : Int)) * (256 : Int) + ((s[4]'(by omega)).toNat : Int)) * (256 : Int) + ((s[5]'(by omega)).toNat : Int)) * (256 : Int) + ((s[6]'(by omega)).toNat : Int)) * (256 : Int) + ((s[7]'(by omega)).toNat : Int)) != 8) = true) := by show _ = _; rw [bne_iff_ne]; exact hq
  clear hq
  go_enter Tryz.func51, Tryz.ntmps51
  go_wp2
  refine wp_loop_rounds 8 ?_
  rw [rounds_succ]
  go_wp2
  rw [orj _ _ (by omega) (by omega) (by omega) (by omega)]
  rw [rounds_succ]
  go_wp2
  rw [orj _ _ (by omega) (by omega) (by omega) (by omega)]
  rw [rounds_succ]
  go_wp2
  rw [orj _ _ (by omega) (by omega) (by omega) (by omega)]
  rw [rounds_succ]
  go_wp2
  rw [orj _ _ (by omega) (by omega) (by omega) (by omega)]
  rw [rounds_succ]
  go_wp2
  rw [orj _ _ (by omega) (by omega) (by omega) (by omega)]
  rw [rounds_succ]
  go_wp2
  rw [orj _ _ (by omega) (by omega) (by omega) (by omega)]
  rw [rounds_succ]
  go_wp2
  rw [orj _ _ (by omega) (by omega) (by omega) (by omega)]
  rw [rounds_succ]
  go_wp2_with (go_at_call 61; refine (size_any _ _).mono ?_; rintro e _ ⟨rfl, rfl⟩; have hR := hR.out)
  go_ret3
  exact ⟨rfl, Below.refl _ _⟩

set_option maxRecDepth 100000 in
set_option maxHeartbeats 1000000 in
theorem get_8short (s : ByteArray) (w : World) (hs : s.size ≤ 140737488355328) (hp : 0 < s.size) (hsh : s.size < 8) (hb0 : (192 : Int) ≤ ((s[0]'(by omega)).toNat : Int)) (hb1 : ((s[0]'(by omega)).toNat : Int) < 256) :
    Calls Tryz.prog 51 #[.string s] w fun e w' => e = .returned (.tuple #[.int .i64 0, .string ⟨#[]⟩, .int .i64 7]) ∧ Below w.heap.size w w' := by
  have hne : s.toList.isEmpty = false := isEmpty_of s (by omega)
  have hlt : (0:Int) < s.size := by omega
  have hlt0 : 0 < s.size := by omega
  have hdiv : ((s[0]'(by omega)).toNat : Int) / 64 = 3 := by omega
  have hle : (s.size : Int) < 8 := by omega
  go_enter Tryz.func51, Tryz.ntmps51
  go_wp2
  go_ret3
  exact ⟨rfl, Below.refl _ _⟩

set_option maxHeartbeats 400000 in
theorem get_none (s : ByteArray) (w : World) (h : s.size = 0) :
    Calls Tryz.prog 51 #[.string s] w fun e w' => e = .returned (.tuple #[.int .i64 0, .string ⟨#[]⟩, .int .i64 7]) ∧ Below w.heap.size w w' := by
  have hne : s.toList.isEmpty = true := isEmpty_to s h
  go_enter Tryz.func51, Tryz.ntmps51
  go_wp2
  go_ret3
  exact ⟨rfl, Below.refl _ _⟩
end Go.Proofs.YtfbhalkiilbcoaaGreatDoor.Q
