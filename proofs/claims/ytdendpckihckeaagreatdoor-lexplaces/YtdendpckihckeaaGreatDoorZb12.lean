/- quic.Get at the front of bytes: its walk. -/
import Derived.Test.YtdendpckihckeaaGreatDoorZb1
import Derived.Test.YtdendpckihckeaaGreatDoorZb11
import Derived.RegionTactic
import Derived.ChangeAlike
import Derived.Test.YtdendpckihckeaaGreatDoorZb10
namespace Go.Proofs.YtdendpckihckeaaGreatDoor.Q
open Go.RowKit

theorem orj (x b : Int) (h0 : 0 ≤ x) (h1 : x < 36028797018963968) (h2 : 0 ≤ b) (h3 : b < 256) : bits BinOp.or IntKind.i64 (x * 256) b = x * 256 + b := by
  have hk : ∀ n : Int, 0 ≤ n → n < 2 ^ 63 → IntKind.i64.wrap n = n := by intro n h0 h1; rw [IntKind.wrap_i64]; omega
  exact bits_join .i64 63 (by decide) hk 8 (x * 256) b (by omega) (by omega) (by omega) (by omega) (by omega) (by omega)

theorem toList_eq (s : ByteArray) : s.toList = s.data.toList := by
  exact ByteArray.toList_eq s
theorem isEmpty_of (s : ByteArray) (h : 0 < s.size) : s.toList.isEmpty = false := by
  rw [toList_eq]
  have h' : 0 < s.data.size := h
  cases hl : s.data.toList with
  | nil => have := congrArg List.length hl; simp at this; simp [this] at h'
  | cons a t => rfl
theorem isEmpty_to (s : ByteArray) (h : s.size = 0) : s.toList.isEmpty = true := by
  rw [toList_eq]
  have h' : s.data.size = 0 := h
  cases hl : s.data.toList with
  | nil => rfl
  | cons a t => have := congrArg List.length hl; simp [h'] at this

set_option maxRecDepth 100000 in
set_option maxHeartbeats 1000000 in
theorem get_1ok (s : ByteArray) (w : World) (hs : s.size ≤ 140737488355328) (h1 : 1 ≤ s.size) (hb0 : (0 : Int) ≤ ((s[0]'(by omega)).toNat : Int)) (hb1 : ((s[0]'(by omega)).toNat : Int) < 64) (hq : qsize (((s[0]'(by omega)).toNat : Int) % (64 : Int)) = 1) :
    Calls Tryz.prog 44 #[.string s] w fun e w' => e = .returned (.tuple #[.int .i64 (((s[0]'(by omega)).toNat : Int) % (64 : Int)), .string (s.extract 1 s.size), .int .i64 0]) ∧ Below w.heap.size w w' := by
  have hne : s.toList.isEmpty = false := isEmpty_of s (by omega)
  have hlt : (0:Int) < s.size := by omega
  have hlt0 : 0 < s.size := by omega
  have hdiv : ((s[0]'(by omega)).toNat : Int) / 64 = 0 := by omega
  have hle : (1:Int) ≤ s.size := by omega
  have hQ : Hid (qsize (((s[0]'(by omega)).toNat : Int) % (64 : Int)) = 1) := hq
  have hR : Hid ((qsize (((s[0]'(by omega)).toNat : Int) % (64 : Int)) != 1) = false) := by show _ = _; rw [hq]; rfl
  clear hq
  go_enter Tryz.func44, Tryz.ntmps44
  go_wp2
  refine wp_loop_rounds 1 ?_
  rw [rounds_succ]
  go_wp2_with (go_at_call 77; refine (size_any _ _).mono ?_; rintro e _ ⟨rfl, rfl⟩; have hR := hR.out)
  go_region
  all_goals go_wp2
  all_goals go_ret3
  all_goals exact ⟨rfl, by repeat (first | exact Below.refl _ _ | refine Below.drew ?_)⟩

set_option maxRecDepth 100000 in
set_option maxHeartbeats 1000000 in
theorem get_1bad (s : ByteArray) (w : World) (hs : s.size ≤ 140737488355328) (h1 : 1 ≤ s.size) (hb0 : (0 : Int) ≤ ((s[0]'(by omega)).toNat : Int)) (hb1 : ((s[0]'(by omega)).toNat : Int) < 64) (hq : ¬ qsize (((s[0]'(by omega)).toNat : Int) % (64 : Int)) = 1) :
    Calls Tryz.prog 44 #[.string s] w fun e w' => e = .returned (.tuple #[.int .i64 0, .string ⟨#[]⟩, .int .i64 3]) ∧ Below w.heap.size w w' := by
  have hne : s.toList.isEmpty = false := isEmpty_of s (by omega)
  have hlt : (0:Int) < s.size := by omega
  have hlt0 : 0 < s.size := by omega
  have hdiv : ((s[0]'(by omega)).toNat : Int) / 64 = 0 := by omega
  have hle : (1:Int) ≤ s.size := by omega
  have hQ : Hid (qsize (((s[0]'(by omega)).toNat : Int) % (64 : Int)) ≠ 1) := hq
  have hR : Hid ((qsize (((s[0]'(by omega)).toNat : Int) % (64 : Int)) != 1) = true) := by show _ = _; rw [bne_iff_ne]; exact hq
  clear hq
  go_enter Tryz.func44, Tryz.ntmps44
  go_wp2
  refine wp_loop_rounds 1 ?_
  rw [rounds_succ]
  go_wp2_with (go_at_call 77; refine (size_any _ _).mono ?_; rintro e _ ⟨rfl, rfl⟩; have hR := hR.out)
  go_ret3
  exact ⟨rfl, Below.refl _ _⟩

set_option maxRecDepth 100000 in
set_option maxHeartbeats 1000000 in
theorem get_2ok (s : ByteArray) (w : World) (hs : s.size ≤ 140737488355328) (h2 : 2 ≤ s.size) (hb0 : (64 : Int) ≤ ((s[0]'(by omega)).toNat : Int)) (hb1 : ((s[0]'(by omega)).toNat : Int) < 128) (hq : qsize ((((s[0]'(by omega)).toNat : Int) % (64 : Int)) * (256 : Int) + ((s[1]'(by omega)).toNat : Int)) = 2) :
    Calls Tryz.prog 44 #[.string s] w fun e w' => e = .returned (.tuple #[.int .i64 ((((s[0]'(by omega)).toNat : Int) % (64 : Int)) * (256 : Int) + ((s[1]'(by omega)).toNat : Int)), .string (s.extract 2 s.size), .int .i64 0]) ∧ Below w.heap.size w w' := by
  have hne : s.toList.isEmpty = false := isEmpty_of s (by omega)
  have hlt : (0:Int) < s.size := by omega
  have hlt0 : 0 < s.size := by omega
  have hdiv : ((s[0]'(by omega)).toNat : Int) / 64 = 1 := by omega
  have hle : (2:Int) ≤ s.size := by omega
  have hlt1 : 1 < s.size := by omega
  have hub1 : (((s[1]'(by omega)).toNat : Int)) < 256 := by have := (s[1]'(by omega)).toNat_lt; omega
  have hQ : Hid (qsize ((((s[0]'(by omega)).toNat : Int) % (64 : Int)) * (256 : Int) + ((s[1]'(by omega)).toNat : Int)) = 2) := hq
  have hR : Hid ((qsize ((((s[0]'(by omega)).toNat : Int) % (64 : Int)) * (256 : Int) + ((s[1]'(by omega)).toNat : Int)) != 2) = false) := by show _ = _; rw [hq]; rfl
  clear hq
  go_enter Tryz.func44, Tryz.ntmps44
  go_wp2
  refine wp_loop_rounds 2 ?_
  rw [rounds_succ]
  go_wp2
  rw [orj _ _ (by omega) (by omega) (by omega) (by omega)]
  rw [rounds_succ]
  go_wp2_with (go_at_call 77; refine (size_any _ _).mono ?_; rintro e _ ⟨rfl, rfl⟩; have hR := hR.out)
  go_region
  all_goals go_wp2
  all_goals go_ret3
  all_goals exact ⟨rfl, by repeat (first | exact Below.refl _ _ | refine Below.drew ?_)⟩

set_option maxRecDepth 100000 in
set_option maxHeartbeats 1000000 in
theorem get_2bad (s : ByteArray) (w : World) (hs : s.size ≤ 140737488355328) (h2 : 2 ≤ s.size) (hb0 : (64 : Int) ≤ ((s[0]'(by omega)).toNat : Int)) (hb1 : ((s[0]'(by omega)).toNat : Int) < 128) (hq : ¬ qsize ((((s[0]'(by omega)).toNat : Int) % (64 : Int)) * (256 : Int) + ((s[1]'(by omega)).toNat : Int)) = 2) :
    Calls Tryz.prog 44 #[.string s] w fun e w' => e = .returned (.tuple #[.int .i64 0, .string ⟨#[]⟩, .int .i64 3]) ∧ Below w.heap.size w w' := by
  have hne : s.toList.isEmpty = false := isEmpty_of s (by omega)
  have hlt : (0:Int) < s.size := by omega
  have hlt0 : 0 < s.size := by omega
  have hdiv : ((s[0]'(by omega)).toNat : Int) / 64 = 1 := by omega
  have hle : (2:Int) ≤ s.size := by omega
  have hlt1 : 1 < s.size := by omega
  have hub1 : (((s[1]'(by omega)).toNat : Int)) < 256 := by have := (s[1]'(by omega)).toNat_lt; omega
  have hQ : Hid (qsize ((((s[0]'(by omega)).toNat : Int) % (64 : Int)) * (256 : Int) + ((s[1]'(by omega)).toNat : Int)) ≠ 2) := hq
  have hR : Hid ((qsize ((((s[0]'(by omega)).toNat : Int) % (64 : Int)) * (256 : Int) + ((s[1]'(by omega)).toNat : Int)) != 2) = true) := by show _ = _; rw [bne_iff_ne]; exact hq
  clear hq
  go_enter Tryz.func44, Tryz.ntmps44
  go_wp2
  refine wp_loop_rounds 2 ?_
  rw [rounds_succ]
  go_wp2
  rw [orj _ _ (by omega) (by omega) (by omega) (by omega)]
  rw [rounds_succ]
  go_wp2_with (go_at_call 77; refine (size_any _ _).mono ?_; rintro e _ ⟨rfl, rfl⟩; have hR := hR.out)
  go_ret3
  exact ⟨rfl, Below.refl _ _⟩

set_option maxRecDepth 100000 in
set_option maxHeartbeats 1000000 in
theorem get_2short (s : ByteArray) (w : World) (hs : s.size ≤ 140737488355328) (hp : 0 < s.size) (hsh : s.size < 2) (hb0 : (64 : Int) ≤ ((s[0]'(by omega)).toNat : Int)) (hb1 : ((s[0]'(by omega)).toNat : Int) < 128) :
    Calls Tryz.prog 44 #[.string s] w fun e w' => e = .returned (.tuple #[.int .i64 0, .string ⟨#[]⟩, .int .i64 7]) ∧ Below w.heap.size w w' := by
  have hne : s.toList.isEmpty = false := isEmpty_of s (by omega)
  have hlt : (0:Int) < s.size := by omega
  have hlt0 : 0 < s.size := by omega
  have hdiv : ((s[0]'(by omega)).toNat : Int) / 64 = 1 := by omega
  have hle : (s.size : Int) < 2 := by omega
  go_enter Tryz.func44, Tryz.ntmps44
  go_wp2
  go_ret3
  exact ⟨rfl, Below.refl _ _⟩

set_option maxRecDepth 100000 in
set_option maxHeartbeats 1000000 in
theorem get_4ok (s : ByteArray) (w : World) (hs : s.size ≤ 140737488355328) (h4 : 4 ≤ s.size) (hb0 : (128 : Int) ≤ ((s[0]'(by omega)).toNat : Int)) (hb1 : ((s[0]'(by omega)).toNat : Int) < 192) (hq : qsize ((((((s[0]'(by omega)).toNat : Int) % (64 : Int)) * (256 : Int) + ((s[1]'(by omega)).toNat : Int)) * (256 : Int) + ((s[2]'(by omega)).toNat : Int)) * (256 : Int) + ((s[3]'(by omega)).toNat : Int)) = 4) :
    Calls Tryz.prog 44 #[.string s] w fun e w' => e = .returned (.tuple #[.int .i64 ((((((s[0]'(by omega)).toNat : Int) % (64 : Int)) * (256 : Int) + ((s[1]'(by omega)).toNat : Int)) * (256 : Int) + ((s[2]'(by omega)).toNat : Int)) * (256 : Int) + ((s[3]'(by omega)).toNat : Int)), .string (s.extract 4 s.size), .int .i64 0]) ∧ Below w.heap.size w w' := by
  have hne : s.toList.isEmpty = false := isEmpty_of s (by omega)
  have hlt : (0:Int) < s.size := by omega
  have hlt0 : 0 < s.size := by omega
  have hdiv : ((s[0]'(by omega)).toNat : Int) / 64 = 2 := by omega
  have hle : (4:Int) ≤ s.size := by omega
  have hlt1 : 1 < s.size := by omega
  have hub1 : (((s[1]'(by omega)).toNat : Int)) < 256 := by have := (s[1]'(by omega)).toNat_lt; omega
  have hlt2 : 2 < s.size := by omega
  have hub2 : (((s[2]'(by omega)).toNat : Int)) < 256 := by have := (s[2]'(by omega)).toNat_lt; omega
  have hlt3 : 3 < s.size := by omega
  have hub3 : (((s[3]'(by omega)).toNat : Int)) < 256 := by have := (s[3]'(by omega)).toNat_lt; omega
  have hQ : Hid (qsize ((((((s[0]'(by omega)).toNat : Int) % (64 : Int)) * (256 : Int) + ((s[1]'(by omega)).toNat : Int)) * (256 : Int) + ((s[2]'(by omega)).toNat : Int)) * (256 : Int) + ((s[3]'(by omega)).toNat : Int)) = 4) := hq
  have hR : Hid ((qsize ((((((s[0]'(by omega)).toNat : Int) % (64 : Int)) * (256 : Int) + ((s[1]'(by omega)).toNat : Int)) * (256 : Int) + ((s[2]'(by omega)).toNat : Int)) * (256 : Int) + ((s[3]'(by omega)).toNat : Int)) != 4) = false) := by show _ = _; rw [hq]; rfl
  clear hq
  go_enter Tryz.func44, Tryz.ntmps44
  go_wp2
  refine wp_loop_rounds 4 ?_
  rw [rounds_succ]
  go_wp2
  rw [orj _ _ (by omega) (by omega) (by omega) (by omega)]
  rw [rounds_succ]
  go_wp2
  rw [orj _ _ (by omega) (by omega) (by omega) (by omega)]
  rw [rounds_succ]
  go_wp2
  rw [orj _ _ (by omega) (by omega) (by omega) (by omega)]
  rw [rounds_succ]
  go_wp2_with (go_at_call 77; refine (size_any _ _).mono ?_; rintro e _ ⟨rfl, rfl⟩; have hR := hR.out)
  go_region
  all_goals go_wp2
  all_goals go_ret3
  all_goals exact ⟨rfl, by repeat (first | exact Below.refl _ _ | refine Below.drew ?_)⟩

set_option maxRecDepth 100000 in
set_option maxHeartbeats 1000000 in
theorem get_4bad (s : ByteArray) (w : World) (hs : s.size ≤ 140737488355328) (h4 : 4 ≤ s.size) (hb0 : (128 : Int) ≤ ((s[0]'(by omega)).toNat : Int)) (hb1 : ((s[0]'(by omega)).toNat : Int) < 192) (hq : ¬ qsize ((((((s[0]'(by omega)).toNat : Int) % (64 : Int)) * (256 : Int) + ((s[1]'(by omega)).toNat : Int)) * (256 : Int) + ((s[2]'(by omega)).toNat : Int)) * (256 : Int) + ((s[3]'(by omega)).toNat : Int)) = 4) :
    Calls Tryz.prog 44 #[.string s] w fun e w' => e = .returned (.tuple #[.int .i64 0, .string ⟨#[]⟩, .int .i64 3]) ∧ Below w.heap.size w w' := by
  have hne : s.toList.isEmpty = false := isEmpty_of s (by omega)
  have hlt : (0:Int) < s.size := by omega
  have hlt0 : 0 < s.size := by omega
  have hdiv : ((s[0]'(by omega)).toNat : Int) / 64 = 2 := by omega
  have hle : (4:Int) ≤ s.size := by omega
  have hlt1 : 1 < s.size := by omega
  have hub1 : (((s[1]'(by omega)).toNat : Int)) < 256 := by have := (s[1]'(by omega)).toNat_lt; omega
  have hlt2 : 2 < s.size := by omega
  have hub2 : (((s[2]'(by omega)).toNat : Int)) < 256 := by have := (s[2]'(by omega)).toNat_lt; omega
  have hlt3 : 3 < s.size := by omega
  have hub3 : (((s[3]'(by omega)).toNat : Int)) < 256 := by have := (s[3]'(by omega)).toNat_lt; omega
  have hQ : Hid (qsize ((((((s[0]'(by omega)).toNat : Int) % (64 : Int)) * (256 : Int) + ((s[1]'(by omega)).toNat : Int)) * (256 : Int) + ((s[2]'(by omega)).toNat : Int)) * (256 : Int) + ((s[3]'(by omega)).toNat : Int)) ≠ 4) := hq
  have hR : Hid ((qsize ((((((s[0]'(by omega)).toNat : Int) % (64 : Int)) * (256 : Int) + ((s[1]'(by omega)).toNat : Int)) * (256 : Int) + ((s[2]'(by omega)).toNat : Int)) * (256 : Int) + ((s[3]'(by omega)).toNat : Int)) != 4) = true) := by show _ = _; rw [bne_iff_ne]; exact hq
  clear hq
  go_enter Tryz.func44, Tryz.ntmps44
  go_wp2
  refine wp_loop_rounds 4 ?_
  rw [rounds_succ]
  go_wp2
  rw [orj _ _ (by omega) (by omega) (by omega) (by omega)]
  rw [rounds_succ]
  go_wp2
  rw [orj _ _ (by omega) (by omega) (by omega) (by omega)]
  rw [rounds_succ]
  go_wp2
  rw [orj _ _ (by omega) (by omega) (by omega) (by omega)]
  rw [rounds_succ]
  go_wp2_with (go_at_call 77; refine (size_any _ _).mono ?_; rintro e _ ⟨rfl, rfl⟩; have hR := hR.out)
  go_ret3
  exact ⟨rfl, Below.refl _ _⟩

set_option maxRecDepth 100000 in
set_option maxHeartbeats 1000000 in
theorem get_4short (s : ByteArray) (w : World) (hs : s.size ≤ 140737488355328) (hp : 0 < s.size) (hsh : s.size < 4) (hb0 : (128 : Int) ≤ ((s[0]'(by omega)).toNat : Int)) (hb1 : ((s[0]'(by omega)).toNat : Int) < 192) :
    Calls Tryz.prog 44 #[.string s] w fun e w' => e = .returned (.tuple #[.int .i64 0, .string ⟨#[]⟩, .int .i64 7]) ∧ Below w.heap.size w w' := by
  have hne : s.toList.isEmpty = false := isEmpty_of s (by omega)
  have hlt : (0:Int) < s.size := by omega
  have hlt0 : 0 < s.size := by omega
  have hdiv : ((s[0]'(by omega)).toNat : Int) / 64 = 2 := by omega
  have hle : (s.size : Int) < 4 := by omega
  go_enter Tryz.func44, Tryz.ntmps44
  go_wp2
  go_ret3
  exact ⟨rfl, Below.refl _ _⟩

set_option maxRecDepth 100000 in
set_option maxHeartbeats 1000000 in
theorem get_8ok (s : ByteArray) (w : World) (hs : s.size ≤ 140737488355328) (h8 : 8 ≤ s.size) (hb0 : (192 : Int) ≤ ((s[0]'(by omega)).toNat : Int)) (hb1 : ((s[0]'(by omega)).toNat : Int) < 256) (hq : qsize ((((((((((s[0]'(by omega)).toNat : Int) % (64 : Int)) * (256 : Int) + ((s[1]'(by omega)).toNat : Int)) * (256 : Int) + ((s[2]'(by omega)).toNat : Int)) * (256 : Int) + ((s[3]'(by omega)).toNat : Int)) * (256 : Int) + ((s[4]'(by omega)).toNat : Int)) * (256 : Int) + ((s[5]'(by omega)).toNat : Int)) * (256 : Int) + ((s[6]'(by omega)).toNat : Int)) * (256 : Int) + ((s[7]'(by omega)).toNat : Int)) = 8) :
    Calls Tryz.prog 44 #[.string s] w fun e w' => e = .returned (.tuple #[.int .i64 ((((((((((s[0]'(by omega)).toNat : Int) % (64 : Int)) * (256 : Int) + ((s[1]'(by omega)).toNat : Int)) * (256 : Int) + ((s[2]'(by omega)).toNat : Int)) * (256 : Int) + ((s[3]'(by omega)).toNat : Int)) * (256 : Int) + ((s[4]'(by omega)).toNat : Int)) * (256 : Int) + ((s[5]'(by omega)).toNat : Int)) * (256 : Int) + ((s[6]'(by omega)).toNat : Int)) * (256 : Int) + ((s[7]'(by omega)).toNat : Int)), .string (s.extract 8 s.size), .int .i64 0]) ∧ Below w.heap.size w w' := by
  have hne : s.toList.isEmpty = false := isEmpty_of s (by omega)
  have hlt : (0:Int) < s.size := by omega
  have hlt0 : 0 < s.size := by omega
  have hdiv : ((s[0]'(by omega)).toNat : Int) / 64 = 3 := by omega
  have hle : (8:Int) ≤ s.size := by omega
  have hlt1 : 1 < s.size := by omega
  have hub1 : (((s[1]'(by omega)).toNat : Int)) < 256 := by have := (s[1]'(by omega)).toNat_lt; omega
  have hlt2 : 2 < s.size := by omega
  have hub2 : (((s[2]'(by omega)).toNat : Int)) < 256 := by have := (s[2]'(by omega)).toNat_lt; omega
  have hlt3 : 3 < s.size := by omega
  have hub3 : (((s[3]'(by omega)).toNat : Int)) < 256 := by have := (s[3]'(by omega)).toNat_lt; omega
  have hlt4 : 4 < s.size := by omega
  have hub4 : (((s[4]'(by omega)).toNat : Int)) < 256 := by have := (s[4]'(by omega)).toNat_lt; omega
  have hlt5 : 5 < s.size := by omega
  have hub5 : (((s[5]'(by omega)).toNat : Int)) < 256 := by have := (s[5]'(by omega)).toNat_lt; omega
  have hlt6 : 6 < s.size := by omega
  have hub6 : (((s[6]'(by omega)).toNat : Int)) < 256 := by have := (s[6]'(by omega)).toNat_lt; omega
  have hlt7 : 7 < s.size := by omega
  have hub7 : (((s[7]'(by omega)).toNat : Int)) < 256 := by have := (s[7]'(by omega)).toNat_lt; omega
  have hQ : Hid (qsize ((((((((((s[0]'(by omega)).toNat : Int) % (64 : Int)) * (256 : Int) + ((s[1]'(by omega)).toNat : Int)) * (256 : Int) + ((s[2]'(by omega)).toNat : Int)) * (256 : Int) + ((s[3]'(by omega)).toNat : Int)) * (256 : Int) + ((s[4]'(by omega)).toNat : Int)) * (256 : Int) + ((s[5]'(by omega)).toNat : Int)) * (256 : Int) + ((s[6]'(by omega)).toNat : Int)) * (256 : Int) + ((s[7]'(by omega)).toNat : Int)) = 8) := hq
  have hR : Hid ((qsize ((((((((((s[0]'(by omega)).toNat : Int) % (64 : Int)) * (256 : Int) + ((s[1]'(by omega)).toNat : Int)) * (256 : Int) + ((s[2]'(by omega)).toNat : Int)) * (256 : Int) + ((s[3]'(by omega)).toNat : Int)) * (256 : Int) + ((s[4]'(by omega)).toNat : Int)) * (256 : Int) + ((s[5]'(by omega)).toNat : Int)) * (256 : Int) + ((s[6]'(by omega)).toNat : Int)) * (256 : Int) + ((s[7]'(by omega)).toNat : Int)) != 8) = false) := by show _ = _; rw [hq]; rfl
  clear hq
  go_enter Tryz.func44, Tryz.ntmps44
  go_wp2
  refine wp_loop_rounds 8 ?_
  rw [rounds_succ]
  go_wp2
  rw [orj _ _ (by omega) (by omega) (by omega) (by omega)]
  rw [rounds_succ]
  go_wp2
  rw [orj _ _ (by omega) (by omega) (by omega) (by omega)]
  rw [rounds_succ]
  go_wp2
  rw [orj _ _ (by omega) (by omega) (by omega) (by omega)]
  rw [rounds_succ]
  go_wp2
  rw [orj _ _ (by omega) (by omega) (by omega) (by omega)]
  rw [rounds_succ]
  go_wp2
  rw [orj _ _ (by omega) (by omega) (by omega) (by omega)]
  rw [rounds_succ]
  go_wp2
  rw [orj _ _ (by omega) (by omega) (by omega) (by omega)]
  rw [rounds_succ]
  go_wp2
  rw [orj _ _ (by omega) (by omega) (by omega) (by omega)]
  rw [rounds_succ]
  go_wp2_with (go_at_call 77; refine (size_any _ _).mono ?_; rintro e _ ⟨rfl, rfl⟩; have hR := hR.out)
  go_region
  all_goals go_wp2
  all_goals go_ret3
  all_goals exact ⟨rfl, by repeat (first | exact Below.refl _ _ | refine Below.drew ?_)⟩

set_option maxRecDepth 100000 in
set_option maxHeartbeats 1000000 in
theorem get_8bad (s : ByteArray) (w : World) (hs : s.size ≤ 140737488355328) (h8 : 8 ≤ s.size) (hb0 : (192 : Int) ≤ ((s[0]'(by omega)).toNat : Int)) (hb1 : ((s[0]'(by omega)).toNat : Int) < 256) (hq : ¬ qsize ((((((((((s[0]'(by omega)).toNat : Int) % (64 : Int)) * (256 : Int) + ((s[1]'(by omega)).toNat : Int)) * (256 : Int) + ((s[2]'(by omega)).toNat : Int)) * (256 : Int) + ((s[3]'(by omega)).toNat : Int)) * (256 : Int) + ((s[4]'(by omega)).toNat : Int)) * (256 : Int) + ((s[5]'(by omega)).toNat : Int)) * (256 : Int) + ((s[6]'(by omega)).toNat : Int)) * (256 : Int) + ((s[7]'(by omega)).toNat : Int)) = 8) :
    Calls Tryz.prog 44 #[.string s] w fun e w' => e = .returned (.tuple #[.int .i64 0, .string ⟨#[]⟩, .int .i64 3]) ∧ Below w.heap.size w w' := by
  have hne : s.toList.isEmpty = false := isEmpty_of s (by omega)
  have hlt : (0:Int) < s.size := by omega
  have hlt0 : 0 < s.size := by omega
  have hdiv : ((s[0]'(by omega)).toNat : Int) / 64 = 3 := by omega
  have hle : (8:Int) ≤ s.size := by omega
  have hlt1 : 1 < s.size := by omega
  have hub1 : (((s[1]'(by omega)).toNat : Int)) < 256 := by have := (s[1]'(by omega)).toNat_lt; omega
  have hlt2 : 2 < s.size := by omega
  have hub2 : (((s[2]'(by omega)).toNat : Int)) < 256 := by have := (s[2]'(by omega)).toNat_lt; omega
  have hlt3 : 3 < s.size := by omega
  have hub3 : (((s[3]'(by omega)).toNat : Int)) < 256 := by have := (s[3]'(by omega)).toNat_lt; omega
  have hlt4 : 4 < s.size := by omega
  have hub4 : (((s[4]'(by omega)).toNat : Int)) < 256 := by have := (s[4]'(by omega)).toNat_lt; omega
  have hlt5 : 5 < s.size := by omega
  have hub5 : (((s[5]'(by omega)).toNat : Int)) < 256 := by have := (s[5]'(by omega)).toNat_lt; omega
  have hlt6 : 6 < s.size := by omega
  have hub6 : (((s[6]'(by omega)).toNat : Int)) < 256 := by have := (s[6]'(by omega)).toNat_lt; omega
  have hlt7 : 7 < s.size := by omega
  have hub7 : (((s[7]'(by omega)).toNat : Int)) < 256 := by have := (s[7]'(by omega)).toNat_lt; omega
  have hQ : Hid (qsize ((((((((((s[0]'(by omega)).toNat : Int) % (64 : Int)) * (256 : Int) + ((s[1]'(by omega)).toNat : Int)) * (256 : Int) + ((s[2]'(by omega)).toNat : Int)) * (256 : Int) + ((s[3]'(by omega)).toNat : Int)) * (256 : Int) + ((s[4]'(by omega)).toNat : Int)) * (256 : Int) + ((s[5]'(by omega)).toNat : Int)) * (256 : Int) + ((s[6]'(by omega)).toNat : Int)) * (256 : Int) + ((s[7]'(by omega)).toNat : Int)) ≠ 8) := hq
  have hR : Hid ((qsize ((((((((((s[0]'(by omega)).toNat : Int) % (64 : Int)) * (256 : Int) + ((s[1]'(by omega)).toNat : Int)) * (256 : Int) + ((s[2]'(by omega)).toNat : Int)) * (256 : Int) + ((s[3]'(by omega)).toNat : Int)) * (256 : Int) + ((s[4]'(by omega)).toNat : Int)) * (256 : Int) + ((s[5]'(by omega)).toNat : Int)) * (256 : Int) + ((s[6]'(by omega)).toNat : Int)) * (256 : Int) + ((s[7]'(by omega)).toNat : Int)) != 8) = true) := by show _ = _; rw [bne_iff_ne]; exact hq
  clear hq
  go_enter Tryz.func44, Tryz.ntmps44
  go_wp2
  refine wp_loop_rounds 8 ?_
  rw [rounds_succ]
  go_wp2
  rw [orj _ _ (by omega) (by omega) (by omega) (by omega)]
  rw [rounds_succ]
  go_wp2
  rw [orj _ _ (by omega) (by omega) (by omega) (by omega)]
  rw [rounds_succ]
  go_wp2
  rw [orj _ _ (by omega) (by omega) (by omega) (by omega)]
  rw [rounds_succ]
  go_wp2
  rw [orj _ _ (by omega) (by omega) (by omega) (by omega)]
  rw [rounds_succ]
  go_wp2
  rw [orj _ _ (by omega) (by omega) (by omega) (by omega)]
  rw [rounds_succ]
  go_wp2
  rw [orj _ _ (by omega) (by omega) (by omega) (by omega)]
  rw [rounds_succ]
  go_wp2
  rw [orj _ _ (by omega) (by omega) (by omega) (by omega)]
  rw [rounds_succ]
  go_wp2_with (go_at_call 77; refine (size_any _ _).mono ?_; rintro e _ ⟨rfl, rfl⟩; have hR := hR.out)
  go_ret3
  exact ⟨rfl, Below.refl _ _⟩

set_option maxRecDepth 100000 in
set_option maxHeartbeats 1000000 in
theorem get_8short (s : ByteArray) (w : World) (hs : s.size ≤ 140737488355328) (hp : 0 < s.size) (hsh : s.size < 8) (hb0 : (192 : Int) ≤ ((s[0]'(by omega)).toNat : Int)) (hb1 : ((s[0]'(by omega)).toNat : Int) < 256) :
    Calls Tryz.prog 44 #[.string s] w fun e w' => e = .returned (.tuple #[.int .i64 0, .string ⟨#[]⟩, .int .i64 7]) ∧ Below w.heap.size w w' := by
  have hne : s.toList.isEmpty = false := isEmpty_of s (by omega)
  have hlt : (0:Int) < s.size := by omega
  have hlt0 : 0 < s.size := by omega
  have hdiv : ((s[0]'(by omega)).toNat : Int) / 64 = 3 := by omega
  have hle : (s.size : Int) < 8 := by omega
  go_enter Tryz.func44, Tryz.ntmps44
  go_wp2
  go_ret3
  exact ⟨rfl, Below.refl _ _⟩

set_option maxHeartbeats 400000 in
theorem get_none (s : ByteArray) (w : World) (h : s.size = 0) :
    Calls Tryz.prog 44 #[.string s] w fun e w' => e = .returned (.tuple #[.int .i64 0, .string ⟨#[]⟩, .int .i64 7]) ∧ Below w.heap.size w w' := by
  have hne : s.toList.isEmpty = true := isEmpty_to s h
  go_enter Tryz.func44, Tryz.ntmps44
  go_wp2
  go_ret3
  exact ⟨rfl, Below.refl _ _⟩
end Go.Proofs.YtdendpckihckeaaGreatDoor.Q
/- quic.Get at every text; the law's examples. -/
namespace Go.Proofs.YtdendpckihckeaaGreatDoor.Q
open Go.RowKit

/-- quic.Get, at every text. -/
theorem get_any (s : ByteArray) (w : World) (hs : s.size ≤ 140737488355328) :
    Calls Tryz.prog 44 #[.string s] w fun e w' => e = .returned (.tuple #[.int .i64 (getV s), .string (getRest s), .int .i64 (getE s)]) ∧ Below w.heap.size w w' := by
  by_cases h0 : s.size = 0
  · have e1 : getE s = 7 := by unfold getE; rw [if_pos (by have := gsz_pos s; omega)]
    have e2 : getV s = 0 := by unfold getV; rw [if_neg (by omega)]
    have e3 : getRest s = ⟨#[]⟩ := by unfold getRest; rw [if_neg (by omega)]
    rw [e1, e2, e3]
    exact get_none s w h0
  have hb := bt_rng s 0
  have hb0 := bt_eq (s := s) (i := 0) (by omega)
  by_cases c1 : bt s 0 < 64
  · have g1 : gsz s = 1 := by unfold gsz; rw [if_pos (by omega)]
    have g2 : gval s = bt s 0 % 64 := by unfold gval; rw [if_pos (by omega)]
    have hlen : 1 ≤ s.size := by omega
    by_cases hq : qsize (gval s) = 1
    · have e1 : getE s = 0 := by unfold getE; rw [g1, if_neg (by omega), if_pos (by exact_mod_cast hq)]
      have e2 : getV s = gval s := by unfold getV; rw [if_pos e1]
      have e3 : getRest s = s.extract 1 s.size := by unfold getRest; rw [if_pos e1, g1]
      rw [e1, e2, e3]
      rw [g2, ← bt_eq (s := s) (i := 0) (by omega)] at hq ⊢
      exact get_1ok s w hs (by omega) (by omega) (by omega) hq
    · have e1 : getE s = 3 := by unfold getE; rw [g1, if_neg (by omega), if_neg (by exact_mod_cast hq)]
      have e2 : getV s = 0 := by unfold getV; rw [if_neg (by omega)]
      have e3 : getRest s = ⟨#[]⟩ := by unfold getRest; rw [if_neg (by omega)]
      rw [e1, e2, e3]
      rw [g2, ← bt_eq (s := s) (i := 0) (by omega)] at hq
      exact get_1bad s w hs (by omega) (by omega) (by omega) hq
  by_cases c2 : bt s 0 < 128
  · have g1 : gsz s = 2 := by unfold gsz; rw [if_neg (by omega), if_pos (by omega)]
    have g2 : gval s = (bt s 0 % 64) * 256 + bt s 1 := by unfold gval; rw [if_neg (by omega), if_pos (by omega)]
    by_cases hlen : s.size < 2
    · have e1 : getE s = 7 := by unfold getE; rw [g1, if_pos (by omega)]
      have e2 : getV s = 0 := by unfold getV; rw [if_neg (by omega)]
      have e3 : getRest s = ⟨#[]⟩ := by unfold getRest; rw [if_neg (by omega)]
      rw [e1, e2, e3]
      exact get_2short s w hs (by omega) hlen (by omega) (by omega)
    by_cases hq : qsize (gval s) = 2
    · have e1 : getE s = 0 := by unfold getE; rw [g1, if_neg (by omega), if_pos (by exact_mod_cast hq)]
      have e2 : getV s = gval s := by unfold getV; rw [if_pos e1]
      have e3 : getRest s = s.extract 2 s.size := by unfold getRest; rw [if_pos e1, g1]
      rw [e1, e2, e3]
      rw [g2, ← bt_eq (s := s) (i := 0) (by omega), ← bt_eq (s := s) (i := 1) (by omega)] at hq ⊢
      exact get_2ok s w hs (by omega) (by omega) (by omega) hq
    · have e1 : getE s = 3 := by unfold getE; rw [g1, if_neg (by omega), if_neg (by exact_mod_cast hq)]
      have e2 : getV s = 0 := by unfold getV; rw [if_neg (by omega)]
      have e3 : getRest s = ⟨#[]⟩ := by unfold getRest; rw [if_neg (by omega)]
      rw [e1, e2, e3]
      rw [g2, ← bt_eq (s := s) (i := 0) (by omega), ← bt_eq (s := s) (i := 1) (by omega)] at hq
      exact get_2bad s w hs (by omega) (by omega) (by omega) hq
  by_cases c4 : bt s 0 < 192
  · have g1 : gsz s = 4 := by unfold gsz; rw [if_neg (by omega), if_neg (by omega), if_pos (by omega)]
    have g2 : gval s = (((bt s 0 % 64) * 256 + bt s 1) * 256 + bt s 2) * 256 + bt s 3 := by unfold gval; rw [if_neg (by omega), if_neg (by omega), if_pos (by omega)]
    by_cases hlen : s.size < 4
    · have e1 : getE s = 7 := by unfold getE; rw [g1, if_pos (by omega)]
      have e2 : getV s = 0 := by unfold getV; rw [if_neg (by omega)]
      have e3 : getRest s = ⟨#[]⟩ := by unfold getRest; rw [if_neg (by omega)]
      rw [e1, e2, e3]
      exact get_4short s w hs (by omega) hlen (by omega) (by omega)
    by_cases hq : qsize (gval s) = 4
    · have e1 : getE s = 0 := by unfold getE; rw [g1, if_neg (by omega), if_pos (by exact_mod_cast hq)]
      have e2 : getV s = gval s := by unfold getV; rw [if_pos e1]
      have e3 : getRest s = s.extract 4 s.size := by unfold getRest; rw [if_pos e1, g1]
      rw [e1, e2, e3]
      rw [g2, ← bt_eq (s := s) (i := 0) (by omega), ← bt_eq (s := s) (i := 1) (by omega), ← bt_eq (s := s) (i := 2) (by omega), ← bt_eq (s := s) (i := 3) (by omega)] at hq ⊢
      exact get_4ok s w hs (by omega) (by omega) (by omega) hq
    · have e1 : getE s = 3 := by unfold getE; rw [g1, if_neg (by omega), if_neg (by exact_mod_cast hq)]
      have e2 : getV s = 0 := by unfold getV; rw [if_neg (by omega)]
      have e3 : getRest s = ⟨#[]⟩ := by unfold getRest; rw [if_neg (by omega)]
      rw [e1, e2, e3]
      rw [g2, ← bt_eq (s := s) (i := 0) (by omega), ← bt_eq (s := s) (i := 1) (by omega), ← bt_eq (s := s) (i := 2) (by omega), ← bt_eq (s := s) (i := 3) (by omega)] at hq
      exact get_4bad s w hs (by omega) (by omega) (by omega) hq
  · have g1 : gsz s = 8 := by unfold gsz; rw [if_neg (by omega), if_neg (by omega), if_neg (by omega)]
    have g2 : gval s = (((((((bt s 0 % 64) * 256 + bt s 1) * 256 + bt s 2) * 256 + bt s 3) * 256 + bt s 4) * 256 + bt s 5) * 256 + bt s 6) * 256 + bt s 7 := by unfold gval; rw [if_neg (by omega), if_neg (by omega), if_neg (by omega)]
    by_cases hlen : s.size < 8
    · have e1 : getE s = 7 := by unfold getE; rw [g1, if_pos (by omega)]
      have e2 : getV s = 0 := by unfold getV; rw [if_neg (by omega)]
      have e3 : getRest s = ⟨#[]⟩ := by unfold getRest; rw [if_neg (by omega)]
      rw [e1, e2, e3]
      exact get_8short s w hs (by omega) hlen (by omega) (by omega)
    by_cases hq : qsize (gval s) = 8
    · have e1 : getE s = 0 := by unfold getE; rw [g1, if_neg (by omega), if_pos (by exact_mod_cast hq)]
      have e2 : getV s = gval s := by unfold getV; rw [if_pos e1]
      have e3 : getRest s = s.extract 8 s.size := by unfold getRest; rw [if_pos e1, g1]
      rw [e1, e2, e3]
      rw [g2, ← bt_eq (s := s) (i := 0) (by omega), ← bt_eq (s := s) (i := 1) (by omega), ← bt_eq (s := s) (i := 2) (by omega), ← bt_eq (s := s) (i := 3) (by omega), ← bt_eq (s := s) (i := 4) (by omega), ← bt_eq (s := s) (i := 5) (by omega), ← bt_eq (s := s) (i := 6) (by omega), ← bt_eq (s := s) (i := 7) (by omega)] at hq ⊢
      exact get_8ok s w hs (by omega) (by omega) (by omega) hq
    · have e1 : getE s = 3 := by unfold getE; rw [g1, if_neg (by omega), if_neg (by exact_mod_cast hq)]
      have e2 : getV s = 0 := by unfold getV; rw [if_neg (by omega)]
      have e3 : getRest s = ⟨#[]⟩ := by unfold getRest; rw [if_neg (by omega)]
      rw [e1, e2, e3]
      rw [g2, ← bt_eq (s := s) (i := 0) (by omega), ← bt_eq (s := s) (i := 1) (by omega), ← bt_eq (s := s) (i := 2) (by omega), ← bt_eq (s := s) (i := 3) (by omega), ← bt_eq (s := s) (i := 4) (by omega), ← bt_eq (s := s) (i := 5) (by omega), ← bt_eq (s := s) (i := 6) (by omega), ← bt_eq (s := s) (i := 7) (by omega)] at hq
      exact get_8bad s w hs (by omega) (by omega) (by omega) hq

theorem aw1 : strOfNums (numI 37) = ⟨#[37]⟩ := by decide +kernel
theorem aw2 : strOfNums (numI 15293) = ⟨#[123, 189]⟩ := by decide +kernel
theorem aw3 : strOfNums (numI 494878333) = ⟨#[157, 127, 62, 125]⟩ := by decide +kernel
theorem aw4 : strOfNums (numI 151288809941952652) = ⟨#[194, 25, 124, 94, 255, 20, 232, 140]⟩ := by decide +kernel
theorem aw5 : getE ⟨#[64, 37]⟩ = 3 := by decide +kernel
end Go.Proofs.YtdendpckihckeaaGreatDoor.Q
/- quic.takeFlag, takeText, wholeOf, takeItem: one item at the front of bytes. -/
namespace Go.Proofs.YtdendpckihckeaaGreatDoor.Q
open Go.RowKit

def tfE (s : ByteArray) : Int := if s.size = 0 then 7 else if 1 < bt s 0 then 3 else 0
def tfV (s : ByteArray) : Int := if tfE s = 0 then bt s 0 else 0
def tfR (s : ByteArray) : ByteArray := if tfE s = 0 then s.extract 1 s.size else ⟨#[]⟩
def ttE (s : ByteArray) : Int := if getE s ≠ 0 then getE s else if 65536 < getV s then 2 else if ((getRest s).size : Int) < getV s then 7 else 0
def ttS (s : ByteArray) : ByteArray := if ttE s = 0 then (getRest s).extract 0 (getV s).toNat else ⟨#[]⟩
def ttR (s : ByteArray) : ByteArray := if ttE s = 0 then (getRest s).extract (getV s).toNat (getRest s).size else ⟨#[]⟩
def wof (n : Int) : Int := if n % 2 = 0 then n / 2 else -(n / 2) - 1

theorem bt_rng' (s : ByteArray) (i : Nat) : 0 ≤ bt s i ∧ bt s i < 256 := bt_rng s i
theorem gval_nn (s : ByteArray) : 0 ≤ gval s ∧ gval s ≤ 4611686018427387903 := by
  have r0 := bt_rng s 0; have r1 := bt_rng s 1; have r2 := bt_rng s 2; have r3 := bt_rng s 3
  have r4 := bt_rng s 4; have r5 := bt_rng s 5; have r6 := bt_rng s 6; have r7 := bt_rng s 7
  unfold gval
  split
  · omega
  split
  · omega
  split
  · omega
  · omega
theorem getV_nn (s : ByteArray) : 0 ≤ getV s ∧ getV s ≤ 4611686018427387903 := by
  unfold getV; split
  · exact gval_nn s
  · omega
theorem size_extract (s : ByteArray) (a b : Nat) (h : b ≤ s.size) : (s.extract a b).size = b - a := by
  rw [ByteArray.size_extract]; omega
theorem getRest_size (s : ByteArray) : (getRest s).size ≤ s.size := by
  unfold getRest; split
  · rw [size_extract _ _ _ (Nat.le_refl _)]; omega
  · exact Nat.zero_le _

set_option maxRecDepth 100000 in
set_option maxHeartbeats 1000000 in
theorem takeFlag_any (s : ByteArray) (w : World) (hs : s.size ≤ 140737488355328) :
    Calls Tryz.prog 106 #[.string s] w fun e w' => e = .returned (.tuple #[.int .i64 (tfV s), .string (tfR s), .int .i64 (tfE s)]) ∧ Below w.heap.size w w' := by
  by_cases h0 : s.size = 0
  · have e1 : tfE s = 7 := by unfold tfE; rw [if_pos h0]
    have e2 : tfV s = 0 := by unfold tfV; rw [if_neg (by omega)]
    have e3 : tfR s = ⟨#[]⟩ := by unfold tfR; rw [if_neg (by omega)]
    rw [e1, e2, e3]
    have hne : s.toList.isEmpty = true := isEmpty_to s h0
    go_enter Tryz.func106, Tryz.ntmps106
    go_wp2
    go_ret3
    exact ⟨rfl, Below.refl _ _⟩
  have hne : s.toList.isEmpty = false := isEmpty_of s (by omega)
  have hlt : (0:Int) < s.size := by omega
  have hlt0 : 0 < s.size := by omega
  have hbt := bt_eq (s := s) (i := 0) hlt0
  by_cases h1 : 1 < bt s 0
  · have e1 : tfE s = 3 := by unfold tfE; rw [if_neg h0, if_pos h1]
    have e2 : tfV s = 0 := by unfold tfV; rw [if_neg (by omega)]
    have e3 : tfR s = ⟨#[]⟩ := by unfold tfR; rw [if_neg (by omega)]
    rw [e1, e2, e3]
    have h1' : (1 : Int) < ((s[0]'hlt0).toNat : Int) := by omega
    clear hbt
    go_enter Tryz.func106, Tryz.ntmps106
    go_wp2
    go_ret3
    exact ⟨rfl, Below.refl _ _⟩
  · have e1 : tfE s = 0 := by unfold tfE; rw [if_neg h0, if_neg h1]
    have e2 : tfV s = bt s 0 := by unfold tfV; rw [if_pos e1]
    have e3 : tfR s = s.extract 1 s.size := by unfold tfR; rw [if_pos e1]
    rw [e1, e2, e3, ← hbt]
    have h1' : ¬ (1 : Int) < ((s[0]'hlt0).toNat : Int) := by omega
    have hlt2 : (1 : Int) ≤ s.size := by omega
    clear hbt
    go_enter Tryz.func106, Tryz.ntmps106
    go_wp2
    go_region
    all_goals go_wp2
    all_goals go_ret3
    all_goals exact ⟨rfl, by repeat (first | exact Below.refl _ _ | refine Below.drew ?_)⟩

set_option maxRecDepth 100000 in
set_option maxHeartbeats 1000000 in
theorem takeText_any (s : ByteArray) (w : World) (hs : s.size ≤ 140737488355328) :
    Calls Tryz.prog 107 #[.string s] w fun e w' => e = .returned (.tuple #[.string (ttS s), .string (ttR s), .int .i64 (ttE s)]) ∧ Below w.heap.size w w' := by
  have hv := getV_nn s
  have hr := getRest_size s
  by_cases h0 : getE s = 0
  · by_cases h1 : 65536 < getV s
    · have e1 : ttE s = 2 := by unfold ttE; rw [if_neg (by omega), if_pos h1]
      have e2 : ttS s = ⟨#[]⟩ := by unfold ttS; rw [if_neg (by omega)]
      have e3 : ttR s = ⟨#[]⟩ := by unfold ttR; rw [if_neg (by omega)]
      rw [e1, e2, e3]
      clear e1 e2 e3
      have H0 : Hid (getE s = 0) := h0
      clear h0
      go_enter Tryz.func107, Tryz.ntmps107
      go_wp2_with fail
      refine (get_any _ _ hs).mono ?_
      rintro e w1 ⟨rfl, hb1⟩
      rw [H0.out]
      go_wp2
      go_ret3
      exact ⟨rfl, hb1⟩
    · by_cases h2 : ((getRest s).size : Int) < getV s
      · have e1 : ttE s = 7 := by unfold ttE; rw [if_neg (by omega), if_neg h1, if_pos h2]
        have e2 : ttS s = ⟨#[]⟩ := by unfold ttS; rw [if_neg (by omega)]
        have e3 : ttR s = ⟨#[]⟩ := by unfold ttR; rw [if_neg (by omega)]
        rw [e1, e2, e3]
        clear e1 e2 e3
        have H0 : Hid (getE s = 0) := h0
        clear h0
        go_enter Tryz.func107, Tryz.ntmps107
        go_wp2_with fail
        refine (get_any _ _ hs).mono ?_
        rintro e w1 ⟨rfl, hb1⟩
        rw [H0.out]
        go_wp2
        go_ret3
        exact ⟨rfl, hb1⟩
      · have e1 : ttE s = 0 := by unfold ttE; rw [if_neg (by omega), if_neg h1, if_neg h2]
        have e2 : ttS s = (getRest s).extract 0 (getV s).toNat := by unfold ttS; rw [if_pos e1]
        have e3 : ttR s = (getRest s).extract (getV s).toNat (getRest s).size := by unfold ttR; rw [if_pos e1]
        rw [e1, e2, e3]
        clear e1 e2 e3
        have H0 : Hid (getE s = 0) := h0
        clear h0
        have h3 : getV s ≤ ((getRest s).size : Int) := by omega
        have h4 : (getV s).toNat ≤ (getRest s).size := by omega
        go_enter Tryz.func107, Tryz.ntmps107
        go_wp2_with fail
        refine (get_any _ _ hs).mono ?_
        rintro e w1 ⟨rfl, hb1⟩
        rw [H0.out]
        go_wp2
        go_region
        all_goals go_wp2
        all_goals go_ret3
        all_goals exact ⟨rfl, by repeat (first | exact hb1 | refine Below.drew ?_)⟩
  · have e1 : ttE s = getE s := by unfold ttE; rw [if_pos h0]
    have e2 : ttS s = ⟨#[]⟩ := by unfold ttS; rw [if_neg (by omega)]
    have e3 : ttR s = ⟨#[]⟩ := by unfold ttR; rw [if_neg (by omega)]
    rw [e1, e2, e3]
    clear e1 e2 e3
    have h0' : (getE s != 0) = true := by rw [bne_iff_ne]; exact h0
    clear h0
    go_enter Tryz.func107, Tryz.ntmps107
    go_wp2_with fail
    refine (get_any _ _ hs).mono ?_
    rintro e w1 ⟨rfl, hb1⟩
    go_wp2
    go_ret3
    exact ⟨rfl, hb1⟩

set_option maxHeartbeats 400000 in
theorem wholeOf_any (n : Int) (w : World) (h0 : 0 ≤ n) (h1 : n ≤ 4611686018427387903) :
    Calls Tryz.prog 105 #[.int .i64 n] w fun e w' => e = .returned (.int .i64 (wof n)) ∧ w' = w := by
  go_enter Tryz.func105, Tryz.ntmps105
  go_wp2
  all_goals go_ret
  all_goals refine ⟨ret_int ?_, rfl⟩
  all_goals unfold wof
  · rw [if_pos (by simp_all)]
  · rw [if_neg (by simp_all)]
end Go.Proofs.YtdendpckihckeaaGreatDoor.Q
/- quic.takeItem: an item of a kind at the front of bytes. -/
namespace Go.Proofs.YtdendpckihckeaaGreatDoor.Q
open Go.RowKit

def tN (s : ByteArray) (k : Int) : Int := if k = 1 then getV s else if k = 2 then wof (getV s) else if k = 3 then tfV s else 0
def tS (s : ByteArray) (k : Int) : ByteArray := if k = 4 then ttS s else ⟨#[]⟩
def tR (s : ByteArray) (k : Int) : ByteArray := if k = 1 then getRest s else if k = 2 then getRest s else if k = 3 then tfR s else ttR s
def tE (s : ByteArray) (k : Int) : Int := if k = 1 then getE s else if k = 2 then getE s else if k = 3 then tfE s else ttE s

theorem set_cells1 {w : World} {b : Nat} {x y z u : Value} (hc : ∀ j, w.cell? ⟨b, j, none⟩ = #[x, y, z][j]?) : ∀ j, (w.setCell ⟨b, 1, none⟩ u).cell? ⟨b, j, none⟩ = #[x, u, z][j]? := by
  intro j
  by_cases h1 : j = 1
  · subst h1
    rw [World.cell?_setCell_same _ _ _ (u := y) (by simp [hc])]
    rfl
  · rw [World.cell?_setCell_other _ _ _ _ (fun e => h1 (congrArg Addr.off e).symm), hc]
    match j, h1 with
    | 0, _ => rfl
    | 2, _ => rfl
    | j + 3, _ => simp

set_option maxRecDepth 100000 in
set_option maxHeartbeats 1000000 in
theorem takeItem_1 (s : ByteArray) (w : World) (hs : s.size ≤ 140737488355328) :
    Calls Tryz.prog 79 #[.string s, .int .i64 1] w fun e w' => e = .returned (.tuple #[.agg #[.int .i64 1, .int .i64 (getV s), .string ⟨#[]⟩], .string (getRest s), .int .i64 (getE s)]) ∧ Below w.heap.size w w' := by
  go_enter Tryz.func79, Tryz.ntmps79
  go_wp2_with fail
  refine (get_any _ _ hs).mono ?_
  rintro e w1 ⟨rfl, hb1⟩
  obtain ⟨hc, hf, hbl, hz⟩ := part_cells0 hb1
  clear hb1
  go_wp2
  refine bodyPost_ret (v := .tuple #[.agg #[.int .i64 1, .int .i64 (getV s), .string ⟨#[]⟩], .string (getRest s), .int .i64 (getE s)]) (by simp [results, Tryz.results79, go_sem, hc]) rfl ⟨rfl, ?_⟩
  repeat (first | exact hbl | refine Below.setCell ?_ (by exact Nat.le_refl _) _)

set_option maxRecDepth 100000 in
set_option maxHeartbeats 1000000 in
theorem takeItem_2 (s : ByteArray) (w : World) (hs : s.size ≤ 140737488355328) :
    Calls Tryz.prog 79 #[.string s, .int .i64 2] w fun e w' => e = .returned (.tuple #[.agg #[.int .i64 2, .int .i64 (wof (getV s)), .string ⟨#[]⟩], .string (getRest s), .int .i64 (getE s)]) ∧ Below w.heap.size w w' := by
  go_enter Tryz.func79, Tryz.ntmps79
  go_wp2_with fail
  refine (get_any _ _ hs).mono ?_
  rintro e w1 ⟨rfl, hb1⟩
  obtain ⟨hc, hf, hbl, hz⟩ := part_cells0 hb1
  clear hb1
  go_wp2_with fail
  refine (wholeOf_any _ _ (getV_nn s).1 (getV_nn s).2).mono ?_
  rintro e w2 ⟨rfl, hw2⟩
  have hc2 : ∀ j, w2.cell? ⟨w.heap.size, j, none⟩ = #[Value.int .i64 2, .int .i64 (getV s), .string ⟨#[]⟩][j]? := by subst hw2; exact set_cells1 hc
  have hf2 : ∀ j, w2.frozen? ⟨w.heap.size, j, none⟩ = false := by subst hw2; intro j; simpa using hf j
  have hbl2 : Below w.heap.size w w2 := by subst hw2; exact hbl.setCell (by exact Nat.le_refl _) _
  have hz2 : w.heap.size < w2.heap.size := by subst hw2; simpa using hz
  clear hw2 hc hf hbl hz
  go_wp2
  refine bodyPost_ret (v := .tuple #[.agg #[.int .i64 2, .int .i64 (wof (getV s)), .string ⟨#[]⟩], .string (getRest s), .int .i64 (getE s)]) (by simp [results, Tryz.results79, go_sem, hc2]) rfl ⟨rfl, ?_⟩
  repeat (first | exact hbl2 | refine Below.setCell ?_ (by exact Nat.le_refl _) _)

set_option maxRecDepth 100000 in
set_option maxHeartbeats 1000000 in
theorem takeItem_3 (s : ByteArray) (w : World) (hs : s.size ≤ 140737488355328) :
    Calls Tryz.prog 79 #[.string s, .int .i64 3] w fun e w' => e = .returned (.tuple #[.agg #[.int .i64 3, .int .i64 (tfV s), .string ⟨#[]⟩], .string (tfR s), .int .i64 (tfE s)]) ∧ Below w.heap.size w w' := by
  go_enter Tryz.func79, Tryz.ntmps79
  go_wp2_with fail
  refine (takeFlag_any _ _ hs).mono ?_
  rintro e w1 ⟨rfl, hb1⟩
  obtain ⟨hc, hf, hbl, hz⟩ := part_cells0 hb1
  clear hb1
  go_wp2
  refine bodyPost_ret (v := .tuple #[.agg #[.int .i64 3, .int .i64 (tfV s), .string ⟨#[]⟩], .string (tfR s), .int .i64 (tfE s)]) (by simp [results, Tryz.results79, go_sem, hc]) rfl ⟨rfl, ?_⟩
  repeat (first | exact hbl | refine Below.setCell ?_ (by exact Nat.le_refl _) _)

set_option maxRecDepth 100000 in
set_option maxHeartbeats 1000000 in
theorem takeItem_4 (s : ByteArray) (w : World) (hs : s.size ≤ 140737488355328) :
    Calls Tryz.prog 79 #[.string s, .int .i64 4] w fun e w' => e = .returned (.tuple #[.agg #[.int .i64 4, .int .i64 0, .string (ttS s)], .string (ttR s), .int .i64 (ttE s)]) ∧ Below w.heap.size w w' := by
  go_enter Tryz.func79, Tryz.ntmps79
  go_wp2_with fail
  refine (takeText_any _ _ hs).mono ?_
  rintro e w1 ⟨rfl, hb1⟩
  obtain ⟨hc, hf, hbl, hz⟩ := part_cells0 hb1
  clear hb1
  go_wp2
  refine bodyPost_ret (v := .tuple #[.agg #[.int .i64 4, .int .i64 0, .string (ttS s)], .string (ttR s), .int .i64 (ttE s)]) (by simp [results, Tryz.results79, go_sem, hc]) rfl ⟨rfl, ?_⟩
  repeat (first | exact hbl | refine Below.setCell ?_ (by exact Nat.le_refl _) _)

/-- quic.takeItem, of each kind. -/
theorem takeItem_any (s : ByteArray) (k : Int) (w : World) (hs : s.size ≤ 140737488355328) (h1 : 1 ≤ k) (h4 : k ≤ 4) :
    Calls Tryz.prog 79 #[.string s, .int .i64 k] w fun e w' => e = .returned (.tuple #[.agg #[.int .i64 k, .int .i64 (tN s k), .string (tS s k)], .string (tR s k), .int .i64 (tE s k)]) ∧ Below w.heap.size w w' := by
  obtain rfl | rfl | rfl | rfl : k = 1 ∨ k = 2 ∨ k = 3 ∨ k = 4 := by omega
  · exact takeItem_1 s w hs
  · exact takeItem_2 s w hs
  · exact takeItem_3 s w hs
  · exact takeItem_4 s w hs
end Go.Proofs.YtdendpckihckeaaGreatDoor.Q
