/- quic.Get at the front of bytes: its walk. -/
import Derived.Test.YtoplpohpodkpdaaGreatDoorZk0
import Derived.Test.YtoplpohpodkpdaaGreatDoorZk1
import Derived.RegionTactic
import Derived.ChangeAlike
import Derived.Test.YtoplpohpodkpdaaGreatDoorZk2
import Derived.Deep.Light
import Derived.Lib.OthersKept
import Derived.Shelf.Strings.BuilderK
import Derived.Test.YtoplpohpodkpdaaGreatDoorProg
namespace Go.Proofs.YtoplpohpodkpdaaGreatDoor.Q
open Go.RowKit

theorem orj (x b : Int) (h0 : 0 ≤ x) (h1 : x < 36028797018963968) (h2 : 0 ≤ b) (h3 : b < 256) : bits BinOp.or IntKind.i64 (x * 256) b = x * 256 + b := by
  have hk : ∀ n : Int, 0 ≤ n → n < 2 ^ 63 → IntKind.i64.wrap n = n := by intro n h0 h1; rw [IntKind.wrap_i64]; omega
  exact bits_join .i64 63 (by decide) hk 8 (x * 256) b (by omega) (by omega) (by omega) (by omega) (by omega) (by omega)

theorem toList_eq (s : ByteArray) : s.toList = s.data.toList := by
  exact ByteArray.toList_eq s
theorem isEmpty_of (s : ByteArray) (h : 0 < s.size) : s.toList.isEmpty = false := by
  rw [toList_eq]
  have h' : 0 < s.data.size := h
  cases hl : s.data.toList with
  | nil => have := congrArg List.length hl; simp at this; simp [this] at h'
  | cons a t => rfl
theorem isEmpty_to (s : ByteArray) (h : s.size = 0) : s.toList.isEmpty = true := by
  rw [toList_eq]
  have h' : s.data.size = 0 := h
  cases hl : s.data.toList with
  | nil => rfl
  | cons a t => have := congrArg List.length hl; simp [h'] at this

set_option maxRecDepth 100000 in
set_option maxHeartbeats 1000000 in
theorem get_1ok (s : ByteArray) (w : World) (hs : s.size ≤ 140737488355328) (h1 : 1 ≤ s.size) (hb0 : (0 : Int) ≤ ((s[0]'(by omega)).toNat : Int)) (hb1 : ((s[0]'(by omega)).toNat : Int) < 64) (hq : qsize (((s[0]'(by omega)).toNat : Int) % (64 : Int)) = 1) :
    Calls Tryz.prog 51 #[.string s] w fun e w' => e = .returned (.tuple #[.int .i64 (((s[0]'(by omega)).toNat : Int) % (64 : Int)), .string (s.extract 1 s.size), .int .i64 0]) ∧ Below w.heap.size w w' := by
  have hne : s.toList.isEmpty = false := isEmpty_of s (by omega)
  have hlt : (0:Int) < s.size := by omega
  have hlt0 : 0 < s.size := by omega
  have hdiv : ((s[0]'(by omega)).toNat : Int) / 64 = 0 := by omega
  have hle : (1:Int) ≤ s.size := by omega
  have hQ : Hid (qsize (((s[0]'(by omega)).toNat : Int) % (64 : Int)) = 1) := hq
  have hR : Hid ((qsize (((s[0]'(by omega)).toNat : Int) % (64 : Int)) != 1) = false) := by show _ = _; rw [hq]; rfl
  clear hq
  go_enter Tryz.func51, Tryz.ntmps51
  go_wp2
  refine wp_loop_rounds 1 ?_
  rw [rounds_succ]
  go_wp2_with (go_at_call 43; refine (size_any _ _).mono ?_; rintro e _ ⟨rfl, rfl⟩; have hR := hR.out)
  go_region
  all_goals go_wp2
  all_goals go_ret3
  all_goals exact ⟨rfl, by repeat (first | exact Below.refl _ _ | refine Below.drew ?_)⟩

set_option maxRecDepth 100000 in
set_option maxHeartbeats 1000000 in
theorem get_1bad (s : ByteArray) (w : World) (hs : s.size ≤ 140737488355328) (h1 : 1 ≤ s.size) (hb0 : (0 : Int) ≤ ((s[0]'(by omega)).toNat : Int)) (hb1 : ((s[0]'(by omega)).toNat : Int) < 64) (hq : ¬ qsize (((s[0]'(by omega)).toNat : Int) % (64 : Int)) = 1) :
    Calls Tryz.prog 51 #[.string s] w fun e w' => e = .returned (.tuple #[.int .i64 0, .string ⟨#[]⟩, .int .i64 3]) ∧ Below w.heap.size w w' := by
  have hne : s.toList.isEmpty = false := isEmpty_of s (by omega)
  have hlt : (0:Int) < s.size := by omega
  have hlt0 : 0 < s.size := by omega
  have hdiv : ((s[0]'(by omega)).toNat : Int) / 64 = 0 := by omega
  have hle : (1:Int) ≤ s.size := by omega
  have hQ : Hid (qsize (((s[0]'(by omega)).toNat : Int) % (64 : Int)) ≠ 1) := hq
  have hR : Hid ((qsize (((s[0]'(by omega)).toNat : Int) % (64 : Int)) != 1) = true) := by show _ = _; rw [bne_iff_ne]; exact hq
  clear hq
  go_enter Tryz.func51, Tryz.ntmps51
  go_wp2
  refine wp_loop_rounds 1 ?_
  rw [rounds_succ]
  go_wp2_with (go_at_call 43; refine (size_any _ _).mono ?_; rintro e _ ⟨rfl, rfl⟩; have hR := hR.out)
  go_ret3
  exact ⟨rfl, Below.refl _ _⟩

set_option maxRecDepth 100000 in
set_option maxHeartbeats 1000000 in
theorem get_2ok (s : ByteArray) (w : World) (hs : s.size ≤ 140737488355328) (h2 : 2 ≤ s.size) (hb0 : (64 : Int) ≤ ((s[0]'(by omega)).toNat : Int)) (hb1 : ((s[0]'(by omega)).toNat : Int) < 128) (hq : qsize ((((s[0]'(by omega)).toNat : Int) % (64 : Int)) * (256 : Int) + ((s[1]'(by omega)).toNat : Int)) = 2) :
    Calls Tryz.prog 51 #[.string s] w fun e w' => e = .returned (.tuple #[.int .i64 ((((s[0]'(by omega)).toNat : Int) % (64 : Int)) * (256 : Int) + ((s[1]'(by omega)).toNat : Int)), .string (s.extract 2 s.size), .int .i64 0]) ∧ Below w.heap.size w w' := by
  have hne : s.toList.isEmpty = false := isEmpty_of s (by omega)
  have hlt : (0:Int) < s.size := by omega
  have hlt0 : 0 < s.size := by omega
  have hdiv : ((s[0]'(by omega)).toNat : Int) / 64 = 1 := by omega
  have hle : (2:Int) ≤ s.size := by omega
  have hlt1 : 1 < s.size := by omega
  have hub1 : (((s[1]'(by omega)).toNat : Int)) < 256 := by have := (s[1]'(by omega)).toNat_lt; omega
  have hQ : Hid (qsize ((((s[0]'(by omega)).toNat : Int) % (64 : Int)) * (256 : Int) + ((s[1]'(by omega)).toNat : Int)) = 2) := hq
  have hR : Hid ((qsize ((((s[0]'(by omega)).toNat : Int) % (64 : Int)) * (256 : Int) + ((s[1]'(by omega)).toNat : Int)) != 2) = false) := by show _ = _; rw [hq]; rfl
  clear hq
  go_enter Tryz.func51, Tryz.ntmps51
  go_wp2
  refine wp_loop_rounds 2 ?_
  rw [rounds_succ]
  go_wp2
  rw [orj _ _ (by omega) (by omega) (by omega) (by omega)]
  rw [rounds_succ]
  go_wp2_with (go_at_call 43; refine (size_any _ _).mono ?_; rintro e _ ⟨rfl, rfl⟩; have hR := hR.out)
  go_region
  all_goals go_wp2
  all_goals go_ret3
  all_goals exact ⟨rfl, by repeat (first | exact Below.refl _ _ | refine Below.drew ?_)⟩

set_option maxRecDepth 100000 in
set_option maxHeartbeats 1000000 in
theorem get_2bad (s : ByteArray) (w : World) (hs : s.size ≤ 140737488355328) (h2 : 2 ≤ s.size) (hb0 : (64 : Int) ≤ ((s[0]'(by omega)).toNat : Int)) (hb1 : ((s[0]'(by omega)).toNat : Int) < 128) (hq : ¬ qsize ((((s[0]'(by omega)).toNat : Int) % (64 : Int)) * (256 : Int) + ((s[1]'(by omega)).toNat : Int)) = 2) :
    Calls Tryz.prog 51 #[.string s] w fun e w' => e = .returned (.tuple #[.int .i64 0, .string ⟨#[]⟩, .int .i64 3]) ∧ Below w.heap.size w w' := by
  have hne : s.toList.isEmpty = false := isEmpty_of s (by omega)
  have hlt : (0:Int) < s.size := by omega
  have hlt0 : 0 < s.size := by omega
  have hdiv : ((s[0]'(by omega)).toNat : Int) / 64 = 1 := by omega
  have hle : (2:Int) ≤ s.size := by omega
  have hlt1 : 1 < s.size := by omega
  have hub1 : (((s[1]'(by omega)).toNat : Int)) < 256 := by have := (s[1]'(by omega)).toNat_lt; omega
  have hQ : Hid (qsize ((((s[0]'(by omega)).toNat : Int) % (64 : Int)) * (256 : Int) + ((s[1]'(by omega)).toNat : Int)) ≠ 2) := hq
  have hR : Hid ((qsize ((((s[0]'(by omega)).toNat : Int) % (64 : Int)) * (256 : Int) + ((s[1]'(by omega)).toNat : Int)) != 2) = true) := by show _ = _; rw [bne_iff_ne]; exact hq
  clear hq
  go_enter Tryz.func51, Tryz.ntmps51
  go_wp2
  refine wp_loop_rounds 2 ?_
  rw [rounds_succ]
  go_wp2
  rw [orj _ _ (by omega) (by omega) (by omega) (by omega)]
  rw [rounds_succ]
  go_wp2_with (go_at_call 43; refine (size_any _ _).mono ?_; rintro e _ ⟨rfl, rfl⟩; have hR := hR.out)
  go_ret3
  exact ⟨rfl, Below.refl _ _⟩

set_option maxRecDepth 100000 in
set_option maxHeartbeats 1000000 in
theorem get_2short (s : ByteArray) (w : World) (hs : s.size ≤ 140737488355328) (hp : 0 < s.size) (hsh : s.size < 2) (hb0 : (64 : Int) ≤ ((s[0]'(by omega)).toNat : Int)) (hb1 : ((s[0]'(by omega)).toNat : Int) < 128) :
    Calls Tryz.prog 51 #[.string s] w fun e w' => e = .returned (.tuple #[.int .i64 0, .string ⟨#[]⟩, .int .i64 7]) ∧ Below w.heap.size w w' := by
  have hne : s.toList.isEmpty = false := isEmpty_of s (by omega)
  have hlt : (0:Int) < s.size := by omega
  have hlt0 : 0 < s.size := by omega
  have hdiv : ((s[0]'(by omega)).toNat : Int) / 64 = 1 := by omega
  have hle : (s.size : Int) < 2 := by omega
  go_enter Tryz.func51, Tryz.ntmps51
  go_wp2
  go_ret3
  exact ⟨rfl, Below.refl _ _⟩

set_option maxRecDepth 100000 in
set_option maxHeartbeats 1000000 in
theorem get_4ok (s : ByteArray) (w : World) (hs : s.size ≤ 140737488355328) (h4 : 4 ≤ s.size) (hb0 : (128 : Int) ≤ ((s[0]'(by omega)).toNat : Int)) (hb1 : ((s[0]'(by omega)).toNat : Int) < 192) (hq : qsize ((((((s[0]'(by omega)).toNat : Int) % (64 : Int)) * (256 : Int) + ((s[1]'(by omega)).toNat : Int)) * (256 : Int) + ((s[2]'(by omega)).toNat : Int)) * (256 : Int) + ((s[3]'(by omega)).toNat : Int)) = 4) :
    Calls Tryz.prog 51 #[.string s] w fun e w' => e = .returned (.tuple #[.int .i64 ((((((s[0]'(by omega)).toNat : Int) % (64 : Int)) * (256 : Int) + ((s[1]'(by omega)).toNat : Int)) * (256 : Int) + ((s[2]'(by omega)).toNat : Int)) * (256 : Int) + ((s[3]'(by omega)).toNat : Int)), .string (s.extract 4 s.size), .int .i64 0]) ∧ Below w.heap.size w w' := by
  have hne : s.toList.isEmpty = false := isEmpty_of s (by omega)
  have hlt : (0:Int) < s.size := by omega
  have hlt0 : 0 < s.size := by omega
  have hdiv : ((s[0]'(by omega)).toNat : Int) / 64 = 2 := by omega
  have hle : (4:Int) ≤ s.size := by omega
  have hlt1 : 1 < s.size := by omega
  have hub1 : (((s[1]'(by omega)).toNat : Int)) < 256 := by have := (s[1]'(by omega)).toNat_lt; omega
  have hlt2 : 2 < s.size := by omega
  have hub2 : (((s[2]'(by omega)).toNat : Int)) < 256 := by have := (s[2]'(by omega)).toNat_lt; omega
  have hlt3 : 3 < s.size := by omega
  have hub3 : (((s[3]'(by omega)).toNat : Int)) < 256 := by have := (s[3]'(by omega)).toNat_lt; omega
  have hQ : Hid (qsize ((((((s[0]'(by omega)).toNat : Int) % (64 : Int)) * (256 : Int) + ((s[1]'(by omega)).toNat : Int)) * (256 : Int) + ((s[2]'(by omega)).toNat : Int)) * (256 : Int) + ((s[3]'(by omega)).toNat : Int)) = 4) := hq
  have hR : Hid ((qsize ((((((s[0]'(by omega)).toNat : Int) % (64 : Int)) * (256 : Int) + ((s[1]'(by omega)).toNat : Int)) * (256 : Int) + ((s[2]'(by omega)).toNat : Int)) * (256 : Int) + ((s[3]'(by omega)).toNat : Int)) != 4) = false) := by show _ = _; rw [hq]; rfl
  clear hq
  go_enter Tryz.func51, Tryz.ntmps51
  go_wp2
  refine wp_loop_rounds 4 ?_
  rw [rounds_succ]
  go_wp2
  rw [orj _ _ (by omega) (by omega) (by omega) (by omega)]
  rw [rounds_succ]
  go_wp2
  rw [orj _ _ (by omega) (by omega) (by omega) (by omega)]
  rw [rounds_succ]
  go_wp2
  rw [orj _ _ (by omega) (by omega) (by omega) (by omega)]
  rw [rounds_succ]
  go_wp2_with (go_at_call 43; refine (size_any _ _).mono ?_; rintro e _ ⟨rfl, rfl⟩; have hR := hR.out)
  go_region
  all_goals go_wp2
  all_goals go_ret3
  all_goals exact ⟨rfl, by repeat (first | exact Below.refl _ _ | refine Below.drew ?_)⟩

set_option maxRecDepth 100000 in
set_option maxHeartbeats 1000000 in
theorem get_4bad (s : ByteArray) (w : World) (hs : s.size ≤ 140737488355328) (h4 : 4 ≤ s.size) (hb0 : (128 : Int) ≤ ((s[0]'(by omega)).toNat : Int)) (hb1 : ((s[0]'(by omega)).toNat : Int) < 192) (hq : ¬ qsize ((((((s[0]'(by omega)).toNat : Int) % (64 : Int)) * (256 : Int) + ((s[1]'(by omega)).toNat : Int)) * (256 : Int) + ((s[2]'(by omega)).toNat : Int)) * (256 : Int) + ((s[3]'(by omega)).toNat : Int)) = 4) :
    Calls Tryz.prog 51 #[.string s] w fun e w' => e = .returned (.tuple #[.int .i64 0, .string ⟨#[]⟩, .int .i64 3]) ∧ Below w.heap.size w w' := by
  have hne : s.toList.isEmpty = false := isEmpty_of s (by omega)
  have hlt : (0:Int) < s.size := by omega
  have hlt0 : 0 < s.size := by omega
  have hdiv : ((s[0]'(by omega)).toNat : Int) / 64 = 2 := by omega
  have hle : (4:Int) ≤ s.size := by omega
  have hlt1 : 1 < s.size := by omega
  have hub1 : (((s[1]'(by omega)).toNat : Int)) < 256 := by have := (s[1]'(by omega)).toNat_lt; omega
  have hlt2 : 2 < s.size := by omega
  have hub2 : (((s[2]'(by omega)).toNat : Int)) < 256 := by have := (s[2]'(by omega)).toNat_lt; omega
  have hlt3 : 3 < s.size := by omega
  have hub3 : (((s[3]'(by omega)).toNat : Int)) < 256 := by have := (s[3]'(by omega)).toNat_lt; omega
  have hQ : Hid (qsize ((((((s[0]'(by omega)).toNat : Int) % (64 : Int)) * (256 : Int) + ((s[1]'(by omega)).toNat : Int)) * (256 : Int) + ((s[2]'(by omega)).toNat : Int)) * (256 : Int) + ((s[3]'(by omega)).toNat : Int)) ≠ 4) := hq
  have hR : Hid ((qsize ((((((s[0]'(by omega)).toNat : Int) % (64 : Int)) * (256 : Int) + ((s[1]'(by omega)).toNat : Int)) * (256 : Int) + ((s[2]'(by omega)).toNat : Int)) * (256 : Int) + ((s[3]'(by omega)).toNat : Int)) != 4) = true) := by show _ = _; rw [bne_iff_ne]; exact hq
  clear hq
  go_enter Tryz.func51, Tryz.ntmps51
  go_wp2
  refine wp_loop_rounds 4 ?_
  rw [rounds_succ]
  go_wp2
  rw [orj _ _ (by omega) (by omega) (by omega) (by omega)]
  rw [rounds_succ]
  go_wp2
  rw [orj _ _ (by omega) (by omega) (by omega) (by omega)]
  rw [rounds_succ]
  go_wp2
  rw [orj _ _ (by omega) (by omega) (by omega) (by omega)]
  rw [rounds_succ]
  go_wp2_with (go_at_call 43; refine (size_any _ _).mono ?_; rintro e _ ⟨rfl, rfl⟩; have hR := hR.out)
  go_ret3
  exact ⟨rfl, Below.refl _ _⟩

set_option maxRecDepth 100000 in
set_option maxHeartbeats 1000000 in
theorem get_4short (s : ByteArray) (w : World) (hs : s.size ≤ 140737488355328) (hp : 0 < s.size) (hsh : s.size < 4) (hb0 : (128 : Int) ≤ ((s[0]'(by omega)).toNat : Int)) (hb1 : ((s[0]'(by omega)).toNat : Int) < 192) :
    Calls Tryz.prog 51 #[.string s] w fun e w' => e = .returned (.tuple #[.int .i64 0, .string ⟨#[]⟩, .int .i64 7]) ∧ Below w.heap.size w w' := by
  have hne : s.toList.isEmpty = false := isEmpty_of s (by omega)
  have hlt : (0:Int) < s.size := by omega
  have hlt0 : 0 < s.size := by omega
  have hdiv : ((s[0]'(by omega)).toNat : Int) / 64 = 2 := by omega
  have hle : (s.size : Int) < 4 := by omega
  go_enter Tryz.func51, Tryz.ntmps51
  go_wp2
  go_ret3
  exact ⟨rfl, Below.refl _ _⟩

set_option maxRecDepth 100000 in
set_option maxHeartbeats 1000000 in
theorem get_8ok (s : ByteArray) (w : World) (hs : s.size ≤ 140737488355328) (h8 : 8 ≤ s.size) (hb0 : (192 : Int) ≤ ((s[0]'(by omega)).toNat : Int)) (hb1 : ((s[0]'(by omega)).toNat : Int) < 256) (hq : qsize ((((((((((s[0]'(by omega)).toNat : Int) % (64 : Int)) * (256 : Int) + ((s[1]'(by omega)).toNat : Int)) * (256 : Int) + ((s[2]'(by omega)).toNat : Int)) * (256 : Int) + ((s[3]'(by omega)).toNat : Int)) * (256 : Int) + ((s[4]'(by omega)).toNat : Int)) * (256 : Int) + ((s[5]'(by omega)).toNat : Int)) * (256 : Int) + ((s[6]'(by omega)).toNat : Int)) * (256 : Int) + ((s[7]'(by omega)).toNat : Int)) = 8) :
    Calls Tryz.prog 51 #[.string s] w fun e w' => e = .returned (.tuple #[.int .i64 ((((((((((s[0]'(by omega)).toNat : Int) % (64 : Int)) * (256 : Int) + ((s[1]'(by omega)).toNat : Int)) * (256 : Int) + ((s[2]'(by omega)).toNat : Int)) * (256 : Int) + ((s[3]'(by omega)).toNat : Int)) * (256 : Int) + ((s[4]'(by omega)).toNat : Int)) * (256 : Int) + ((s[5]'(by omega)).toNat : Int)) * (256 : Int) + ((s[6]'(by omega)).toNat : Int)) * (256 : Int) + ((s[7]'(by omega)).toNat : Int)), .string (s.extract 8 s.size), .int .i64 0]) ∧ Below w.heap.size w w' := by
  have hne : s.toList.isEmpty = false := isEmpty_of s (by omega)
  have hlt : (0:Int) < s.size := by omega
  have hlt0 : 0 < s.size := by omega
  have hdiv : ((s[0]'(by omega)).toNat : Int) / 64 = 3 := by omega
  have hle : (8:Int) ≤ s.size := by omega
  have hlt1 : 1 < s.size := by omega
  have hub1 : (((s[1]'(by omega)).toNat : Int)) < 256 := by have := (s[1]'(by omega)).toNat_lt; omega
  have hlt2 : 2 < s.size := by omega
  have hub2 : (((s[2]'(by omega)).toNat : Int)) < 256 := by have := (s[2]'(by omega)).toNat_lt; omega
  have hlt3 : 3 < s.size := by omega
  have hub3 : (((s[3]'(by omega)).toNat : Int)) < 256 := by have := (s[3]'(by omega)).toNat_lt; omega
  have hlt4 : 4 < s.size := by omega
  have hub4 : (((s[4]'(by omega)).toNat : Int)) < 256 := by have := (s[4]'(by omega)).toNat_lt; omega
  have hlt5 : 5 < s.size := by omega
  have hub5 : (((s[5]'(by omega)).toNat : Int)) < 256 := by have := (s[5]'(by omega)).toNat_lt; omega
  have hlt6 : 6 < s.size := by omega
  have hub6 : (((s[6]'(by omega)).toNat : Int)) < 256 := by have := (s[6]'(by omega)).toNat_lt; omega
  have hlt7 : 7 < s.size := by omega
  have hub7 : (((s[7]'(by omega)).toNat : Int)) < 256 := by have := (s[7]'(by omega)).toNat_lt; omega
  have hQ : Hid (qsize ((((((((((s[0]'(by omega)).toNat : Int) % (64 : Int)) * (256 : Int) + ((s[1]'(by omega)).toNat : Int)) * (256 : Int) + ((s[2]'(by omega)).toNat : Int)) * (256 : Int) + ((s[3]'(by omega)).toNat : Int)) * (256 : Int) + ((s[4]'(by omega)).toNat : Int)) * (256 : Int) + ((s[5]'(by omega)).toNat : Int)) * (256 : Int) + ((s[6]'(by omega)).toNat : Int)) * (256 : Int) + ((s[7]'(by omega)).toNat : Int)) = 8) := hq
  have hR : Hid ((qsize ((((((((((s[0]'(by omega)).toNat : Int) % (64 : Int)) * (256 : Int) + ((s[1]'(by omega)).toNat : Int)) * (256 : Int) + ((s[2]'(by omega)).toNat : Int)) * (256 : Int) + ((s[3]'(by omega)).toNat : Int)) * (256 : Int) + ((s[4]'(by omega)).toNat : Int)) * (256 : Int) + ((s[5]'(by omega)).toNat : Int)) * (256 : Int) + ((s[6]'(by omega)).toNat : Int)) * (256 : Int) + ((s[7]'(by omega)).toNat : Int)) != 8) = false) := by show _ = _; rw [hq]; rfl
  clear hq
  go_enter Tryz.func51, Tryz.ntmps51
  go_wp2
  refine wp_loop_rounds 8 ?_
  rw [rounds_succ]
  go_wp2
  rw [orj _ _ (by omega) (by omega) (by omega) (by omega)]
  rw [rounds_succ]
  go_wp2
  rw [orj _ _ (by omega) (by omega) (by omega) (by omega)]
  rw [rounds_succ]
  go_wp2
  rw [orj _ _ (by omega) (by omega) (by omega) (by omega)]
  rw [rounds_succ]
  go_wp2
  rw [orj _ _ (by omega) (by omega) (by omega) (by omega)]
  rw [rounds_succ]
  go_wp2
  rw [orj _ _ (by omega) (by omega) (by omega) (by omega)]
  rw [rounds_succ]
  go_wp2
  rw [orj _ _ (by omega) (by omega) (by omega) (by omega)]
  rw [rounds_succ]
  go_wp2
  rw [orj _ _ (by omega) (by omega) (by omega) (by omega)]
  rw [rounds_succ]
  go_wp2_with (go_at_call 43; refine (size_any _ _).mono ?_; rintro e _ ⟨rfl, rfl⟩; have hR := hR.out)
  go_region
  all_goals go_wp2
  all_goals go_ret3
  all_goals exact ⟨rfl, by repeat (first | exact Below.refl _ _ | refine Below.drew ?_)⟩

set_option maxRecDepth 100000 in
set_option maxHeartbeats 1000000 in
theorem get_8bad (s : ByteArray) (w : World) (hs : s.size ≤ 140737488355328) (h8 : 8 ≤ s.size) (hb0 : (192 : Int) ≤ ((s[0]'(by omega)).toNat : Int)) (hb1 : ((s[0]'(by omega)).toNat : Int) < 256) (hq : ¬ qsize ((((((((((s[0]'(by omega)).toNat : Int) % (64 : Int)) * (256 : Int) + ((s[1]'(by omega)).toNat : Int)) * (256 : Int) + ((s[2]'(by omega)).toNat : Int)) * (256 : Int) + ((s[3]'(by omega)).toNat : Int)) * (256 : Int) + ((s[4]'(by omega)).toNat : Int)) * (256 : Int) + ((s[5]'(by omega)).toNat : Int)) * (256 : Int) + ((s[6]'(by omega)).toNat : Int)) * (256 : Int) + ((s[7]'(by omega)).toNat : Int)) = 8) :
    Calls Tryz.prog 51 #[.string s] w fun e w' => e = .returned (.tuple #[.int .i64 0, .string ⟨#[]⟩, .int .i64 3]) ∧ Below w.heap.size w w' := by
  have hne : s.toList.isEmpty = false := isEmpty_of s (by omega)
  have hlt : (0:Int) < s.size := by omega
  have hlt0 : 0 < s.size := by omega
  have hdiv : ((s[0]'(by omega)).toNat : Int) / 64 = 3 := by omega
  have hle : (8:Int) ≤ s.size := by omega
  have hlt1 : 1 < s.size := by omega
  have hub1 : (((s[1]'(by omega)).toNat : Int)) < 256 := by have := (s[1]'(by omega)).toNat_lt; omega
  have hlt2 : 2 < s.size := by omega
  have hub2 : (((s[2]'(by omega)).toNat : Int)) < 256 := by have := (s[2]'(by omega)).toNat_lt; omega
  have hlt3 : 3 < s.size := by omega
  have hub3 : (((s[3]'(by omega)).toNat : Int)) < 256 := by have := (s[3]'(by omega)).toNat_lt; omega
  have hlt4 : 4 < s.size := by omega
  have hub4 : (((s[4]'(by omega)).toNat : Int)) < 256 := by have := (s[4]'(by omega)).toNat_lt; omega
  have hlt5 : 5 < s.size := by omega
  have hub5 : (((s[5]'(by omega)).toNat : Int)) < 256 := by have := (s[5]'(by omega)).toNat_lt; omega
  have hlt6 : 6 < s.size := by omega
  have hub6 : (((s[6]'(by omega)).toNat : Int)) < 256 := by have := (s[6]'(by omega)).toNat_lt; omega
  have hlt7 : 7 < s.size := by omega
  have hub7 : (((s[7]'(by omega)).toNat : Int)) < 256 := by have := (s[7]'(by omega)).toNat_lt; omega
  have hQ : Hid (qsize ((((((((((s[0]'(by omega)).toNat : Int) % (64 : Int)) * (256 : Int) + ((s[1]'(by omega)).toNat : Int)) * (256 : Int) + ((s[2]'(by omega)).toNat : Int)) * (256 : Int) + ((s[3]'(by omega)).toNat : Int)) * (256 : Int) + ((s[4]'(by omega)).toNat : Int)) * (256 : Int) + ((s[5]'(by omega)).toNat : Int)) * (256 : Int) + ((s[6]'(by omega)).toNat : Int)) * (256 : Int) + ((s[7]'(by omega)).toNat : Int)) ≠ 8) := hq
  have hR : Hid ((qsize ((((((((((s[0]'(by omega)).toNat : Int) % (64 : Int)) * (256 : Int) + ((s[1]'(by omega)).toNat : Int)) * (256 : Int) + ((s[2]'(by omega)).toNat : Int)) * (256 : Int) + ((s[3]'(by omega)).toNat : Int)) * (256 : Int) + ((s[4]'(by omega)).toNat : Int)) * (256 : Int) + ((s[5]'(by omega)).toNat : Int)) * (256 : Int) + ((s[6]'(by omega)).toNat : Int)) * (256 : Int) + ((s[7]'(by omega)).toNat : Int)) != 8) = true) := by show _ = _; rw [bne_iff_ne]; exact hq
  clear hq
  go_enter Tryz.func51, Tryz.ntmps51
  go_wp2
  refine wp_loop_rounds 8 ?_
  rw [rounds_succ]
  go_wp2
  rw [orj _ _ (by omega) (by omega) (by omega) (by omega)]
  rw [rounds_succ]
  go_wp2
  rw [orj _ _ (by omega) (by omega) (by omega) (by omega)]
  rw [rounds_succ]
  go_wp2
  rw [orj _ _ (by omega) (by omega) (by omega) (by omega)]
  rw [rounds_succ]
  go_wp2
  rw [orj _ _ (by omega) (by omega) (by omega) (by omega)]
  rw [rounds_succ]
  go_wp2
  rw [orj _ _ (by omega) (by omega) (by omega) (by omega)]
  rw [rounds_succ]
  go_wp2
  rw [orj _ _ (by omega) (by omega) (by omega) (by omega)]
  rw [rounds_succ]
  go_wp2
  rw [orj _ _ (by omega) (by omega) (by omega) (by omega)]
  rw [rounds_succ]
  go_wp2_with (go_at_call 43; refine (size_any _ _).mono ?_; rintro e _ ⟨rfl, rfl⟩; have hR := hR.out)
  go_ret3
  exact ⟨rfl, Below.refl _ _⟩

set_option maxRecDepth 100000 in
set_option maxHeartbeats 1000000 in
theorem get_8short (s : ByteArray) (w : World) (hs : s.size ≤ 140737488355328) (hp : 0 < s.size) (hsh : s.size < 8) (hb0 : (192 : Int) ≤ ((s[0]'(by omega)).toNat : Int)) (hb1 : ((s[0]'(by omega)).toNat : Int) < 256) :
    Calls Tryz.prog 51 #[.string s] w fun e w' => e = .returned (.tuple #[.int .i64 0, .string ⟨#[]⟩, .int .i64 7]) ∧ Below w.heap.size w w' := by
  have hne : s.toList.isEmpty = false := isEmpty_of s (by omega)
  have hlt : (0:Int) < s.size := by omega
  have hlt0 : 0 < s.size := by omega
  have hdiv : ((s[0]'(by omega)).toNat : Int) / 64 = 3 := by omega
  have hle : (s.size : Int) < 8 := by omega
  go_enter Tryz.func51, Tryz.ntmps51
  go_wp2
  go_ret3
  exact ⟨rfl, Below.refl _ _⟩

set_option maxHeartbeats 400000 in
theorem get_none (s : ByteArray) (w : World) (h : s.size = 0) :
    Calls Tryz.prog 51 #[.string s] w fun e w' => e = .returned (.tuple #[.int .i64 0, .string ⟨#[]⟩, .int .i64 7]) ∧ Below w.heap.size w w' := by
  have hne : s.toList.isEmpty = true := isEmpty_to s h
  go_enter Tryz.func51, Tryz.ntmps51
  go_wp2
  go_ret3
  exact ⟨rfl, Below.refl _ _⟩
end Go.Proofs.YtoplpohpodkpdaaGreatDoor.Q
/- Items: which may be (quic.mayBe and the reference's May). -/
namespace Go.Proofs.YtoplpohpodkpdaaGreatDoor.Q
open Go.RowKit
set_option linter.unusedVariables false

theorem ret_bool {a b : Bool} (h : a = b) : Ending.returned (.bool a) = .returned (.bool b) := by rw [h]
theorem qpos (n : Int) : (0 < qsize n) ↔ (0 ≤ n ∧ n ≤ 4611686018427387903) := by
  unfold qsize; (repeat' split) <;> constructor <;> intro <;> omega
theorem nil_size (s : ByteArray) : s.toList = [] ↔ s.size = 0 := by
  rw [toList_eq]
  constructor
  · intro h; have := congrArg List.length h; simpa using this
  · intro h; exact List.eq_nil_of_length_eq_zero (by simpa using h)

/-- May an item be? -/
def mayB (k n : Int) (s : ByteArray) : Bool :=
  if k = 1 then s.toList.isEmpty && decide (0 ≤ n ∧ n ≤ 4611686018427387903)
  else if k = 2 then s.toList.isEmpty && decide (-2305843009213693952 ≤ n ∧ n ≤ 2305843009213693951)
  else if k = 3 then s.toList.isEmpty && decide (n = 0 ∨ n = 1)
  else if k = 4 then decide (n = 0 ∧ s.size ≤ 65536)
  else false

set_option maxHeartbeats 1000000 in
theorem mayBe_any (k n : Int) (s : ByteArray) (w : World) (hs : s.size ≤ 140737488355328) :
    Calls Tryz.prog 27 #[.agg #[.int .i64 k, .int .i64 n, .string s]] w fun e w' => e = .returned (.bool (mayB k n s)) ∧ Below w.heap.size w w' := by
  go_enter Tryz.func27, Tryz.ntmps27
  go_wp2_with (first | (go_at_call 43; refine (size_any _ _).mono ?_; rintro e _ ⟨rfl, rfl⟩) | go_in)
  all_goals go_ret
  all_goals refine ⟨ret_bool ?_, (Below.refl _ _).alloc (Nat.le_refl _) _⟩
  all_goals go_light
  all_goals simp_all [mayB, qpos, nil_size]
  all_goals first | omega | (rw [Bool.eq_iff_iff]; simp; omega)
end Go.Proofs.YtoplpohpodkpdaaGreatDoor.Q
/- Plain mathematics: of numbers with as many bytes the lesser one stands ahead, byte by byte. -/
namespace Go.Proofs.YtoplpohpodkpdaaGreatDoor.Q
open Go.RowKit

/-- The bytes of a number, as bytes. -/
def numL (n : Int) : List UInt8 := (numI n).map fun x => UInt8.ofNat x.toNat
theorem strOfNums_toList (n : Int) : (strOfNums (numI n)).toList = numL n := by
  rw [ByteArray.toList_eq]; rfl
theorem strOfNums_len (n : Int) : ((strOfNums (numI n)).size : Int) = qsize n := by
  rw [strOfNums_size]
  unfold numI qsize
  (repeat' split) <;> rfl
theorem numL_len (n : Int) : ((numL n).length : Int) = qsize n := by
  unfold numL
  rw [List.length_map]
  unfold numI qsize
  (repeat' split) <;> rfl
theorem u8nat (x : Int) (h0 : 0 ≤ x) (h1 : x < 256) : ((UInt8.ofNat x.toNat).toNat : Int) = x := by
  rw [UInt8.toNat_ofNat']; omega
end Go.Proofs.YtoplpohpodkpdaaGreatDoor.Q
/- quic.putText and quic.putItem: what they write into a builder. -/
namespace Go.Proofs.YtoplpohpodkpdaaGreatDoor.Q
open Go.RowKit

theorem grown_of_below {w w1 : World} (hb : Below w.heap.size w w1) : w.grownBy w1 none := ⟨hb.os, hb.tape, hb.output, hb.size, fun k hk _ => hb.block k hk⟩
theorem IsB_below {B b : Nat} {bs : List Value} {w w1 : World} (h : IsB B b bs w) (hb : Below w.heap.size w w1) : IsB B b bs w1 := by
  have key : ∀ p, Lib.BuilderAtF 76 5 B b p bs w → Lib.BuilderAtF 76 5 B b p bs w1 := by
    rintro p ⟨hB, v, hbk, hown, hne⟩
    exact ⟨hB, v, (hb.block b (Array.getElem?_eq_some_iff.1 hbk).1).trans hbk, hown.kept (grown_of_below hb) (by cases hv : v.ownBlock <;> simp), hne⟩
  exact h.elim (fun x => .inl (key _ x)) (fun x => .inr (key _ x))
theorem IsB_alloc {B b : Nat} {bs : List Value} {w : World} (h : IsB B b bs w) (o : Obj) : IsB B b bs (w.alloc o) :=
  h.elim (fun x => .inl (x.alloc o)) (fun x => .inr (x.alloc o))

def itB (x : It) : List UInt8 := if x.k = 1 then numL x.n else if x.k = 2 then numL (zig x.n) else if x.k = 3 then [UInt8.ofNat x.n.toNat] else numL x.s.size ++ x.s.data.toList

theorem strCells_num (n : Int) : Lib.strCells (strOfNums (numI n)) = Lib.byteCells (numL n) := rfl
theorem num_size_le (n : Int) : (strOfNums (numI n)).size ≤ 8 := by
  have := strOfNums_len n
  have : qsize n ≤ 8 := by unfold qsize; (repeat' split) <;> omega
  omega

set_option maxHeartbeats 400000 in
theorem putText_any (B b : Nat) (bs : List UInt8) (s : ByteArray) (w : World) (h : IsB B b (Lib.byteCells bs) w) (hT : Tab w) (hlen : bs.length + s.size + 8 ≤ 140737488355328) (hBw : B ≤ w.heap.size) :
    Calls Tryz.prog 47 #[.pointer (some ⟨b, 0, none⟩), .string s] w fun e w' => e = .returned (.tuple #[]) ∧ IsB B b (Lib.byteCells (bs ++ (numL s.size ++ s.data.toList))) w' ∧ Below B w w' := by
  have hsz : s.size ≤ 140737488355328 := by omega
  have hnz := num_size_le s.size
  go_enter Tryz.func47, Tryz.ntmps47
  go_wp2_with fail
  refine (num_any _ _ hT).mono ?_
  rintro e w1 ⟨rfl, hb1⟩
  have h1 := IsB_below h hb1
  have hs1 := hb1.size
  go_wp2_with fail
  refine (writeString_any B b _ _ _ h1 (by rw [Lib.byteCells_length]; omega) (by omega)).mono ?_
  rintro e w2 ⟨rfl, h2, hb2⟩
  have hs2 := hb2.size
  rw [strCells_num, ← Lib.byteCells_append] at h2
  have hB2 : Hid (Below B w w2) := (hb1.mono hBw).trans hb2
  go_wp2_with fail
  refine (writeString_any B b _ _ _ h2 (by have := numL_len s.size; have := strOfNums_len s.size; rw [Lib.byteCells_length, List.length_append]; omega) (by omega)).mono ?_
  rintro e w3 ⟨rfl, h3, hb3⟩
  rw [Lib.strCells_eq, ← Lib.byteCells_append, List.append_assoc] at h3
  have hB3 : Hid (Below B w w3) := hB2.out.trans hb3
  have H3 : Hid (IsB B b (Lib.byteCells (bs ++ (numL s.size ++ s.data.toList))) w3) := h3
  clear h h1 h2 h3 hb1 hb2 hb3 hB2
  go_wp2
  go_end0
  exact ⟨rfl, H3.out, hB3.out⟩

theorem Tab_alloc {w : World} (h : Tab w) (o : Obj) : Tab (w.alloc o) := h.below ((Below.refl _ _).alloc (Nat.le_refl _) o) h.size
theorem itB_1 {k n : Int} {s : ByteArray} (h : (k == 1) = true) : itB ⟨k, n, s⟩ = numL n := by unfold itB; rw [if_pos (by simpa using h)]
theorem itB_2 {k n : Int} {s : ByteArray} (h1 : (k == 1) = false) (h : (k == 2) = true) : itB ⟨k, n, s⟩ = numL (zig n) := by unfold itB; rw [if_neg (by simpa using h1), if_pos (by simpa using h)]
theorem itB_3 {k n : Int} {s : ByteArray} (h1 : (k == 1) = false) (h2 : (k == 2) = false) (h : (k == 3) = true) : itB ⟨k, n, s⟩ = [UInt8.ofNat n.toNat] := by unfold itB; rw [if_neg (by simpa using h1), if_neg (by simpa using h2), if_pos (by simpa using h)]
theorem itB_4 {k n : Int} {s : ByteArray} (h1 : (k == 1) = false) (h2 : (k == 2) = false) (h : (k == 3) = false) : itB ⟨k, n, s⟩ = numL s.size ++ s.data.toList := by unfold itB; rw [if_neg (by simpa using h1), if_neg (by simpa using h2), if_neg (by simpa using h)]
theorem itB_len (x : It) (h : mayB x.k x.n x.s = true) : (itB x).length ≤ 65544 := by
  have hq : ∀ n, (numL n).length ≤ 8 := fun n => by have := num_size_le n; have := strOfNums_len n; have := numL_len n; omega
  unfold itB
  split
  · have := hq x.n; omega
  split
  · have := hq (zig x.n); omega
  split
  · simp
  · rename_i h1 h2 h3
    unfold mayB at h
    rw [if_neg h1, if_neg h2, if_neg h3] at h
    split at h
    · have hh := of_decide_eq_true h
      have := hq x.s.size
      rw [List.length_append]
      have e : x.s.data.toList.length = x.s.size := by simp
      omega
    · cases h

set_option maxHeartbeats 1000000 in
theorem putItem_any (B b : Nat) (bs : List UInt8) (k n : Int) (s : ByteArray) (w : World) (h : IsB B b (Lib.byteCells bs) w) (hT : Tab w) (hm : mayB k n s = true) (hlen : bs.length + 65600 ≤ 140737488355328) (hBw : B ≤ w.heap.size) :
    Calls Tryz.prog 28 #[.pointer (some ⟨b, 0, none⟩), .agg #[.int .i64 k, .int .i64 n, .string s]] w fun e w' => e = .returned (.tuple #[]) ∧ IsB B b (Lib.byteCells (bs ++ itB ⟨k, n, s⟩)) w' ∧ Below B w w' := by
  by_cases c1 : (k == 1) = true
  · have E : Hid (itB ⟨k, n, s⟩ = numL n) := itB_1 c1
    have hnz := num_size_le n
    clear hm
    go_enter Tryz.func28, Tryz.ntmps28
    go_wp2_with fail
    refine (num_any _ _ (Tab_alloc hT _)).mono ?_
    rintro e w1 ⟨rfl, hb1⟩
    have h1 := IsB_below (IsB_alloc h _) hb1
    have hs1 := hb1.size
    simp only [World.size_alloc] at hs1
    have hB1 : Hid (Below B w w1) := ((Below.refl _ _).alloc hBw _).trans (hb1.mono (by simp; omega))
    go_wp2_with fail
    refine (writeString_any B b _ _ _ h1 (by rw [Lib.byteCells_length]; omega) (by omega)).mono ?_
    rintro e w2 ⟨rfl, h2, hb2⟩
    rw [strCells_num, ← Lib.byteCells_append] at h2
    have H2 : Hid (IsB B b (Lib.byteCells (bs ++ numL n)) w2) := h2
    have hB2 : Hid (Below B w w2) := hB1.out.trans hb2
    clear h h1 h2 hb1 hb2 hB1
    go_wp2
    go_end0
    exact ⟨rfl, by rw [E.out]; exact H2.out, hB2.out⟩
  have c1 : (k == 1) = false := by simpa using c1
  by_cases c2 : (k == 2) = true
  · have E : Hid (itB ⟨k, n, s⟩ = numL (zig n)) := itB_2 c1 c2
    have hnz := num_size_le (zig n)
    clear hm
    go_enter Tryz.func28, Tryz.ntmps28
    go_wp2_with fail
    refine (whole_any _ _ (Tab_alloc hT _)).mono ?_
    rintro e w1 ⟨rfl, hb1⟩
    have h1 := IsB_below (IsB_alloc h _) hb1
    have hs1 := hb1.size
    simp only [World.size_alloc] at hs1
    have hB1 : Hid (Below B w w1) := ((Below.refl _ _).alloc hBw _).trans (hb1.mono (by simp; omega))
    go_wp2_with fail
    refine (writeString_any B b _ _ _ h1 (by rw [Lib.byteCells_length]; omega) (by omega)).mono ?_
    rintro e w2 ⟨rfl, h2, hb2⟩
    rw [strCells_num, ← Lib.byteCells_append] at h2
    have H2 : Hid (IsB B b (Lib.byteCells (bs ++ numL (zig n))) w2) := h2
    have hB2 : Hid (Below B w w2) := hB1.out.trans hb2
    clear h h1 h2 hb1 hb2 hB1
    go_wp2
    go_end0
    exact ⟨rfl, by rw [E.out]; exact H2.out, hB2.out⟩
  have c2 : (k == 2) = false := by simpa using c2
  by_cases c3 : (k == 3) = true
  · have E : Hid (itB ⟨k, n, s⟩ = [UInt8.ofNat n.toNat]) := itB_3 c1 c2 c3
    obtain ⟨hn0, hn1⟩ : 0 ≤ n ∧ n ≤ 1 := by
      have k3 : k = 3 := by simpa using c3
      subst k3
      simp [mayB] at hm
      omega
    clear hm
    go_enter Tryz.func28, Tryz.ntmps28
    go_wp2_with fail
    refine (writeByte_any B b _ _ _ (IsB_alloc h _) (by rw [Lib.byteCells_length]; omega) (by simp; omega)).mono ?_
    rintro e w2 ⟨rfl, h2, hb2⟩
    have e2 : Lib.byteCells bs ++ [Value.int .u8 n] = Lib.byteCells (bs ++ [UInt8.ofNat n.toNat]) := by
      rw [Lib.byteCells_append]
      have : ((UInt8.ofNat n.toNat).toNat : Int) = n := u8nat n hn0 (by omega)
      simp only [Lib.byteCells, List.map_cons, List.map_nil, this]
    have H2 : Hid (IsB B b (Lib.byteCells (bs ++ [UInt8.ofNat n.toNat])) w2) := by rw [← e2]; exact h2
    have hB2 : Hid (Below B w w2) := ((Below.refl _ _).alloc hBw _).trans hb2
    clear h h2 hb2 e2
    go_wp2
    go_end0
    exact ⟨rfl, by rw [E.out]; exact H2.out, hB2.out⟩
  have c3 : (k == 3) = false := by simpa using c3
  by_cases c4 : (k == 4) = true
  · have E : Hid (itB ⟨k, n, s⟩ = numL s.size ++ s.data.toList) := itB_4 c1 c2 c3
    have hsm : s.size ≤ 65536 := by
      have k4 : k = 4 := by simpa using c4
      subst k4
      simp [mayB] at hm
      omega
    clear hm
    go_enter Tryz.func28, Tryz.ntmps28
    go_wp2_with fail
    refine (putText_any B b bs s _ (IsB_alloc h _) (Tab_alloc hT _) (by omega) (by simp; omega)).mono ?_
    rintro e w2 ⟨rfl, h2, hb2⟩
    have H2 : Hid (IsB B b (Lib.byteCells (bs ++ (numL s.size ++ s.data.toList))) w2) := h2
    have hB2 : Hid (Below B w w2) := ((Below.refl _ _).alloc hBw _).trans hb2
    clear h h2 hb2
    go_wp2
    go_end0
    exact ⟨rfl, by rw [E.out]; exact H2.out, hB2.out⟩
  · exfalso
    have a1 : ¬ k = 1 := by simpa using c1
    have a2 : ¬ k = 2 := by simpa using c2
    have a3 : ¬ k = 3 := by simpa using c3
    have a4 : ¬ k = 4 := by simpa using c4
    unfold mayB at hm
    rw [if_neg a1, if_neg a2, if_neg a3, if_neg a4] at hm
    cases hm
end Go.Proofs.YtoplpohpodkpdaaGreatDoor.Q
/- The shelf contract of (*strings.Builder).String at this program, laid by the shelf tool in plain words. -/
namespace Go.Proofs
open Go.Shelf
def Tryz.lays169_ren : Go.Shelf.Ren := ⟨fun | 169 => 29 | n => n, fun | 70 => 73 | 9 => 9 | 0 => 0 | 72 => 76 | 37 => 74 | 127 => 95 | 3 => 3 | 5 => 5 | n => n, fun | n => n⟩
theorem Tryz.lays169 : Go.Proofs.Lays.n169 Tryz.prog Tryz.lays169_ren := {
  mixed := by kernel_rfl
  f169 := Tryz.func29.trans (congrArg some (by kernel_rfl))
  t0 := Tryz.underlying0
  a0 := Tryz.isAgg0
  z0 := Tryz.sizeOf0
  v0 := Tryz.zeroValue0
  t3 := Tryz.underlying3
  a3 := Tryz.isAgg3
  z3 := Tryz.sizeOf3
  v3 := Tryz.zeroValue3
  t9 := Tryz.underlying9
  a9 := Tryz.isAgg9
  z9 := Tryz.sizeOf9
  v9 := Tryz.zeroValue9
  t37 := Tryz.underlying74
  a37 := Tryz.isAgg74
  z37 := Tryz.sizeOf74
  v37 := Tryz.zeroValue74
  t70 := Tryz.underlying73
  a70 := Tryz.isAgg73
  z70 := Tryz.sizeOf73
  v70 := Tryz.zeroValue73
  t72 := Tryz.underlying76
  a72 := Tryz.isAgg76
  z72 := Tryz.sizeOf76
  v72 := Tryz.zeroValue76
  t127 := Tryz.underlying95
  a127 := Tryz.isAgg95
  z127 := Tryz.sizeOf95
  v127 := Tryz.zeroValue95 }
theorem Tryz.Builder_Extra_169 : Builder.Extra Tryz.prog Tryz.lays169_ren := {
  sizeBuilder := by kernel_rfl
  liesBuilder := by kernel_rfl
  t5 := Tryz.underlying5
  a5 := Tryz.isAgg5
  z5 := Tryz.sizeOf5
  v5 := Tryz.zeroValue5
  infoByte := by kernel_rfl
  cellsByte := by kernel_rfl
  sizeByte := by kernel_rfl
  neB5 := by decide }
open Go.RowKit in
theorem Tryz.Builder_String_any_k (B b : Nat) (l : List UInt8) (w : World) (h : Lib.IsBuilderF 76 5 B b (Lib.byteCells l) w) (hBw : B ≤ w.heap.size) :
    Calls Tryz.prog 29 #[.pointer (some ⟨b, 0, none⟩)] w fun e w' => e = .returned (.string ⟨l.toArray⟩) ∧ (Lib.IsBuilderF 76 5 B b (Lib.byteCells l) w' ∧ Below B w w' ∧ Lib.OthersKept 5 (some b) w w') := Any.Builder_String_any_k Tryz.lays169 Tryz.Builder_Extra_169 B b l w h hBw
end Go.Proofs
/- quic.Put: its walk. -/
namespace Go.Proofs.YtoplpohpodkpdaaGreatDoor.Q
open Go.RowKit

def mayIt (x : It) : Bool := mayB x.k x.n x.s
theorem flat_len (l : List It) (h : l.all mayIt = true) : (l.flatMap itB).length ≤ l.length * 65544 := by
  induction l with
  | nil => simp
  | cons x l ih =>
    simp only [List.all_cons, Bool.and_eq_true] at h
    have h1 := itB_len x h.1
    have h2 := ih h.2
    simp only [List.flatMap_cons, List.length_append, List.length_cons]
    omega
theorem all_take' (l : List It) (k : Nat) (h : l.all mayIt = true) : (l.take k).all mayIt = true := by
  rw [List.all_eq_true] at h ⊢
  exact fun x hx => h x (List.mem_of_mem_take hx)

set_option maxHeartbeats 2000000 in
theorem put_ok (v : Value) (l : List It) (w : World) (h : IsRow w 3 v l.length (itCells l)) (hT : Tab w) (hl : l.length ≤ 4096) (hs : ∀ x ∈ l, x.s.size ≤ 140737488355328) (hok : l.all mayIt = true) :
    Calls Tryz.prog 19 #[v] w fun e w' => e = .returned (.tuple #[.string ⟨(l.flatMap itB).toArray⟩, .int .i64 0]) ∧ Below w.heap.size w w' := by
  obtain ⟨a0, cap0, rfl⟩ := h.form
  have hl' : ¬ (4096 : Int) < l.length := by omega
  have HB : Hid (l.all mayIt = true) := hok
  clear hok
  have hw1 := hT.size
  go_enter Tryz.func19, Tryz.ntmps19
  go_wp2
  go_loopw [14] (fun i wr => ∃ k : Nat, k ≤ l.length ∧ i = .int .i64 k ∧ Below w.heap.size w wr) (fun i _ => l.length - (intOf i).toNat)
  case atStart => exact ⟨0, Nat.zero_le _, rfl, Below.refl _ _⟩
  case round =>
    obtain ⟨k, hk, rfl, hb⟩ := hrel
    by_cases hlt : k < l.length
    · obtain ⟨b, off, rfl, hbl, c0, c1, c2⟩ := items_at (h.below hb) k hlt
      have hi : (k : Int) < l.length := by omega
      have hxs := hs _ (List.getElem_mem hlt)
      have HM : Hid (mayB l[k].k l[k].n l[k].s = true) := List.all_eq_true.1 HB.out _ (List.getElem_mem hlt)
      go_wp2_with fail
      refine (mayBe_any _ _ _ _ hxs).mono ?_
      rintro e w1 ⟨rfl, hb1⟩
      have hbb : Hid (Below w.heap.size w w1) := (hb.alloc hb.size _).trans (hb1.mono (by have := hb.size; simp; omega))
      clear c0 c1 c2 hb1
      rw [HM.out]
      go_wp2
      go_roundw
      case rel => exact ⟨k + 1, by omega, by go_num, hbb.out⟩
      case measure => simp [intOf]; omega
    · have hk' : k = l.length := by omega
      subst hk'
      obtain ⟨W1, rfl⟩ : ∃ W1, W1 = wr := ⟨_, rfl⟩
      have hT1 := hT.below hb hw1
      have hr1 := h.below hb
      have hs1 := hb.size
      go_wp2_with fail
      go_loopw [24] (fun i wx => ∃ k : Nat, k ≤ l.length ∧ i = .int .i64 k ∧ IsB W1.heap.size W1.heap.size (Lib.byteCells ((l.take k).flatMap itB)) wx ∧ Below W1.heap.size W1 wx) (fun i _ => l.length - (intOf i).toNat)
      case atStart => exact ⟨0, Nat.zero_le _, rfl, Lib.IsBuilderF.of (Lib.fresh_isBuilder _ _ W1), (Below.refl _ _).alloc (Nat.le_refl _) _⟩
      case round =>
        obtain ⟨k, hk, rfl, hI, hbx⟩ := hrel
        have hsx := hbx.size
        by_cases hlt : k < l.length
        · obtain ⟨b, off, rfl, hbl, c0, c1, c2⟩ := items_at (hr1.below hbx) k hlt
          have hi : (k : Int) < l.length := by omega
          have HM : Hid (mayB l[k].k l[k].n l[k].s = true) := List.all_eq_true.1 HB.out _ (List.getElem_mem hlt)
          have hfl := flat_len (l.take k) (all_take' l k HB.out)
          have hlk : (l.take k).length ≤ 4096 := by simp; omega
          have HF : Hid ((l.take k).flatMap itB ++ itB l[k] = (l.take (k + 1)).flatMap itB) := by show _ = _; rw [List.take_succ_eq_append_getElem hlt, List.flatMap_append]; simp
          have hTx := hT1.below hbx hT1.size
          go_wp2_with fail
          refine (putItem_any W1.heap.size W1.heap.size _ _ _ _ _ (IsB_alloc hI _) (Tab_alloc hTx _) HM.out (by omega) (by simp; omega)).mono ?_
          rintro e w2 ⟨rfl, h2, hb2⟩
          have H2 : Hid (IsB W1.heap.size W1.heap.size (Lib.byteCells ((l.take (k + 1)).flatMap itB)) w2) := by rw [← HF.out]; exact h2
          have hbb : Hid (Below W1.heap.size W1 w2) := (hbx.alloc hsx _).trans hb2
          clear c0 c1 c2 h2 hb2 hI hTx hfl
          go_wp2
          go_roundw
          case rel => exact ⟨k + 1, by omega, by go_num, H2.out, hbb.out⟩
          case measure => simp [intOf]; omega
        · have hk' : k = l.length := by omega
          subst hk'
          have e : l.take l.length = l := List.take_of_length_le (Nat.le_refl _)
          rw [e] at hI
          have hbf : Hid (Below w.heap.size w wr) := hb.trans (hbx.mono hs1)
          go_wp2_with fail
          refine (Tryz.Builder_String_any_k W1.heap.size W1.heap.size (l.flatMap itB) _ hI (by omega)).mono ?_
          rintro e w3 ⟨rfl, h3, hb3, _⟩
          have hfin : Hid (Below w.heap.size w w3) := hbf.out.trans (hb3.mono hs1)
          clear h3 hb3 hI hbf
          go_wp2
          go_ret2
          exact ⟨rfl, hfin.out⟩
end Go.Proofs.YtoplpohpodkpdaaGreatDoor.Q
