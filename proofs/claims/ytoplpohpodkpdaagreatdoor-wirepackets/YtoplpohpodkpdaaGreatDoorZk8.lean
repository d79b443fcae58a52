/- The reference's Get: its walk. -/
import Derived.Test.YtoplpohpodkpdaaGreatDoorZk0
import Derived.Test.YtoplpohpodkpdaaGreatDoorZk3
import Derived.Test.YtoplpohpodkpdaaGreatDoorZk2
import Derived.Test.YtoplpohpodkpdaaGreatDoorZk6
import Derived.RegionTactic
import Derived.BigRegion
namespace Go.Proofs.YtoplpohpodkpdaaGreatDoor.Q
open Go.RowKit

set_option maxRecDepth 100000 in
set_option maxHeartbeats 1000000 in
theorem refGet_1ok (s : ByteArray) (w : World) (hs : s.size ≤ 140737488355328) (h1 : 1 ≤ s.size) (hb0 : (0 : Int) ≤ ((s[0]'(by omega)).toNat : Int)) (hb1 : ((s[0]'(by omega)).toNat : Int) < 64) (hq : ((strOfNums (numI (((s[0]'(by omega)).toNat : Int) % (64 : Int)))).toList == (s.extract 0 1).toList) = true) :
    Calls Tryz.prog 42 #[.string s] w fun e w' => e = .returned (.agg #[.int .i64 (((s[0]'(by omega)).toNat : Int) % (64 : Int)), .string ⟨#[]⟩, .string (s.extract 1 s.size), .int .i64 0]) ∧ Below w.heap.size w w' := by
  have hne : s.toList.isEmpty = false := isEmpty_of s (by omega)
  have hlt : (0:Int) < s.size := by omega
  have hlt0 : 0 < s.size := by omega
  have hdiv : ((s[0]'(by omega)).toNat : Int) / 64 = 0 := by omega
  have hle : (1:Int) ≤ s.size := by omega
  have hR : Hid (((strOfNums (numI (((s[0]'(by omega)).toNat : Int) % (64 : Int)))).toList == (s.extract 0 1).toList) = true) := hq
  clear hq
  go_enter Tryz.func42, Tryz.ntmps42
  go_wp2
  refine wp_loop_rounds 1 ?_
  rw [rounds_succ]
  go_wp2
  refine wp_loop_rounds 1 ?_
  rw [rounds_succ]
  go_wp2
  go_region_with (go_at_call 20; refine (refNum_any _ _).mono ?_; rintro e w1 ⟨rfl, hb1⟩)
  obtain ⟨hc, hf, hbl, hz⟩ := part_cells hb1
  clear hb1
  rw [hR.out]
  go_wp2
  exact bodyPost_ret (v := .agg #[.int .i64 (((s[0]'(by omega)).toNat : Int) % (64 : Int)), .string ⟨#[]⟩, .string (s.extract 1 s.size), .int .i64 0]) (by simp [results, Tryz.results42, go_sem, hc]) rfl ⟨rfl, (((hbl.setCell (Nat.le_refl _) _).setCell (Nat.le_refl _) _).setCell (Nat.le_refl _) _).setCell (Nat.le_refl _) _⟩

set_option maxRecDepth 100000 in
set_option maxHeartbeats 1000000 in
theorem refGet_1bad (s : ByteArray) (w : World) (hs : s.size ≤ 140737488355328) (h1 : 1 ≤ s.size) (hb0 : (0 : Int) ≤ ((s[0]'(by omega)).toNat : Int)) (hb1 : ((s[0]'(by omega)).toNat : Int) < 64) (hq : ((strOfNums (numI (((s[0]'(by omega)).toNat : Int) % (64 : Int)))).toList == (s.extract 0 1).toList) = false) :
    Calls Tryz.prog 42 #[.string s] w fun e w' => e = .returned (.agg #[.int .i64 0, .string ⟨#[]⟩, .string ⟨#[]⟩, .int .i64 3]) ∧ Below w.heap.size w w' := by
  have hne : s.toList.isEmpty = false := isEmpty_of s (by omega)
  have hlt : (0:Int) < s.size := by omega
  have hlt0 : 0 < s.size := by omega
  have hdiv : ((s[0]'(by omega)).toNat : Int) / 64 = 0 := by omega
  have hle : (1:Int) ≤ s.size := by omega
  have hR : Hid (((strOfNums (numI (((s[0]'(by omega)).toNat : Int) % (64 : Int)))).toList == (s.extract 0 1).toList) = false) := hq
  clear hq
  go_enter Tryz.func42, Tryz.ntmps42
  go_wp2
  refine wp_loop_rounds 1 ?_
  rw [rounds_succ]
  go_wp2
  refine wp_loop_rounds 1 ?_
  rw [rounds_succ]
  go_wp2
  go_region_with (go_at_call 20; refine (refNum_any _ _).mono ?_; rintro e w1 ⟨rfl, hb1⟩)
  obtain ⟨hc, hf, hbl, hz⟩ := part_cells hb1
  clear hb1
  rw [hR.out]
  go_wp2
  exact bodyPost_ret (v := .agg #[.int .i64 0, .string ⟨#[]⟩, .string ⟨#[]⟩, .int .i64 3]) (by simp [results, Tryz.results42, go_sem, hc]) rfl ⟨rfl, (((hbl.setCell (Nat.le_refl _) _).setCell (Nat.le_refl _) _).setCell (Nat.le_refl _) _).setCell (Nat.le_refl _) _⟩

set_option maxRecDepth 100000 in
set_option maxHeartbeats 1000000 in
theorem refGet_2ok (s : ByteArray) (w : World) (hs : s.size ≤ 140737488355328) (h2 : 2 ≤ s.size) (hb0 : (64 : Int) ≤ ((s[0]'(by omega)).toNat : Int)) (hb1 : ((s[0]'(by omega)).toNat : Int) < 128) (hq : ((strOfNums (numI ((256 : Int) * (((s[0]'(by omega)).toNat : Int) % (64 : Int)) + ((s[1]'(by omega)).toNat : Int)))).toList == (s.extract 0 2).toList) = true) :
    Calls Tryz.prog 42 #[.string s] w fun e w' => e = .returned (.agg #[.int .i64 ((256 : Int) * (((s[0]'(by omega)).toNat : Int) % (64 : Int)) + ((s[1]'(by omega)).toNat : Int)), .string ⟨#[]⟩, .string (s.extract 2 s.size), .int .i64 0]) ∧ Below w.heap.size w w' := by
  have hne : s.toList.isEmpty = false := isEmpty_of s (by omega)
  have hlt : (0:Int) < s.size := by omega
  have hlt0 : 0 < s.size := by omega
  have hdiv : ((s[0]'(by omega)).toNat : Int) / 64 = 1 := by omega
  have hle : (2:Int) ≤ s.size := by omega
  have hR : Hid (((strOfNums (numI ((256 : Int) * (((s[0]'(by omega)).toNat : Int) % (64 : Int)) + ((s[1]'(by omega)).toNat : Int)))).toList == (s.extract 0 2).toList) = true) := hq
  clear hq
  have hlt1 : 1 < s.size := by omega
  have hub1 : (((s[1]'(by omega)).toNat : Int)) < 256 := by have := (s[1]'(by omega)).toNat_lt; omega
  go_enter Tryz.func42, Tryz.ntmps42
  go_wp2
  refine wp_loop_rounds 2 ?_
  rw [rounds_succ]
  go_wp2
  rw [rounds_succ]
  go_wp2
  refine wp_loop_rounds 2 ?_
  rw [rounds_succ]
  go_wp2
  rw [rounds_succ]
  go_wp2
  go_region_with (go_at_call 20; refine (refNum_any _ _).mono ?_; rintro e w1 ⟨rfl, hb1⟩)
  obtain ⟨hc, hf, hbl, hz⟩ := part_cells hb1
  clear hb1
  rw [hR.out]
  go_wp2
  exact bodyPost_ret (v := .agg #[.int .i64 ((256 : Int) * (((s[0]'(by omega)).toNat : Int) % (64 : Int)) + ((s[1]'(by omega)).toNat : Int)), .string ⟨#[]⟩, .string (s.extract 2 s.size), .int .i64 0]) (by simp [results, Tryz.results42, go_sem, hc]) rfl ⟨rfl, (((hbl.setCell (Nat.le_refl _) _).setCell (Nat.le_refl _) _).setCell (Nat.le_refl _) _).setCell (Nat.le_refl _) _⟩

set_option maxRecDepth 100000 in
set_option maxHeartbeats 1000000 in
theorem refGet_2bad (s : ByteArray) (w : World) (hs : s.size ≤ 140737488355328) (h2 : 2 ≤ s.size) (hb0 : (64 : Int) ≤ ((s[0]'(by omega)).toNat : Int)) (hb1 : ((s[0]'(by omega)).toNat : Int) < 128) (hq : ((strOfNums (numI ((256 : Int) * (((s[0]'(by omega)).toNat : Int) % (64 : Int)) + ((s[1]'(by omega)).toNat : Int)))).toList == (s.extract 0 2).toList) = false) :
    Calls Tryz.prog 42 #[.string s] w fun e w' => e = .returned (.agg #[.int .i64 0, .string ⟨#[]⟩, .string ⟨#[]⟩, .int .i64 3]) ∧ Below w.heap.size w w' := by
  have hne : s.toList.isEmpty = false := isEmpty_of s (by omega)
  have hlt : (0:Int) < s.size := by omega
  have hlt0 : 0 < s.size := by omega
  have hdiv : ((s[0]'(by omega)).toNat : Int) / 64 = 1 := by omega
  have hle : (2:Int) ≤ s.size := by omega
  have hR : Hid (((strOfNums (numI ((256 : Int) * (((s[0]'(by omega)).toNat : Int) % (64 : Int)) + ((s[1]'(by omega)).toNat : Int)))).toList == (s.extract 0 2).toList) = false) := hq
  clear hq
  have hlt1 : 1 < s.size := by omega
  have hub1 : (((s[1]'(by omega)).toNat : Int)) < 256 := by have := (s[1]'(by omega)).toNat_lt; omega
  go_enter Tryz.func42, Tryz.ntmps42
  go_wp2
  refine wp_loop_rounds 2 ?_
  rw [rounds_succ]
  go_wp2
  rw [rounds_succ]
  go_wp2
  refine wp_loop_rounds 2 ?_
  rw [rounds_succ]
  go_wp2
  rw [rounds_succ]
  go_wp2
  go_region_with (go_at_call 20; refine (refNum_any _ _).mono ?_; rintro e w1 ⟨rfl, hb1⟩)
  obtain ⟨hc, hf, hbl, hz⟩ := part_cells hb1
  clear hb1
  rw [hR.out]
  go_wp2
  exact bodyPost_ret (v := .agg #[.int .i64 0, .string ⟨#[]⟩, .string ⟨#[]⟩, .int .i64 3]) (by simp [results, Tryz.results42, go_sem, hc]) rfl ⟨rfl, (((hbl.setCell (Nat.le_refl _) _).setCell (Nat.le_refl _) _).setCell (Nat.le_refl _) _).setCell (Nat.le_refl _) _⟩

set_option maxRecDepth 100000 in
set_option maxHeartbeats 1000000 in
theorem refGet_2short (s : ByteArray) (w : World) (hs : s.size ≤ 140737488355328) (hp : 0 < s.size) (hsh : s.size < 2) (hb0 : (64 : Int) ≤ ((s[0]'(by omega)).toNat : Int)) (hb1 : ((s[0]'(by omega)).toNat : Int) < 128) :
    Calls Tryz.prog 42 #[.string s] w fun e w' => e = .returned (.agg #[.int .i64 0, .string ⟨#[]⟩, .string ⟨#[]⟩, .int .i64 7]) ∧ Below w.heap.size w w' := by
  have hne : s.toList.isEmpty = false := isEmpty_of s (by omega)
  have hlt : (0:Int) < s.size := by omega
  have hlt0 : 0 < s.size := by omega
  have hdiv : ((s[0]'(by omega)).toNat : Int) / 64 = 1 := by omega
  have hle : (s.size : Int) < 2 := by omega
  go_enter Tryz.func42, Tryz.ntmps42
  go_wp2
  refine wp_loop_rounds 2 ?_
  rw [rounds_succ]
  go_wp2
  rw [rounds_succ]
  go_wp2
  exact bodyPost_ret (v := .agg #[.int .i64 0, .string ⟨#[]⟩, .string ⟨#[]⟩, .int .i64 7]) (by simp [results, Tryz.results42, go_sem]) rfl ⟨rfl, (Below.refl _ _).alloc (Nat.le_refl _) _⟩

set_option maxRecDepth 100000 in
set_option maxHeartbeats 1000000 in
theorem refGet_4ok (s : ByteArray) (w : World) (hs : s.size ≤ 140737488355328) (h4 : 4 ≤ s.size) (hb0 : (128 : Int) ≤ ((s[0]'(by omega)).toNat : Int)) (hb1 : ((s[0]'(by omega)).toNat : Int) < 192) (hq : ((strOfNums (numI ((256 : Int) * ((256 : Int) * ((256 : Int) * (((s[0]'(by omega)).toNat : Int) % (64 : Int)) + ((s[1]'(by omega)).toNat : Int)) + ((s[2]'(by omega)).toNat : Int)) + ((s[3]'(by omega)).toNat : Int)))).toList == (s.extract 0 4).toList) = true) :
    Calls Tryz.prog 42 #[.string s] w fun e w' => e = .returned (.agg #[.int .i64 ((256 : Int) * ((256 : Int) * ((256 : Int) * (((s[0]'(by omega)).toNat : Int) % (64 : Int)) + ((s[1]'(by omega)).toNat : Int)) + ((s[2]'(by omega)).toNat : Int)) + ((s[3]'(by omega)).toNat : Int)), .string ⟨#[]⟩, .string (s.extract 4 s.size), .int .i64 0]) ∧ Below w.heap.size w w' := by
  have hne : s.toList.isEmpty = false := isEmpty_of s (by omega)
  have hlt : (0:Int) < s.size := by omega
  have hlt0 : 0 < s.size := by omega
  have hdiv : ((s[0]'(by omega)).toNat : Int) / 64 = 2 := by omega
  have hle : (4:Int) ≤ s.size := by omega
  have hR : Hid (((strOfNums (numI ((256 : Int) * ((256 : Int) * ((256 : Int) * (((s[0]'(by omega)).toNat : Int) % (64 : Int)) + ((s[1]'(by omega)).toNat : Int)) + ((s[2]'(by omega)).toNat : Int)) + ((s[3]'(by omega)).toNat : Int)))).toList == (s.extract 0 4).toList) = true) := hq
  clear hq
  have hlt1 : 1 < s.size := by omega
  have hub1 : (((s[1]'(by omega)).toNat : Int)) < 256 := by have := (s[1]'(by omega)).toNat_lt; omega
  have hlt2 : 2 < s.size := by omega
  have hub2 : (((s[2]'(by omega)).toNat : Int)) < 256 := by have := (s[2]'(by omega)).toNat_lt; omega
  have hlt3 : 3 < s.size := by omega
  have hub3 : (((s[3]'(by omega)).toNat : Int)) < 256 := by have := (s[3]'(by omega)).toNat_lt; omega
  go_enter Tryz.func42, Tryz.ntmps42
  go_wp2
  refine wp_loop_rounds 3 ?_
  rw [rounds_succ]
  go_wp2
  rw [rounds_succ]
  go_wp2
  rw [rounds_succ]
  go_wp2
  refine wp_loop_rounds 4 ?_
  rw [rounds_succ]
  go_wp2
  rw [rounds_succ]
  go_wp2
  rw [rounds_succ]
  go_wp2
  rw [rounds_succ]
  go_wp2
  go_region_with (go_at_call 20; refine (refNum_any _ _).mono ?_; rintro e w1 ⟨rfl, hb1⟩)
  obtain ⟨hc, hf, hbl, hz⟩ := part_cells hb1
  clear hb1
  rw [hR.out]
  go_wp2
  exact bodyPost_ret (v := .agg #[.int .i64 ((256 : Int) * ((256 : Int) * ((256 : Int) * (((s[0]'(by omega)).toNat : Int) % (64 : Int)) + ((s[1]'(by omega)).toNat : Int)) + ((s[2]'(by omega)).toNat : Int)) + ((s[3]'(by omega)).toNat : Int)), .string ⟨#[]⟩, .string (s.extract 4 s.size), .int .i64 0]) (by simp [results, Tryz.results42, go_sem, hc]) rfl ⟨rfl, (((hbl.setCell (Nat.le_refl _) _).setCell (Nat.le_refl _) _).setCell (Nat.le_refl _) _).setCell (Nat.le_refl _) _⟩

set_option maxRecDepth 100000 in
set_option maxHeartbeats 1000000 in
theorem refGet_4bad (s : ByteArray) (w : World) (hs : s.size ≤ 140737488355328) (h4 : 4 ≤ s.size) (hb0 : (128 : Int) ≤ ((s[0]'(by omega)).toNat : Int)) (hb1 : ((s[0]'(by omega)).toNat : Int) < 192) (hq : ((strOfNums (numI ((256 : Int) * ((256 : Int) * ((256 : Int) * (((s[0]'(by omega)).toNat : Int) % (64 : Int)) + ((s[1]'(by omega)).toNat : Int)) + ((s[2]'(by omega)).toNat : Int)) + ((s[3]'(by omega)).toNat : Int)))).toList == (s.extract 0 4).toList) = false) :
    Calls Tryz.prog 42 #[.string s] w fun e w' => e = .returned (.agg #[.int .i64 0, .string ⟨#[]⟩, .string ⟨#[]⟩, .int .i64 3]) ∧ Below w.heap.size w w' := by
  have hne : s.toList.isEmpty = false := isEmpty_of s (by omega)
  have hlt : (0:Int) < s.size := by omega
  have hlt0 : 0 < s.size := by omega
  have hdiv : ((s[0]'(by omega)).toNat : Int) / 64 = 2 := by omega
  have hle : (4:Int) ≤ s.size := by omega
  have hR : Hid (((strOfNums (numI ((256 : Int) * ((256 : Int) * ((256 : Int) * (((s[0]'(by omega)).toNat : Int) % (64 : Int)) + ((s[1]'(by omega)).toNat : Int)) + ((s[2]'(by omega)).toNat : Int)) + ((s[3]'(by omega)).toNat : Int)))).toList == (s.extract 0 4).toList) = false) := hq
  clear hq
  have hlt1 : 1 < s.size := by omega
  have hub1 : (((s[1]'(by omega)).toNat : Int)) < 256 := by have := (s[1]'(by omega)).toNat_lt; omega
  have hlt2 : 2 < s.size := by omega
  have hub2 : (((s[2]'(by omega)).toNat : Int)) < 256 := by have := (s[2]'(by omega)).toNat_lt; omega
  have hlt3 : 3 < s.size := by omega
  have hub3 : (((s[3]'(by omega)).toNat : Int)) < 256 := by have := (s[3]'(by omega)).toNat_lt; omega
  go_enter Tryz.func42, Tryz.ntmps42
  go_wp2
  refine wp_loop_rounds 3 ?_
  rw [rounds_succ]
  go_wp2
  rw [rounds_succ]
  go_wp2
  rw [rounds_succ]
  go_wp2
  refine wp_loop_rounds 4 ?_
  rw [rounds_succ]
  go_wp2
  rw [rounds_succ]
  go_wp2
  rw [rounds_succ]
  go_wp2
  rw [rounds_succ]
  go_wp2
  go_region_with (go_at_call 20; refine (refNum_any _ _).mono ?_; rintro e w1 ⟨rfl, hb1⟩)
  obtain ⟨hc, hf, hbl, hz⟩ := part_cells hb1
  clear hb1
  rw [hR.out]
  go_wp2
  exact bodyPost_ret (v := .agg #[.int .i64 0, .string ⟨#[]⟩, .string ⟨#[]⟩, .int .i64 3]) (by simp [results, Tryz.results42, go_sem, hc]) rfl ⟨rfl, (((hbl.setCell (Nat.le_refl _) _).setCell (Nat.le_refl _) _).setCell (Nat.le_refl _) _).setCell (Nat.le_refl _) _⟩

set_option maxRecDepth 100000 in
set_option maxHeartbeats 1000000 in
theorem refGet_4short (s : ByteArray) (w : World) (hs : s.size ≤ 140737488355328) (hp : 0 < s.size) (hsh : s.size < 4) (hb0 : (128 : Int) ≤ ((s[0]'(by omega)).toNat : Int)) (hb1 : ((s[0]'(by omega)).toNat : Int) < 192) :
    Calls Tryz.prog 42 #[.string s] w fun e w' => e = .returned (.agg #[.int .i64 0, .string ⟨#[]⟩, .string ⟨#[]⟩, .int .i64 7]) ∧ Below w.heap.size w w' := by
  have hne : s.toList.isEmpty = false := isEmpty_of s (by omega)
  have hlt : (0:Int) < s.size := by omega
  have hlt0 : 0 < s.size := by omega
  have hdiv : ((s[0]'(by omega)).toNat : Int) / 64 = 2 := by omega
  have hle : (s.size : Int) < 4 := by omega
  go_enter Tryz.func42, Tryz.ntmps42
  go_wp2
  refine wp_loop_rounds 3 ?_
  rw [rounds_succ]
  go_wp2
  rw [rounds_succ]
  go_wp2
  rw [rounds_succ]
  go_wp2
  exact bodyPost_ret (v := .agg #[.int .i64 0, .string ⟨#[]⟩, .string ⟨#[]⟩, .int .i64 7]) (by simp [results, Tryz.results42, go_sem]) rfl ⟨rfl, (Below.refl _ _).alloc (Nat.le_refl _) _⟩

set_option maxRecDepth 100000 in
set_option maxHeartbeats 1000000 in
theorem refGet_8ok (s : ByteArray) (w : World) (hs : s.size ≤ 140737488355328) (h8 : 8 ≤ s.size) (hb0 : (192 : Int) ≤ ((s[0]'(by omega)).toNat : Int)) (hb1 : ((s[0]'(by omega)).toNat : Int) < 256) (hq : ((strOfNums (numI ((256 : Int) * ((256 : Int) * ((256 : Int) * ((256 : Int) * ((256 : Int) * ((256 : Int) * ((256 : Int) * (((s[0]'(by omega)).toNat : Int) % (64 : Int)) + ((s[1]'(by omega)).toNat : Int)) + ((s[2]'(by omega)).toNat : Int)) + ((s[3]'(by omega)).toNat : Int)) + ((s[4]'(by omega)).toNat : Int)) + ((s[5]'(by omega)).toNat : Int)) + ((s[6]'(by omega)).toNat : Int)) + ((s[7]'(by omega)).toNat : Int)))).toList == (s.extract 0 8).toList) = true) :
    Calls Tryz.prog 42 #[.string s] w fun e w' => e = .returned (.agg #[.int .i64 ((256 : Int) * ((256 : Int) * ((256 : Int) * ((256 : Int) * ((256 : Int) * ((256 : Int) * ((256 : Int) * (((s[0]'(by omega)).toNat : Int) % (64 : Int)) + ((s[1]'(by omega)).toNat : Int)) + ((s[2]'(by omega)).toNat : Int)) + ((s[3]'(by omega)).toNat : Int)) + ((s[4]'(by omega)).toNat : Int)) + ((s[5]'(by omega)).toNat : Int)) + ((s[6]'(by omega)).toNat : Int)) + ((s[7]'(by omega)).toNat : Int)), .string ⟨#[]⟩, .string (s.extract 8 s.size), .int .i64 0]) ∧ Below w.heap.size w w' := by
  have hne : s.toList.isEmpty = false := isEmpty_of s (by omega)
  have hlt : (0:Int) < s.size := by omega
  have hlt0 : 0 < s.size := by omega
  have hdiv : ((s[0]'(by omega)).toNat : Int) / 64 = 3 := by omega
  have hle : (8:Int) ≤ s.size := by omega
  have hR : Hid (((strOfNums (numI ((256 : Int) * ((256 : Int) * ((256 : Int) * ((256 : Int) * ((256 : Int) * ((256 : Int) * ((256 : Int) * (((s[0]'(by omega)).toNat : Int) % (64 : Int)) + ((s[1]'(by omega)).toNat : Int)) + ((s[2]'(by omega)).toNat : Int)) + ((s[3]'(by omega)).toNat : Int)) + ((s[4]'(by omega)).toNat : Int)) + ((s[5]'(by omega)).toNat : Int)) + ((s[6]'(by omega)).toNat : Int)) + ((s[7]'(by omega)).toNat : Int)))).toList == (s.extract 0 8).toList) = true) := hq
  clear hq
  have hlt1 : 1 < s.size := by omega
  have hub1 : (((s[1]'(by omega)).toNat : Int)) < 256 := by have := (s[1]'(by omega)).toNat_lt; omega
  have hlt2 : 2 < s.size := by omega
  have hub2 : (((s[2]'(by omega)).toNat : Int)) < 256 := by have := (s[2]'(by omega)).toNat_lt; omega
  have hlt3 : 3 < s.size := by omega
  have hub3 : (((s[3]'(by omega)).toNat : Int)) < 256 := by have := (s[3]'(by omega)).toNat_lt; omega
  have hlt4 : 4 < s.size := by omega
  have hub4 : (((s[4]'(by omega)).toNat : Int)) < 256 := by have := (s[4]'(by omega)).toNat_lt; omega
  have hlt5 : 5 < s.size := by omega
  have hub5 : (((s[5]'(by omega)).toNat : Int)) < 256 := by have := (s[5]'(by omega)).toNat_lt; omega
  have hlt6 : 6 < s.size := by omega
  have hub6 : (((s[6]'(by omega)).toNat : Int)) < 256 := by have := (s[6]'(by omega)).toNat_lt; omega
  have hlt7 : 7 < s.size := by omega
  have hub7 : (((s[7]'(by omega)).toNat : Int)) < 256 := by have := (s[7]'(by omega)).toNat_lt; omega
  go_enter Tryz.func42, Tryz.ntmps42
  go_wp2
  refine wp_loop_rounds 4 ?_
  rw [rounds_succ]
  go_wp2
  rw [rounds_succ]
  go_wp2
  rw [rounds_succ]
  go_wp2
  rw [rounds_succ]
  go_wp2
  refine wp_loop_rounds 8 ?_
  rw [rounds_succ]
  go_wp2
  rw [rounds_succ]
  go_wp2
  rw [rounds_succ]
  go_wp2
  rw [rounds_succ]
  go_wp2
  rw [rounds_succ]
  go_wp2
  rw [rounds_succ]
  go_wp2
  rw [rounds_succ]
  go_wp2
  rw [rounds_succ]
  go_wp2
  go_region_with (go_at_call 20; refine (refNum_any _ _).mono ?_; rintro e w1 ⟨rfl, hb1⟩)
  obtain ⟨hc, hf, hbl, hz⟩ := part_cells hb1
  clear hb1
  rw [hR.out]
  go_wp2
  exact bodyPost_ret (v := .agg #[.int .i64 ((256 : Int) * ((256 : Int) * ((256 : Int) * ((256 : Int) * ((256 : Int) * ((256 : Int) * ((256 : Int) * (((s[0]'(by omega)).toNat : Int) % (64 : Int)) + ((s[1]'(by omega)).toNat : Int)) + ((s[2]'(by omega)).toNat : Int)) + ((s[3]'(by omega)).toNat : Int)) + ((s[4]'(by omega)).toNat : Int)) + ((s[5]'(by omega)).toNat : Int)) + ((s[6]'(by omega)).toNat : Int)) + ((s[7]'(by omega)).toNat : Int)), .string ⟨#[]⟩, .string (s.extract 8 s.size), .int .i64 0]) (by simp [results, Tryz.results42, go_sem, hc]) rfl ⟨rfl, (((hbl.setCell (Nat.le_refl _) _).setCell (Nat.le_refl _) _).setCell (Nat.le_refl _) _).setCell (Nat.le_refl _) _⟩

set_option maxRecDepth 100000 in
set_option maxHeartbeats 1000000 in
theorem refGet_8bad (s : ByteArray) (w : World) (hs : s.size ≤ 140737488355328) (h8 : 8 ≤ s.size) (hb0 : (192 : Int) ≤ ((s[0]'(by omega)).toNat : Int)) (hb1 : ((s[0]'(by omega)).toNat : Int) < 256) (hq : ((strOfNums (numI ((256 : Int) * ((256 : Int) * ((256 : Int) * ((256 : Int) * ((256 : Int) * ((256 : Int) * ((256 : Int) * (((s[0]'(by omega)).toNat : Int) % (64 : Int)) + ((s[1]'(by omega)).toNat : Int)) + ((s[2]'(by omega)).toNat : Int)) + ((s[3]'(by omega)).toNat : Int)) + ((s[4]'(by omega)).toNat : Int)) + ((s[5]'(by omega)).toNat : Int)) + ((s[6]'(by omega)).toNat : Int)) + ((s[7]'(by omega)).toNat : Int)))).toList == (s.extract 0 8).toList) = false) :
    Calls Tryz.prog 42 #[.string s] w fun e w' => e = .returned (.agg #[.int .i64 0, .string ⟨#[]⟩, .string ⟨#[]⟩, .int .i64 3]) ∧ Below w.heap.size w w' := by
  have hne : s.toList.isEmpty = false := isEmpty_of s (by omega)
  have hlt : (0:Int) < s.size := by omega
  have hlt0 : 0 < s.size := by omega
  have hdiv : ((s[0]'(by omega)).toNat : Int) / 64 = 3 := by omega
  have hle : (8:Int) ≤ s.size := by omega
  have hR : Hid (((strOfNums (numI ((256 : Int) * ((256 : Int) * ((256 : Int) * ((256 : Int) * ((256 : Int) * ((256 : Int) * ((256 : Int) * (((s[0]'(by omega)).toNat : Int) % (64 : Int)) + ((s[1]'(by omega)).toNat : Int)) + ((s[2]'(by omega)).toNat : Int)) + ((s[3]'(by omega)).toNat : Int)) + ((s[4]'(by omega)).toNat : Int)) + ((s[5]'(by omega)).toNat : Int)) + ((s[6]'(by omega)).toNat : Int)) + ((s[7]'(by omega)).toNat : Int)))).toList == (s.extract 0 8).toList) = false) := hq
  clear hq
  have hlt1 : 1 < s.size := by omega
  have hub1 : (((s[1]'(by omega)).toNat : Int)) < 256 := by have := (s[1]'(by omega)).toNat_lt; omega
  have hlt2 : 2 < s.size := by omega
  have hub2 : (((s[2]'(by omega)).toNat : Int)) < 256 := by have := (s[2]'(by omega)).toNat_lt; omega
  have hlt3 : 3 < s.size := by omega
  have hub3 : (((s[3]'(by omega)).toNat : Int)) < 256 := by have := (s[3]'(by omega)).toNat_lt; omega
  have hlt4 : 4 < s.size := by omega
  have hub4 : (((s[4]'(by omega)).toNat : Int)) < 256 := by have := (s[4]'(by omega)).toNat_lt; omega
  have hlt5 : 5 < s.size := by omega
  have hub5 : (((s[5]'(by omega)).toNat : Int)) < 256 := by have := (s[5]'(by omega)).toNat_lt; omega
  have hlt6 : 6 < s.size := by omega
  have hub6 : (((s[6]'(by omega)).toNat : Int)) < 256 := by have := (s[6]'(by omega)).toNat_lt; omega
  have hlt7 : 7 < s.size := by omega
  have hub7 : (((s[7]'(by omega)).toNat : Int)) < 256 := by have := (s[7]'(by omega)).toNat_lt; omega
  go_enter Tryz.func42, Tryz.ntmps42
  go_wp2
  refine wp_loop_rounds 4 ?_
  rw [rounds_succ]
  go_wp2
  rw [rounds_succ]
  go_wp2
  rw [rounds_succ]
  go_wp2
  rw [rounds_succ]
  go_wp2
  refine wp_loop_rounds 8 ?_
  rw [rounds_succ]
  go_wp2
  rw [rounds_succ]
  go_wp2
  rw [rounds_succ]
  go_wp2
  rw [rounds_succ]
  go_wp2
  rw [rounds_succ]
  go_wp2
  rw [rounds_succ]
  go_wp2
  rw [rounds_succ]
  go_wp2
  rw [rounds_succ]
  go_wp2
  go_region_with (go_at_call 20; refine (refNum_any _ _).mono ?_; rintro e w1 ⟨rfl, hb1⟩)
  obtain ⟨hc, hf, hbl, hz⟩ := part_cells hb1
  clear hb1
  rw [hR.out]
  go_wp2
  exact bodyPost_ret (v := .agg #[.int .i64 0, .string ⟨#[]⟩, .string ⟨#[]⟩, .int .i64 3]) (by simp [results, Tryz.results42, go_sem, hc]) rfl ⟨rfl, (((hbl.setCell (Nat.le_refl _) _).setCell (Nat.le_refl _) _).setCell (Nat.le_refl _) _).setCell (Nat.le_refl _) _⟩

set_option maxRecDepth 100000 in
set_option maxHeartbeats 1000000 in
theorem refGet_8short (s : ByteArray) (w : World) (hs : s.size ≤ 140737488355328) (hp : 0 < s.size) (hsh : s.size < 8) (hb0 : (192 : Int) ≤ ((s[0]'(by omega)).toNat : Int)) (hb1 : ((s[0]'(by omega)).toNat : Int) < 256) :
    Calls Tryz.prog 42 #[.string s] w fun e w' => e = .returned (.agg #[.int .i64 0, .string ⟨#[]⟩, .string ⟨#[]⟩, .int .i64 7]) ∧ Below w.heap.size w w' := by
  have hne : s.toList.isEmpty = false := isEmpty_of s (by omega)
  have hlt : (0:Int) < s.size := by omega
  have hlt0 : 0 < s.size := by omega
  have hdiv : ((s[0]'(by omega)).toNat : Int) / 64 = 3 := by omega
  have hle : (s.size : Int) < 8 := by omega
  go_enter Tryz.func42, Tryz.ntmps42
  go_wp2
  refine wp_loop_rounds 4 ?_
  rw [rounds_succ]
  go_wp2
  rw [rounds_succ]
  go_wp2
  rw [rounds_succ]
  go_wp2
  rw [rounds_succ]
  go_wp2
  exact bodyPost_ret (v := .agg #[.int .i64 0, .string ⟨#[]⟩, .string ⟨#[]⟩, .int .i64 7]) (by simp [results, Tryz.results42, go_sem]) rfl ⟨rfl, (Below.refl _ _).alloc (Nat.le_refl _) _⟩

set_option maxHeartbeats 400000 in
theorem refGet_none (s : ByteArray) (w : World) (h : s.size = 0) :
    Calls Tryz.prog 42 #[.string s] w fun e w' => e = .returned (.agg #[.int .i64 0, .string ⟨#[]⟩, .string ⟨#[]⟩, .int .i64 7]) ∧ Below w.heap.size w w' := by
  have hne : s.toList.isEmpty = true := isEmpty_to s h
  go_enter Tryz.func42, Tryz.ntmps42
  go_wp2
  exact bodyPost_ret (v := .agg #[.int .i64 0, .string ⟨#[]⟩, .string ⟨#[]⟩, .int .i64 7]) (by simp [results, Tryz.results42, go_sem]) rfl ⟨rfl, (Below.refl _ _).alloc (Nat.le_refl _) _⟩
end Go.Proofs.YtoplpohpodkpdaaGreatDoor.Q
/- Plain mathematics: the bytes of a number stand at the front of bytes just if its form is the shortest one. -/
namespace Go.Proofs.YtoplpohpodkpdaaGreatDoor.Q
open Go.RowKit

theorem toList_strOfNums (xs : List Int) : (strOfNums xs).toList = xs.map fun n => UInt8.ofNat n.toNat := by rw [toList_eq]; exact strOfNums_data xs
theorem numI_len (n : Int) : (numI n).length = (qsize n).toNat := by
  unfold numI qsize
  (repeat' split) <;> rfl
theorem take_bt (s : ByteArray) (k : Nat) (h : k ≤ s.size) : s.data.toList.take k = (List.range k).map fun i => UInt8.ofNat (bt s i).toNat := by
  apply List.ext_getElem
  · simp; omega
  · intro i h1 h2
    have hi : i < s.size := by simp at h1; omega
    simp only [List.getElem_take, List.getElem_map, List.getElem_range]
    rw [← bt_eq hi]
    simp
    rfl
theorem extract_front (s : ByteArray) (k : Nat) : (s.extract 0 k).toList = s.data.toList.take k := by
  rw [toList_eq]
  simp [ByteArray.data_extract]

theorem cons_eq {a b : Int} {l m : List UInt8} (h : a = b) (h' : l = m) : UInt8.ofNat a.toNat :: l = UInt8.ofNat b.toNat :: m := by rw [h, h']

theorem num_front (s : ByteArray) (h : gsz s ≤ s.size) : ((strOfNums (numI (gval s))).toList == (s.extract 0 (gsz s)).toList) = decide (qsize (gval s) = gsz s) := by
  have r0 := bt_rng s 0
  have r1 := bt_rng s 1
  have r2 := bt_rng s 2
  have r3 := bt_rng s 3
  have r4 := bt_rng s 4
  have r5 := bt_rng s 5
  have r6 := bt_rng s 6
  have r7 := bt_rng s 7
  rw [toList_strOfNums, extract_front, take_bt s _ h]
  by_cases hq : qsize (gval s) = gsz s
  · rw [decide_eq_true hq, beq_iff_eq]
    by_cases c1 : bt s 0 < 64
    · have g1 : gsz s = 1 := by unfold gsz; rw [if_pos (by omega)]
      have g2 : gval s = bt s 0 % 64 := by unfold gval; rw [if_pos (by omega)]
      rw [g1] at hq ⊢
      have hlo : 0 ≤ gval s ∧ gval s < 64 := by
        unfold qsize at hq
        repeat' split at hq
        all_goals omega
      rw [numI_1 hlo.1 hlo.2]
      generalize gval s = V at *
      clear hq hlo h
      subst g2
      simp only [List.map_cons, List.map_nil, show List.range 1 = [0] from rfl]
      repeat (refine cons_eq (by omega) ?_)
      rfl
    by_cases c2 : bt s 0 < 128
    · have g1 : gsz s = 2 := by unfold gsz; rw [if_neg (by omega), if_pos (by omega)]
      have g2 : gval s = (bt s 0 % 64) * 256 + bt s 1 := by unfold gval; rw [if_neg (by omega), if_pos (by omega)]
      rw [g1] at hq ⊢
      have hlo : 64 ≤ gval s ∧ gval s < 16384 := by
        unfold qsize at hq
        repeat' split at hq
        all_goals omega
      rw [numI_2 hlo.1 hlo.2]
      generalize gval s = V at *
      clear hq hlo h
      subst g2
      simp only [List.map_cons, List.map_nil, show List.range 2 = [0, 1] from rfl]
      repeat (refine cons_eq (by omega) ?_)
      rfl
    by_cases c4 : bt s 0 < 192
    · have g1 : gsz s = 4 := by unfold gsz; rw [if_neg (by omega), if_neg (by omega), if_pos (by omega)]
      have g2 : gval s = (((bt s 0 % 64) * 256 + bt s 1) * 256 + bt s 2) * 256 + bt s 3 := by unfold gval; rw [if_neg (by omega), if_neg (by omega), if_pos (by omega)]
      rw [g1] at hq ⊢
      have hlo : 16384 ≤ gval s ∧ gval s < 1073741824 := by
        unfold qsize at hq
        repeat' split at hq
        all_goals omega
      rw [numI_4 hlo.1 hlo.2]
      generalize gval s = V at *
      clear hq hlo h
      subst g2
      simp only [List.map_cons, List.map_nil, show List.range 4 = [0, 1, 2, 3] from rfl]
      repeat (refine cons_eq (by omega) ?_)
      rfl
    · have g1 : gsz s = 8 := by unfold gsz; rw [if_neg (by omega), if_neg (by omega), if_neg (by omega)]
      have g2 : gval s = (((((((bt s 0 % 64) * 256 + bt s 1) * 256 + bt s 2) * 256 + bt s 3) * 256 + bt s 4) * 256 + bt s 5) * 256 + bt s 6) * 256 + bt s 7 := by unfold gval; rw [if_neg (by omega), if_neg (by omega), if_neg (by omega)]
      rw [g1] at hq ⊢
      have hlo : 1073741824 ≤ gval s ∧ gval s ≤ 4611686018427387903 := by
        unfold qsize at hq
        repeat' split at hq
        all_goals omega
      rw [numI_8 hlo.1 hlo.2]
      generalize gval s = V at *
      clear hq hlo h
      subst g2
      simp only [List.map_cons, List.map_nil, show List.range 8 = [0, 1, 2, 3, 4, 5, 6, 7] from rfl]
      repeat (refine cons_eq (by omega) ?_)
      rfl
  · rw [decide_eq_false hq, beq_eq_false_iff_ne]
    intro e
    have := congrArg List.length e
    simp only [List.length_map, numI_len, List.length_range] at this
    have h0 : 0 ≤ qsize (gval s) := by unfold qsize; (repeat' split) <;> omega
    omega

end Go.Proofs.YtoplpohpodkpdaaGreatDoor.Q
/- The reference's Get at every text. -/
namespace Go.Proofs.YtoplpohpodkpdaaGreatDoor.Q
open Go.RowKit


/-- The reference's Get, at every text. -/
theorem refGet_any (s : ByteArray) (w : World) (hs : s.size ≤ 140737488355328) :
    Calls Tryz.prog 42 #[.string s] w fun e w' => e = .returned (.agg #[.int .i64 (getV s), .string ⟨#[]⟩, .string (getRest s), .int .i64 (getE s)]) ∧ Below w.heap.size w w' := by
  by_cases h0 : s.size = 0
  · have e1 : getE s = 7 := by unfold getE; rw [if_pos (by have := gsz_pos s; omega)]
    have e2 : getV s = 0 := by unfold getV; rw [if_neg (by omega)]
    have e3 : getRest s = ⟨#[]⟩ := by unfold getRest; rw [if_neg (by omega)]
    rw [e1, e2, e3]
    exact refGet_none s w h0
  have hb := bt_rng s 0
  have hb0 := bt_eq (s := s) (i := 0) (by omega)
  by_cases c1 : bt s 0 < 64
  · have g1 : gsz s = 1 := by unfold gsz; rw [if_pos (by omega)]
    have g2 : gval s = bt s 0 % 64 := by unfold gval; rw [if_pos (by omega)]; skip
    have hlen : 1 ≤ s.size := by omega
    have hf := num_front s (by omega)
    rw [g1] at hf
    by_cases hq : qsize (gval s) = 1
    · have e1 : getE s = 0 := by unfold getE; rw [g1, if_neg (by omega), if_pos (by exact_mod_cast hq)]
      have e2 : getV s = gval s := by unfold getV; rw [if_pos e1]
      have e3 : getRest s = s.extract 1 s.size := by unfold getRest; rw [if_pos e1, g1]
      rw [e1, e2, e3]
      rw [decide_eq_true (by exact_mod_cast hq)] at hf
      rw [g2, ← bt_eq (s := s) (i := 0) (by omega)] at hf ⊢
      exact refGet_1ok s w hs (by omega) (by omega) (by omega) hf
    · have e1 : getE s = 3 := by unfold getE; rw [g1, if_neg (by omega), if_neg (by exact_mod_cast hq)]
      have e2 : getV s = 0 := by unfold getV; rw [if_neg (by omega)]
      have e3 : getRest s = ⟨#[]⟩ := by unfold getRest; rw [if_neg (by omega)]
      rw [e1, e2, e3]
      rw [decide_eq_false (by exact_mod_cast hq)] at hf
      rw [g2, ← bt_eq (s := s) (i := 0) (by omega)] at hf
      exact refGet_1bad s w hs (by omega) (by omega) (by omega) hf
  by_cases c2 : bt s 0 < 128
  · have g1 : gsz s = 2 := by unfold gsz; rw [if_neg (by omega), if_pos (by omega)]
    have g2 : gval s = 256 * (bt s 0 % 64) + bt s 1 := by unfold gval; rw [if_neg (by omega), if_pos (by omega)]; omega
    by_cases hlen : s.size < 2
    · have e1 : getE s = 7 := by unfold getE; rw [g1, if_pos (by omega)]
      have e2 : getV s = 0 := by unfold getV; rw [if_neg (by omega)]
      have e3 : getRest s = ⟨#[]⟩ := by unfold getRest; rw [if_neg (by omega)]
      rw [e1, e2, e3]
      exact refGet_2short s w hs (by omega) hlen (by omega) (by omega)
    have hf := num_front s (by omega)
    rw [g1] at hf
    by_cases hq : qsize (gval s) = 2
    · have e1 : getE s = 0 := by unfold getE; rw [g1, if_neg (by omega), if_pos (by exact_mod_cast hq)]
      have e2 : getV s = gval s := by unfold getV; rw [if_pos e1]
      have e3 : getRest s = s.extract 2 s.size := by unfold getRest; rw [if_pos e1, g1]
      rw [e1, e2, e3]
      rw [decide_eq_true (by exact_mod_cast hq)] at hf
      rw [g2, ← bt_eq (s := s) (i := 0) (by omega), ← bt_eq (s := s) (i := 1) (by omega)] at hf ⊢
      exact refGet_2ok s w hs (by omega) (by omega) (by omega) hf
    · have e1 : getE s = 3 := by unfold getE; rw [g1, if_neg (by omega), if_neg (by exact_mod_cast hq)]
      have e2 : getV s = 0 := by unfold getV; rw [if_neg (by omega)]
      have e3 : getRest s = ⟨#[]⟩ := by unfold getRest; rw [if_neg (by omega)]
      rw [e1, e2, e3]
      rw [decide_eq_false (by exact_mod_cast hq)] at hf
      rw [g2, ← bt_eq (s := s) (i := 0) (by omega), ← bt_eq (s := s) (i := 1) (by omega)] at hf
      exact refGet_2bad s w hs (by omega) (by omega) (by omega) hf
  by_cases c4 : bt s 0 < 192
  · have g1 : gsz s = 4 := by unfold gsz; rw [if_neg (by omega), if_neg (by omega), if_pos (by omega)]
    have g2 : gval s = 256 * (256 * (256 * (bt s 0 % 64) + bt s 1) + bt s 2) + bt s 3 := by unfold gval; rw [if_neg (by omega), if_neg (by omega), if_pos (by omega)]; omega
    by_cases hlen : s.size < 4
    · have e1 : getE s = 7 := by unfold getE; rw [g1, if_pos (by omega)]
      have e2 : getV s = 0 := by unfold getV; rw [if_neg (by omega)]
      have e3 : getRest s = ⟨#[]⟩ := by unfold getRest; rw [if_neg (by omega)]
      rw [e1, e2, e3]
      exact refGet_4short s w hs (by omega) hlen (by omega) (by omega)
    have hf := num_front s (by omega)
    rw [g1] at hf
    by_cases hq : qsize (gval s) = 4
    · have e1 : getE s = 0 := by unfold getE; rw [g1, if_neg (by omega), if_pos (by exact_mod_cast hq)]
      have e2 : getV s = gval s := by unfold getV; rw [if_pos e1]
      have e3 : getRest s = s.extract 4 s.size := by unfold getRest; rw [if_pos e1, g1]
      rw [e1, e2, e3]
      rw [decide_eq_true (by exact_mod_cast hq)] at hf
      rw [g2, ← bt_eq (s := s) (i := 0) (by omega), ← bt_eq (s := s) (i := 1) (by omega), ← bt_eq (s := s) (i := 2) (by omega), ← bt_eq (s := s) (i := 3) (by omega)] at hf ⊢
      exact refGet_4ok s w hs (by omega) (by omega) (by omega) hf
    · have e1 : getE s = 3 := by unfold getE; rw [g1, if_neg (by omega), if_neg (by exact_mod_cast hq)]
      have e2 : getV s = 0 := by unfold getV; rw [if_neg (by omega)]
      have e3 : getRest s = ⟨#[]⟩ := by unfold getRest; rw [if_neg (by omega)]
      rw [e1, e2, e3]
      rw [decide_eq_false (by exact_mod_cast hq)] at hf
      rw [g2, ← bt_eq (s := s) (i := 0) (by omega), ← bt_eq (s := s) (i := 1) (by omega), ← bt_eq (s := s) (i := 2) (by omega), ← bt_eq (s := s) (i := 3) (by omega)] at hf
      exact refGet_4bad s w hs (by omega) (by omega) (by omega) hf
  · have g1 : gsz s = 8 := by unfold gsz; rw [if_neg (by omega), if_neg (by omega), if_neg (by omega)]
    have g2 : gval s = 256 * (256 * (256 * (256 * (256 * (256 * (256 * (bt s 0 % 64) + bt s 1) + bt s 2) + bt s 3) + bt s 4) + bt s 5) + bt s 6) + bt s 7 := by unfold gval; rw [if_neg (by omega), if_neg (by omega), if_neg (by omega)]; omega
    by_cases hlen : s.size < 8
    · have e1 : getE s = 7 := by unfold getE; rw [g1, if_pos (by omega)]
      have e2 : getV s = 0 := by unfold getV; rw [if_neg (by omega)]
      have e3 : getRest s = ⟨#[]⟩ := by unfold getRest; rw [if_neg (by omega)]
      rw [e1, e2, e3]
      exact refGet_8short s w hs (by omega) hlen (by omega) (by omega)
    have hf := num_front s (by omega)
    rw [g1] at hf
    by_cases hq : qsize (gval s) = 8
    · have e1 : getE s = 0 := by unfold getE; rw [g1, if_neg (by omega), if_pos (by exact_mod_cast hq)]
      have e2 : getV s = gval s := by unfold getV; rw [if_pos e1]
      have e3 : getRest s = s.extract 8 s.size := by unfold getRest; rw [if_pos e1, g1]
      rw [e1, e2, e3]
      rw [decide_eq_true (by exact_mod_cast hq)] at hf
      rw [g2, ← bt_eq (s := s) (i := 0) (by omega), ← bt_eq (s := s) (i := 1) (by omega), ← bt_eq (s := s) (i := 2) (by omega), ← bt_eq (s := s) (i := 3) (by omega), ← bt_eq (s := s) (i := 4) (by omega), ← bt_eq (s := s) (i := 5) (by omega), ← bt_eq (s := s) (i := 6) (by omega), ← bt_eq (s := s) (i := 7) (by omega)] at hf ⊢
      exact refGet_8ok s w hs (by omega) (by omega) (by omega) hf
    · have e1 : getE s = 3 := by unfold getE; rw [g1, if_neg (by omega), if_neg (by exact_mod_cast hq)]
      have e2 : getV s = 0 := by unfold getV; rw [if_neg (by omega)]
      have e3 : getRest s = ⟨#[]⟩ := by unfold getRest; rw [if_neg (by omega)]
      rw [e1, e2, e3]
      rw [decide_eq_false (by exact_mod_cast hq)] at hf
      rw [g2, ← bt_eq (s := s) (i := 0) (by omega), ← bt_eq (s := s) (i := 1) (by omega), ← bt_eq (s := s) (i := 2) (by omega), ← bt_eq (s := s) (i := 3) (by omega), ← bt_eq (s := s) (i := 4) (by omega), ← bt_eq (s := s) (i := 5) (by omega), ← bt_eq (s := s) (i := 6) (by omega), ← bt_eq (s := s) (i := 7) (by omega)] at hf
      exact refGet_8bad s w hs (by omega) (by omega) (by omega) hf
end Go.Proofs.YtoplpohpodkpdaaGreatDoor.Q
/- The reference's Text: a text at the front of bytes. -/
namespace Go.Proofs.YtoplpohpodkpdaaGreatDoor.Q
open Go.RowKit

theorem get_err {s : ByteArray} (h : ¬ getE s = 0) : getV s = 0 ∧ getRest s = ⟨#[]⟩ := by
  refine ⟨?_, ?_⟩
  · unfold getV; rw [if_neg h]
  · unfold getRest; rw [if_neg h]

set_option maxRecDepth 100000 in
set_option maxHeartbeats 2000000 in
theorem refText_any (s : ByteArray) (w : World) (hs : s.size ≤ 140737488355328) :
    Calls Tryz.prog 41 #[.string s] w fun e w' => e = .returned (.agg #[.int .i64 0, .string (ttS s), .string (ttR s), .int .i64 (ttE s)]) ∧ Below w.heap.size w w' := by
  have hv := getV_nn s
  have hr := getRest_size s
  by_cases h0 : getE s = 0
  · by_cases h1 : 65536 < getV s
    · have e1 : ttE s = 2 := by unfold ttE; rw [if_neg (by omega), if_pos h1]
      have e2 : ttS s = ⟨#[]⟩ := by unfold ttS; rw [if_neg (by omega)]
      have e3 : ttR s = ⟨#[]⟩ := by unfold ttR; rw [if_neg (by omega)]
      rw [e1, e2, e3]
      clear e1 e2 e3
      have H0 : Hid (getE s = 0) := h0
      clear h0
      go_enter Tryz.func41, Tryz.ntmps41
      go_wp2_with fail
      refine (refGet_any _ _ hs).mono ?_
      rintro e w1 ⟨rfl, hb1⟩
      obtain ⟨hc, hf, hbl, hz⟩ := part_cells0 hb1
      clear hb1
      rw [H0.out]
      go_wp2
      refine bodyPost_ret (v := .agg #[.int .i64 0, .string ⟨#[]⟩, .string ⟨#[]⟩, .int .i64 2]) (by simp [results, Tryz.results41, go_sem, hc, hz]) rfl ⟨rfl, ?_⟩
      repeat (first | exact hbl | refine Below.setCell ?_ (by exact Nat.le_refl _) _ | refine Below.alloc ?_ (by simp; omega) _ | refine Below.drew ?_)
    · by_cases h2 : ((getRest s).size : Int) < getV s
      · have e1 : ttE s = 7 := by unfold ttE; rw [if_neg (by omega), if_neg h1, if_pos h2]
        have e2 : ttS s = ⟨#[]⟩ := by unfold ttS; rw [if_neg (by omega)]
        have e3 : ttR s = ⟨#[]⟩ := by unfold ttR; rw [if_neg (by omega)]
        rw [e1, e2, e3]
        clear e1 e2 e3
        have H0 : Hid (getE s = 0) := h0
        clear h0
        go_enter Tryz.func41, Tryz.ntmps41
        go_wp2_with fail
        refine (refGet_any _ _ hs).mono ?_
        rintro e w1 ⟨rfl, hb1⟩
        obtain ⟨hc, hf, hbl, hz⟩ := part_cells0 hb1
        clear hb1
        rw [H0.out]
        go_wp2
        refine bodyPost_ret (v := .agg #[.int .i64 0, .string ⟨#[]⟩, .string ⟨#[]⟩, .int .i64 7]) (by simp [results, Tryz.results41, go_sem, hc, hz]) rfl ⟨rfl, ?_⟩
        repeat (first | exact hbl | refine Below.setCell ?_ (by exact Nat.le_refl _) _ | refine Below.alloc ?_ (by simp; omega) _ | refine Below.drew ?_)
      · have e1 : ttE s = 0 := by unfold ttE; rw [if_neg (by omega), if_neg h1, if_neg h2]
        have e2 : ttS s = (getRest s).extract 0 (getV s).toNat := by unfold ttS; rw [if_pos e1]
        have e3 : ttR s = (getRest s).extract (getV s).toNat (getRest s).size := by unfold ttR; rw [if_pos e1]
        rw [e1, e2, e3]
        clear e1 e2 e3
        have H0 : Hid (getE s = 0) := h0
        clear h0
        have h3 : getV s ≤ ((getRest s).size : Int) := by omega
        have h4 : (getV s).toNat ≤ (getRest s).size := by omega
        go_enter Tryz.func41, Tryz.ntmps41
        go_wp2_with fail
        refine (refGet_any _ _ hs).mono ?_
        rintro e w1 ⟨rfl, hb1⟩
        obtain ⟨hc, hf, hbl, hz⟩ := part_cells0 hb1
        clear hb1
        rw [H0.out]
        go_wp2
        go_region
        all_goals go_wp2
        all_goals refine bodyPost_ret (v := .agg #[.int .i64 0, .string ((getRest s).extract 0 (getV s).toNat), .string ((getRest s).extract (getV s).toNat (getRest s).size), .int .i64 0]) (by simp [results, Tryz.results41, go_sem, hc, hz]) rfl ⟨rfl, ?_⟩
        all_goals (repeat (first | exact hbl | refine Below.setCell ?_ (by exact Nat.le_refl _) _ | refine Below.alloc ?_ (by simp; omega) _ | refine Below.drew ?_))
  · have hge := get_err h0
    have e1 : ttE s = getE s := by unfold ttE; rw [if_pos h0]
    have e2 : ttS s = ⟨#[]⟩ := by unfold ttS; rw [if_neg (by omega)]
    have e3 : ttR s = ⟨#[]⟩ := by unfold ttR; rw [if_neg (by omega)]
    rw [e1, e2, e3]
    clear e1 e2 e3
    have h0' : (getE s != 0) = true := by rw [bne_iff_ne]; exact h0
    clear h0
    have HE1 : Hid (getV s = 0) := hge.1
    have HE2 : Hid (getRest s = ⟨#[]⟩) := hge.2
    clear hge
    go_enter Tryz.func41, Tryz.ntmps41
    go_wp2_with fail
    refine (refGet_any _ _ hs).mono ?_
    rintro e w1 ⟨rfl, hb1⟩
    obtain ⟨hc, hf, hbl, hz⟩ := part_cells0 hb1
    clear hb1
    rw [HE1.out, HE2.out]
    go_wp2
    refine bodyPost_ret (v := .agg #[.int .i64 0, .string ⟨#[]⟩, .string ⟨#[]⟩, .int .i64 (getE s)]) (by simp [results, Tryz.results41, go_sem, hc, hz]) rfl ⟨rfl, ?_⟩
    repeat (first | exact hbl | refine Below.setCell ?_ (by exact Nat.le_refl _) _ | refine Below.alloc ?_ (by simp; omega) _ | refine Below.drew ?_)
end Go.Proofs.YtoplpohpodkpdaaGreatDoor.Q
