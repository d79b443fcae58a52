/- The reference's Get: its walk. -/
import Derived.Test.YtciibeldmcakeaaDoorZa
import Derived.Test.YtciibeldmcakeaaDoorG
import Derived.Test.YtciibeldmcakeaaDoorR
namespace Go.Proofs.YtciibeldmcakeaaDoor.Q
open Go.RowKit

set_option maxRecDepth 100000 in
set_option maxHeartbeats 1000000 in
theorem refGet_1ok (s : ByteArray) (w : World) (hs : s.size ≤ 140737488355328) (h1 : 1 ≤ s.size) (hb0 : (0 : Int) ≤ ((s[0]'(by omega)).toNat : Int)) (hb1 : ((s[0]'(by omega)).toNat : Int) < 64) (hq : ((strOfNums (numI (((s[0]'(by omega)).toNat : Int) % (64 : Int)))).toList == (s.extract 0 1).toList) = true) :
    Calls Tryd.prog 47 #[.string s] w fun e w' => e = .returned (.agg #[.int .i64 (((s[0]'(by omega)).toNat : Int) % (64 : Int)), .string ⟨#[]⟩, .string (s.extract 1 s.size), .int .i64 0]) ∧ Below w.heap.size w w' := by
  have hne : s.toList.isEmpty = false := isEmpty_of s (by omega)
  have hlt : (0:Int) < s.size := by omega
  have hlt0 : 0 < s.size := by omega
  have hdiv : ((s[0]'(by omega)).toNat : Int) / 64 = 0 := by omega
  have hle : (1:Int) ≤ s.size := by omega
  have hR : Hid (((strOfNums (numI (((s[0]'(by omega)).toNat : Int) % (64 : Int)))).toList == (s.extract 0 1).toList) = true) := hq
  clear hq
  go_enter Tryd.func47, Tryd.ntmps47
  go_wp2
  refine wp_loop_rounds 1 ?_
  rw [rounds_succ]
  go_wp2
  refine wp_loop_rounds 1 ?_
  rw [rounds_succ]
  go_wp2
  go_region_with (go_at_call 23; refine (refNum_any _ _).mono ?_; rintro e w1 ⟨rfl, hb1⟩)
  obtain ⟨hc, hf, hbl, hz⟩ := part_cells hb1
  clear hb1
  rw [hR.out]
  go_wp2
  exact bodyPost_ret (v := .agg #[.int .i64 (((s[0]'(by omega)).toNat : Int) % (64 : Int)), .string ⟨#[]⟩, .string (s.extract 1 s.size), .int .i64 0]) (by simp [results, Tryd.results47, go_sem, hc]) rfl ⟨rfl, (((hbl.setCell (Nat.le_refl _) _).setCell (Nat.le_refl _) _).setCell (Nat.le_refl _) _).setCell (Nat.le_refl _) _⟩

set_option maxRecDepth 100000 in
set_option maxHeartbeats 1000000 in
theorem refGet_1bad (s : ByteArray) (w : World) (hs : s.size ≤ 140737488355328) (h1 : 1 ≤ s.size) (hb0 : (0 : Int) ≤ ((s[0]'(by omega)).toNat : Int)) (hb1 : ((s[0]'(by omega)).toNat : Int) < 64) (hq : ((strOfNums (numI (((s[0]'(by omega)).toNat : Int) % (64 : Int)))).toList == (s.extract 0 1).toList) = false) :
    Calls Tryd.prog 47 #[.string s] w fun e w' => e = .returned (.agg #[.int .i64 0, .string ⟨#[]⟩, .string ⟨#[]⟩, .int .i64 3]) ∧ Below w.heap.size w w' := by
  have hne : s.toList.isEmpty = false := isEmpty_of s (by omega)
  have hlt : (0:Int) < s.size := by omega
  have hlt0 : 0 < s.size := by omega
  have hdiv : ((s[0]'(by omega)).toNat : Int) / 64 = 0 := by omega
  have hle : (1:Int) ≤ s.size := by omega
  have hR : Hid (((strOfNums (numI (((s[0]'(by omega)).toNat : Int) % (64 : Int)))).toList == (s.extract 0 1).toList) = false) := hq
  clear hq
  go_enter Tryd.func47, Tryd.ntmps47
  go_wp2
  refine wp_loop_rounds 1 ?_
  rw [rounds_succ]
  go_wp2
  refine wp_loop_rounds 1 ?_
  rw [rounds_succ]
  go_wp2
  go_region_with (go_at_call 23; refine (refNum_any _ _).mono ?_; rintro e w1 ⟨rfl, hb1⟩)
  obtain ⟨hc, hf, hbl, hz⟩ := part_cells hb1
  clear hb1
  rw [hR.out]
  go_wp2
  exact bodyPost_ret (v := .agg #[.int .i64 0, .string ⟨#[]⟩, .string ⟨#[]⟩, .int .i64 3]) (by simp [results, Tryd.results47, go_sem, hc]) rfl ⟨rfl, (((hbl.setCell (Nat.le_refl _) _).setCell (Nat.le_refl _) _).setCell (Nat.le_refl _) _).setCell (Nat.le_refl _) _⟩

set_option maxRecDepth 100000 in
set_option maxHeartbeats 1000000 in
theorem refGet_2ok (s : ByteArray) (w : World) (hs : s.size ≤ 140737488355328) (h2 : 2 ≤ s.size) (hb0 : (64 : Int) ≤ ((s[0]'(by omega)).toNat : Int)) (hb1 : ((s[0]'(by omega)).toNat : Int) < 128) (hq : ((strOfNums (numI ((256 : Int) * (((s[0]'(by omega)).toNat : Int) % (64 : Int)) + ((s[1]'(by omega)).toNat : Int)))).toList == (s.extract 0 2).toList) = true) :
    Calls Tryd.prog 47 #[.string s] w fun e w' => e = .returned (.agg #[.int .i64 ((256 : Int) * (((s[0]'(by omega)).toNat : Int) % (64 : Int)) + ((s[1]'(by omega)).toNat : Int)), .string ⟨#[]⟩, .string (s.extract 2 s.size), .int .i64 0]) ∧ Below w.heap.size w w' := by
  have hne : s.toList.isEmpty = false := isEmpty_of s (by omega)
  have hlt : (0:Int) < s.size := by omega
  have hlt0 : 0 < s.size := by omega
  have hdiv : ((s[0]'(by omega)).toNat : Int) / 64 = 1 := by omega
  have hle : (2:Int) ≤ s.size := by omega
  have hR : Hid (((strOfNums (numI ((256 : Int) * (((s[0]'(by omega)).toNat : Int) % (64 : Int)) + ((s[1]'(by omega)).toNat : Int)))).toList == (s.extract 0 2).toList) = true) := hq
  clear hq
  have hlt1 : 1 < s.size := by omega
  have hub1 : (((s[1]'(by omega)).toNat : Int)) < 256 := by have := (s[1]'(by omega)).toNat_lt; omega
  go_enter Tryd.func47, Tryd.ntmps47
  go_wp2
  refine wp_loop_rounds 2 ?_
  rw [rounds_succ]
  go_wp2
  rw [rounds_succ]
  go_wp2
  refine wp_loop_rounds 2 ?_
  rw [rounds_succ]
  go_wp2
  rw [rounds_succ]
  go_wp2
  go_region_with (go_at_call 23; refine (refNum_any _ _).mono ?_; rintro e w1 ⟨rfl, hb1⟩)
  obtain ⟨hc, hf, hbl, hz⟩ := part_cells hb1
  clear hb1
  rw [hR.out]
  go_wp2
  exact bodyPost_ret (v := .agg #[.int .i64 ((256 : Int) * (((s[0]'(by omega)).toNat : Int) % (64 : Int)) + ((s[1]'(by omega)).toNat : Int)), .string ⟨#[]⟩, .string (s.extract 2 s.size), .int .i64 0]) (by simp [results, Tryd.results47, go_sem, hc]) rfl ⟨rfl, (((hbl.setCell (Nat.le_refl _) _).setCell (Nat.le_refl _) _).setCell (Nat.le_refl _) _).setCell (Nat.le_refl _) _⟩

set_option maxRecDepth 100000 in
set_option maxHeartbeats 1000000 in
theorem refGet_2bad (s : ByteArray) (w : World) (hs : s.size ≤ 140737488355328) (h2 : 2 ≤ s.size) (hb0 : (64 : Int) ≤ ((s[0]'(by omega)).toNat : Int)) (hb1 : ((s[0]'(by omega)).toNat : Int) < 128) (hq : ((strOfNums (numI ((256 : Int) * (((s[0]'(by omega)).toNat : Int) % (64 : Int)) + ((s[1]'(by omega)).toNat : Int)))).toList == (s.extract 0 2).toList) = false) :
    Calls Tryd.prog 47 #[.string s] w fun e w' => e = .returned (.agg #[.int .i64 0, .string ⟨#[]⟩, .string ⟨#[]⟩, .int .i64 3]) ∧ Below w.heap.size w w' := by
  have hne : s.toList.isEmpty = false := isEmpty_of s (by omega)
  have hlt : (0:Int) < s.size := by omega
  have hlt0 : 0 < s.size := by omega
  have hdiv : ((s[0]'(by omega)).toNat : Int) / 64 = 1 := by omega
  have hle : (2:Int) ≤ s.size := by omega
  have hR : Hid (((strOfNums (numI ((256 : Int) * (((s[0]'(by omega)).toNat : Int) % (64 : Int)) + ((s[1]'(by omega)).toNat : Int)))).toList == (s.extract 0 2).toList) = false) := hq
  clear hq
  have hlt1 : 1 < s.size := by omega
  have hub1 : (((s[1]'(by omega)).toNat : Int)) < 256 := by have := (s[1]'(by omega)).toNat_lt; omega
  go_enter Tryd.func47, Tryd.ntmps47
  go_wp2
  refine wp_loop_rounds 2 ?_
  rw [rounds_succ]
  go_wp2
  rw [rounds_succ]
  go_wp2
  refine wp_loop_rounds 2 ?_
  rw [rounds_succ]
  go_wp2
  rw [rounds_succ]
  go_wp2
  go_region_with (go_at_call 23; refine (refNum_any _ _).mono ?_; rintro e w1 ⟨rfl, hb1⟩)
  obtain ⟨hc, hf, hbl, hz⟩ := part_cells hb1
  clear hb1
  rw [hR.out]
  go_wp2
  exact bodyPost_ret (v := .agg #[.int .i64 0, .string ⟨#[]⟩, .string ⟨#[]⟩, .int .i64 3]) (by simp [results, Tryd.results47, go_sem, hc]) rfl ⟨rfl, (((hbl.setCell (Nat.le_refl _) _).setCell (Nat.le_refl _) _).setCell (Nat.le_refl _) _).setCell (Nat.le_refl _) _⟩

set_option maxRecDepth 100000 in
set_option maxHeartbeats 1000000 in
theorem refGet_2short (s : ByteArray) (w : World) (hs : s.size ≤ 140737488355328) (hp : 0 < s.size) (hsh : s.size < 2) (hb0 : (64 : Int) ≤ ((s[0]'(by omega)).toNat : Int)) (hb1 : ((s[0]'(by omega)).toNat : Int) < 128) :
    Calls Tryd.prog 47 #[.string s] w fun e w' => e = .returned (.agg #[.int .i64 0, .string ⟨#[]⟩, .string ⟨#[]⟩, .int .i64 7]) ∧ Below w.heap.size w w' := by
  have hne : s.toList.isEmpty = false := isEmpty_of s (by omega)
  have hlt : (0:Int) < s.size := by omega
  have hlt0 : 0 < s.size := by omega
  have hdiv : ((s[0]'(by omega)).toNat : Int) / 64 = 1 := by omega
  have hle : (s.size : Int) < 2 := by omega
  go_enter Tryd.func47, Tryd.ntmps47
  go_wp2
  refine wp_loop_rounds 2 ?_
  rw [rounds_succ]
  go_wp2
  rw [rounds_succ]
  go_wp2
  exact bodyPost_ret (v := .agg #[.int .i64 0, .string ⟨#[]⟩, .string ⟨#[]⟩, .int .i64 7]) (by simp [results, Tryd.results47, go_sem]) rfl ⟨rfl, (Below.refl _ _).alloc (Nat.le_refl _) _⟩

set_option maxRecDepth 100000 in
set_option maxHeartbeats 1000000 in
theorem refGet_4ok (s : ByteArray) (w : World) (hs : s.size ≤ 140737488355328) (h4 : 4 ≤ s.size) (hb0 : (128 : Int) ≤ ((s[0]'(by omega)).toNat : Int)) (hb1 : ((s[0]'(by omega)).toNat : Int) < 192) (hq : ((strOfNums (numI ((256 : Int) * ((256 : Int) * ((256 : Int) * (((s[0]'(by omega)).toNat : Int) % (64 : Int)) + ((s[1]'(by omega)).toNat : Int)) + ((s[2]'(by omega)).toNat : Int)) + ((s[3]'(by omega)).toNat : Int)))).toList == (s.extract 0 4).toList) = true) :
    Calls Tryd.prog 47 #[.string s] w fun e w' => e = .returned (.agg #[.int .i64 ((256 : Int) * ((256 : Int) * ((256 : Int) * (((s[0]'(by omega)).toNat : Int) % (64 : Int)) + ((s[1]'(by omega)).toNat : Int)) + ((s[2]'(by omega)).toNat : Int)) + ((s[3]'(by omega)).toNat : Int)), .string ⟨#[]⟩, .string (s.extract 4 s.size), .int .i64 0]) ∧ Below w.heap.size w w' := by
  have hne : s.toList.isEmpty = false := isEmpty_of s (by omega)
  have hlt : (0:Int) < s.size := by omega
  have hlt0 : 0 < s.size := by omega
  have hdiv : ((s[0]'(by omega)).toNat : Int) / 64 = 2 := by omega
  have hle : (4:Int) ≤ s.size := by omega
  have hR : Hid (((strOfNums (numI ((256 : Int) * ((256 : Int) * ((256 : Int) * (((s[0]'(by omega)).toNat : Int) % (64 : Int)) + ((s[1]'(by omega)).toNat : Int)) + ((s[2]'(by omega)).toNat : Int)) + ((s[3]'(by omega)).toNat : Int)))).toList == (s.extract 0 4).toList) = true) := hq
  clear hq
  have hlt1 : 1 < s.size := by omega
  have hub1 : (((s[1]'(by omega)).toNat : Int)) < 256 := by have := (s[1]'(by omega)).toNat_lt; omega
  have hlt2 : 2 < s.size := by omega
  have hub2 : (((s[2]'(by omega)).toNat : Int)) < 256 := by have := (s[2]'(by omega)).toNat_lt; omega
  have hlt3 : 3 < s.size := by omega
  have hub3 : (((s[3]'(by omega)).toNat : Int)) < 256 := by have := (s[3]'(by omega)).toNat_lt; omega
  go_enter Tryd.func47, Tryd.ntmps47
  go_wp2
  refine wp_loop_rounds 3 ?_
  rw [rounds_succ]
  go_wp2
  rw [rounds_succ]
  go_wp2
  rw [rounds_succ]
  go_wp2
  refine wp_loop_rounds 4 ?_
  rw [rounds_succ]
  go_wp2
  rw [rounds_succ]
  go_wp2
  rw [rounds_succ]
  go_wp2
  rw [rounds_succ]
  go_wp2
  go_region_with (go_at_call 23; refine (refNum_any _ _).mono ?_; rintro e w1 ⟨rfl, hb1⟩)
  obtain ⟨hc, hf, hbl, hz⟩ := part_cells hb1
  clear hb1
  rw [hR.out]
  go_wp2
  exact bodyPost_ret (v := .agg #[.int .i64 ((256 : Int) * ((256 : Int) * ((256 : Int) * (((s[0]'(by omega)).toNat : Int) % (64 : Int)) + ((s[1]'(by omega)).toNat : Int)) + ((s[2]'(by omega)).toNat : Int)) + ((s[3]'(by omega)).toNat : Int)), .string ⟨#[]⟩, .string (s.extract 4 s.size), .int .i64 0]) (by simp [results, Tryd.results47, go_sem, hc]) rfl ⟨rfl, (((hbl.setCell (Nat.le_refl _) _).setCell (Nat.le_refl _) _).setCell (Nat.le_refl _) _).setCell (Nat.le_refl _) _⟩

set_option maxRecDepth 100000 in
set_option maxHeartbeats 1000000 in
theorem refGet_4bad (s : ByteArray) (w : World) (hs : s.size ≤ 140737488355328) (h4 : 4 ≤ s.size) (hb0 : (128 : Int) ≤ ((s[0]'(by omega)).toNat : Int)) (hb1 : ((s[0]'(by omega)).toNat : Int) < 192) (hq : ((strOfNums (numI ((256 : Int) * ((256 : Int) * ((256 : Int) * (((s[0]'(by omega)).toNat : Int) % (64 : Int)) + ((s[1]'(by omega)).toNat : Int)) + ((s[2]'(by omega)).toNat : Int)) + ((s[3]'(by omega)).toNat : Int)))).toList == (s.extract 0 4).toList) = false) :
    Calls Tryd.prog 47 #[.string s] w fun e w' => e = .returned (.agg #[.int .i64 0, .string ⟨#[]⟩, .string ⟨#[]⟩, .int .i64 3]) ∧ Below w.heap.size w w' := by
  have hne : s.toList.isEmpty = false := isEmpty_of s (by omega)
  have hlt : (0:Int) < s.size := by omega
  have hlt0 : 0 < s.size := by omega
  have hdiv : ((s[0]'(by omega)).toNat : Int) / 64 = 2 := by omega
  have hle : (4:Int) ≤ s.size := by omega
  have hR : Hid (((strOfNums (numI ((256 : Int) * ((256 : Int) * ((256 : Int) * (((s[0]'(by omega)).toNat : Int) % (64 : Int)) + ((s[1]'(by omega)).toNat : Int)) + ((s[2]'(by omega)).toNat : Int)) + ((s[3]'(by omega)).toNat : Int)))).toList == (s.extract 0 4).toList) = false) := hq
  clear hq
  have hlt1 : 1 < s.size := by omega
  have hub1 : (((s[1]'(by omega)).toNat : Int)) < 256 := by have := (s[1]'(by omega)).toNat_lt; omega
  have hlt2 : 2 < s.size := by omega
  have hub2 : (((s[2]'(by omega)).toNat : Int)) < 256 := by have := (s[2]'(by omega)).toNat_lt; omega
  have hlt3 : 3 < s.size := by omega
  have hub3 : (((s[3]'(by omega)).toNat : Int)) < 256 := by have := (s[3]'(by omega)).toNat_lt; omega
  go_enter Tryd.func47, Tryd.ntmps47
  go_wp2
  refine wp_loop_rounds 3 ?_
  rw [rounds_succ]
  go_wp2
  rw [rounds_succ]
  go_wp2
  rw [rounds_succ]
  go_wp2
  refine wp_loop_rounds 4 ?_
  rw [rounds_succ]
  go_wp2
  rw [rounds_succ]
  go_wp2
  rw [rounds_succ]
  go_wp2
  rw [rounds_succ]
  go_wp2
  go_region_with (go_at_call 23; refine (refNum_any _ _).mono ?_; rintro e w1 ⟨rfl, hb1⟩)
  obtain ⟨hc, hf, hbl, hz⟩ := part_cells hb1
  clear hb1
  rw [hR.out]
  go_wp2
  exact bodyPost_ret (v := .agg #[.int .i64 0, .string ⟨#[]⟩, .string ⟨#[]⟩, .int .i64 3]) (by simp [results, Tryd.results47, go_sem, hc]) rfl ⟨rfl, (((hbl.setCell (Nat.le_refl _) _).setCell (Nat.le_refl _) _).setCell (Nat.le_refl _) _).setCell (Nat.le_refl _) _⟩

set_option maxRecDepth 100000 in
set_option maxHeartbeats 1000000 in
theorem refGet_4short (s : ByteArray) (w : World) (hs : s.size ≤ 140737488355328) (hp : 0 < s.size) (hsh : s.size < 4) (hb0 : (128 : Int) ≤ ((s[0]'(by omega)).toNat : Int)) (hb1 : ((s[0]'(by omega)).toNat : Int) < 192) :
    Calls Tryd.prog 47 #[.string s] w fun e w' => e = .returned (.agg #[.int .i64 0, .string ⟨#[]⟩, .string ⟨#[]⟩, .int .i64 7]) ∧ Below w.heap.size w w' := by
  have hne : s.toList.isEmpty = false := isEmpty_of s (by omega)
  have hlt : (0:Int) < s.size := by omega
  have hlt0 : 0 < s.size := by omega
  have hdiv : ((s[0]'(by omega)).toNat : Int) / 64 = 2 := by omega
  have hle : (s.size : Int) < 4 := by omega
  go_enter Tryd.func47, Tryd.ntmps47
  go_wp2
  refine wp_loop_rounds 3 ?_
  rw [rounds_succ]
  go_wp2
  rw [rounds_succ]
  go_wp2
  rw [rounds_succ]
  go_wp2
  exact bodyPost_ret (v := .agg #[.int .i64 0, .string ⟨#[]⟩, .string ⟨#[]⟩, .int .i64 7]) (by simp [results, Tryd.results47, go_sem]) rfl ⟨rfl, (Below.refl _ _).alloc (Nat.le_refl _) _⟩

set_option maxRecDepth 100000 in
set_option maxHeartbeats 1000000 in
theorem refGet_8ok (s : ByteArray) (w : World) (hs : s.size ≤ 140737488355328) (h8 : 8 ≤ s.size) (hb0 : (192 : Int) ≤ ((s[0]'(by omega)).toNat : Int)) (hb1 : ((s[0]'(by omega)).toNat : Int) < 256) (hq : ((strOfNums (numI ((256 : Int) * ((256 : Int) * ((256 : Int) * ((256 : Int) * ((256 : Int) * ((256 : Int) * ((256 : Int) * (((s[0]'(by omega)).toNat : Int) % (64 : Int)) + ((s[1]'(by omega)).toNat : Int)) + ((s[2]'(by omega)).toNat : Int)) + ((s[3]'(by omega)).toNat : Int)) + ((s[4]'(by omega)).toNat : Int)) + ((s[5]'(by omega)).toNat : Int)) + ((s[6]'(by omega)).toNat : Int)) + ((s[7]'(by omega)).toNat : Int)))).toList == (s.extract 0 8).toList) = true) :
    Calls Tryd.prog 47 #[.string s] w fun e w' => e = .returned (.agg #[.int .i64 ((256 : Int) * ((256 : Int) * ((256 : Int) * ((256 : Int) * ((256 : Int) * ((256 : Int) * ((256 : Int) * (((s[0]'(by omega)).toNat : Int) % (64 : Int)) + ((s[1]'(by omega)).toNat : Int)) + ((s[2]'(by omega)).toNat : Int)) + ((s[3]'(by omega)).toNat : Int)) + ((s[4]'(by omega)).toNat : Int)) + ((s[5]'(by omega)).toNat : Int)) + ((s[6]'(by omega)).toNat : Int)) + ((s[7]'(by omega)).toNat : Int)), .string ⟨#[]⟩, .string (s.extract 8 s.size), .int .i64 0]) ∧ Below w.heap.size w w' := by
  have hne : s.toList.isEmpty = false := isEmpty_of s (by omega)
  have hlt : (0:Int) < s.size := by omega
  have hlt0 : 0 < s.size := by omega
  have hdiv : ((s[0]'(by omega)).toNat : Int) / 64 = 3 := by omega
  have hle : (8:Int) ≤ s.size := by omega
  have hR : Hid (((strOfNums (numI ((256 : Int) * ((256 : Int) * ((256 : Int) * ((256 : Int) * ((256 : Int) * ((256 : Int) * ((256 : Int) * (((s[0]'(by omega)).toNat : Int) % (64 : Int)) + ((s[1]'(by omega)).toNat : Int)) + ((s[2]'(by omega)).toNat : Int)) + ((s[3]'(by omega)).toNat : Int)) + ((s[4]'(by omega)).toNat : Int)) + ((s[5]'(by omega)).toNat : Int)) + ((s[6]'(by omega)).toNat : Int)) + ((s[7]'(by omega)).toNat : Int)))).toList == (s.extract 0 8).toList) = true) := hq
  clear hq
  have hlt1 : 1 < s.size := by omega
  have hub1 : (((s[1]'(by omega)).toNat : Int)) < 256 := by have := (s[1]'(by omega)).toNat_lt; omega
  have hlt2 : 2 < s.size := by omega
  have hub2 : (((s[2]'(by omega)).toNat : Int)) < 256 := by have := (s[2]'(by omega)).toNat_lt; omega
  have hlt3 : 3 < s.size := by omega
  have hub3 : (((s[3]'(by omega)).toNat : Int)) < 256 := by have := (s[3]'(by omega)).toNat_lt; omega
  have hlt4 : 4 < s.size := by omega
  have hub4 : (((s[4]'(by omega)).toNat : Int)) < 256 := by have := (s[4]'(by omega)).toNat_lt; omega
  have hlt5 : 5 < s.size := by omega
  have hub5 : (((s[5]'(by omega)).toNat : Int)) < 256 := by have := (s[5]'(by omega)).toNat_lt; omega
  have hlt6 : 6 < s.size := by omega
  have hub6 : (((s[6]'(by omega)).toNat : Int)) < 256 := by have := (s[6]'(by omega)).toNat_lt; omega
  have hlt7 : 7 < s.size := by omega
  have hub7 : (((s[7]'(by omega)).toNat : Int)) < 256 := by have := (s[7]'(by omega)).toNat_lt; omega
  go_enter Tryd.func47, Tryd.ntmps47
  go_wp2
  refine wp_loop_rounds 4 ?_
  rw [rounds_succ]
  go_wp2
  rw [rounds_succ]
  go_wp2
  rw [rounds_succ]
  go_wp2
  rw [rounds_succ]
  go_wp2
  refine wp_loop_rounds 8 ?_
  rw [rounds_succ]
  go_wp2
  rw [rounds_succ]
  go_wp2
  rw [rounds_succ]
  go_wp2
  rw [rounds_succ]
  go_wp2
  rw [rounds_succ]
  go_wp2
  rw [rounds_succ]
  go_wp2
  rw [rounds_succ]
  go_wp2
  rw [rounds_succ]
  go_wp2
  go_region_with (go_at_call 23; refine (refNum_any _ _).mono ?_; rintro e w1 ⟨rfl, hb1⟩)
  obtain ⟨hc, hf, hbl, hz⟩ := part_cells hb1
  clear hb1
  rw [hR.out]
  go_wp2
  exact bodyPost_ret (v := .agg #[.int .i64 ((256 : Int) * ((256 : Int) * ((256 : Int) * ((256 : Int) * ((256 : Int) * ((256 : Int) * ((256 : Int) * (((s[0]'(by omega)).toNat : Int) % (64 : Int)) + ((s[1]'(by omega)).toNat : Int)) + ((s[2]'(by omega)).toNat : Int)) + ((s[3]'(by omega)).toNat : Int)) + ((s[4]'(by omega)).toNat : Int)) + ((s[5]'(by omega)).toNat : Int)) + ((s[6]'(by omega)).toNat : Int)) + ((s[7]'(by omega)).toNat : Int)), .string ⟨#[]⟩, .string (s.extract 8 s.size), .int .i64 0]) (by simp [results, Tryd.results47, go_sem, hc]) rfl ⟨rfl, (((hbl.setCell (Nat.le_refl _) _).setCell (Nat.le_refl _) _).setCell (Nat.le_refl _) _).setCell (Nat.le_refl _) _⟩

set_option maxRecDepth 100000 in
set_option maxHeartbeats 1000000 in
theorem refGet_8bad (s : ByteArray) (w : World) (hs : s.size ≤ 140737488355328) (h8 : 8 ≤ s.size) (hb0 : (192 : Int) ≤ ((s[0]'(by omega)).toNat : Int)) (hb1 : ((s[0]'(by omega)).toNat : Int) < 256) (hq : ((strOfNums (numI ((256 : Int) * ((256 : Int) * ((256 : Int) * ((256 : Int) * ((256 : Int) * ((256 : Int) * ((256 : Int) * (((s[0]'(by omega)).toNat : Int) % (64 : Int)) + ((s[1]'(by omega)).toNat : Int)) + ((s[2]'(by omega)).toNat : Int)) + ((s[3]'(by omega)).toNat : Int)) + ((s[4]'(by omega)).toNat : Int)) + ((s[5]'(by omega)).toNat : Int)) + ((s[6]'(by omega)).toNat : Int)) + ((s[7]'(by omega)).toNat : Int)))).toList == (s.extract 0 8).toList) = false) :
    Calls Tryd.prog 47 #[.string s] w fun e w' => e = .returned (.agg #[.int .i64 0, .string ⟨#[]⟩, .string ⟨#[]⟩, .int .i64 3]) ∧ Below w.heap.size w w' := by
  have hne : s.toList.isEmpty = false := isEmpty_of s (by omega)
  have hlt : (0:Int) < s.size := by omega
  have hlt0 : 0 < s.size := by omega
  have hdiv : ((s[0]'(by omega)).toNat : Int) / 64 = 3 := by omega
  have hle : (8:Int) ≤ s.size := by omega
  have hR : Hid (((strOfNums (numI ((256 : Int) * ((256 : Int) * ((256 : Int) * ((256 : Int) * ((256 : Int) * ((256 : Int) * ((256 : Int) * (((s[0]'(by omega)).toNat : Int) % (64 : Int)) + ((s[1]'(by omega)).toNat : Int)) + ((s[2]'(by omega)).toNat : Int)) + ((s[3]'(by omega)).toNat : Int)) + ((s[4]'(by omega)).toNat : Int)) + ((s[5]'(by omega)).toNat : Int)) + ((s[6]'(by omega)).toNat : Int)) + ((s[7]'(by omega)).toNat : Int)))).toList == (s.extract 0 8).toList) = false) := hq
  clear hq
  have hlt1 : 1 < s.size := by omega
  have hub1 : (((s[1]'(by omega)).toNat : Int)) < 256 := by have := (s[1]'(by omega)).toNat_lt; omega
  have hlt2 : 2 < s.size := by omega
  have hub2 : (((s[2]'(by omega)).toNat : Int)) < 256 := by have := (s[2]'(by omega)).toNat_lt; omega
  have hlt3 : 3 < s.size := by omega
  have hub3 : (((s[3]'(by omega)).toNat : Int)) < 256 := by have := (s[3]'(by omega)).toNat_lt; omega
  have hlt4 : 4 < s.size := by omega
  have hub4 : (((s[4]'(by omega)).toNat : Int)) < 256 := by have := (s[4]'(by omega)).toNat_lt; omega
  have hlt5 : 5 < s.size := by omega
  have hub5 : (((s[5]'(by omega)).toNat : Int)) < 256 := by have := (s[5]'(by omega)).toNat_lt; omega
  have hlt6 : 6 < s.size := by omega
  have hub6 : (((s[6]'(by omega)).toNat : Int)) < 256 := by have := (s[6]'(by omega)).toNat_lt; omega
  have hlt7 : 7 < s.size := by omega
  have hub7 : (((s[7]'(by omega)).toNat : Int)) < 256 := by have := (s[7]'(by omega)).toNat_lt; omega
  go_enter Tryd.func47, Tryd.ntmps47
  go_wp2
  refine wp_loop_rounds 4 ?_
  rw [rounds_succ]
  go_wp2
  rw [rounds_succ]
  go_wp2
  rw [rounds_succ]
  go_wp2
  rw [rounds_succ]
  go_wp2
  refine wp_loop_rounds 8 ?_
  rw [rounds_succ]
  go_wp2
  rw [rounds_succ]
  go_wp2
  rw [rounds_succ]
  go_wp2
  rw [rounds_succ]
  go_wp2
  rw [rounds_succ]
  go_wp2
  rw [rounds_succ]
  go_wp2
  rw [rounds_succ]
  go_wp2
  rw [rounds_succ]
  go_wp2
  go_region_with (go_at_call 23; refine (refNum_any _ _).mono ?_; rintro e w1 ⟨rfl, hb1⟩)
  obtain ⟨hc, hf, hbl, hz⟩ := part_cells hb1
  clear hb1
  rw [hR.out]
  go_wp2
  exact bodyPost_ret (v := .agg #[.int .i64 0, .string ⟨#[]⟩, .string ⟨#[]⟩, .int .i64 3]) (by simp [results, Tryd.results47, go_sem, hc]) rfl ⟨rfl, (((hbl.setCell (Nat.le_refl _) _).setCell (Nat.le_refl _) _).setCell (Nat.le_refl _) _).setCell (Nat.le_refl _) _⟩

set_option maxRecDepth 100000 in
set_option maxHeartbeats 1000000 in
theorem refGet_8short (s : ByteArray) (w : World) (hs : s.size ≤ 140737488355328) (hp : 0 < s.size) (hsh : s.size < 8) (hb0 : (192 : Int) ≤ ((s[0]'(by omega)).toNat : Int)) (hb1 : ((s[0]'(by omega)).toNat : Int) < 256) :
    Calls Tryd.prog 47 #[.string s] w fun e w' => e = .returned (.agg #[.int .i64 0, .string ⟨#[]⟩, .string ⟨#[]⟩, .int .i64 7]) ∧ Below w.heap.size w w' := by
  have hne : s.toList.isEmpty = false := isEmpty_of s (by omega)
  have hlt : (0:Int) < s.size := by omega
  have hlt0 : 0 < s.size := by omega
  have hdiv : ((s[0]'(by omega)).toNat : Int) / 64 = 3 := by omega
  have hle : (s.size : Int) < 8 := by omega
  go_enter Tryd.func47, Tryd.ntmps47
  go_wp2
  refine wp_loop_rounds 4 ?_
  rw [rounds_succ]
  go_wp2
  rw [rounds_succ]
  go_wp2
  rw [rounds_succ]
  go_wp2
  rw [rounds_succ]
  go_wp2
  exact bodyPost_ret (v := .agg #[.int .i64 0, .string ⟨#[]⟩, .string ⟨#[]⟩, .int .i64 7]) (by simp [results, Tryd.results47, go_sem]) rfl ⟨rfl, (Below.refl _ _).alloc (Nat.le_refl _) _⟩

set_option maxHeartbeats 400000 in
theorem refGet_none (s : ByteArray) (w : World) (h : s.size = 0) :
    Calls Tryd.prog 47 #[.string s] w fun e w' => e = .returned (.agg #[.int .i64 0, .string ⟨#[]⟩, .string ⟨#[]⟩, .int .i64 7]) ∧ Below w.heap.size w w' := by
  have hne : s.toList.isEmpty = true := isEmpty_to s h
  go_enter Tryd.func47, Tryd.ntmps47
  go_wp2
  exact bodyPost_ret (v := .agg #[.int .i64 0, .string ⟨#[]⟩, .string ⟨#[]⟩, .int .i64 7]) (by simp [results, Tryd.results47, go_sem]) rfl ⟨rfl, (Below.refl _ _).alloc (Nat.le_refl _) _⟩
end Go.Proofs.YtciibeldmcakeaaDoor.Q
