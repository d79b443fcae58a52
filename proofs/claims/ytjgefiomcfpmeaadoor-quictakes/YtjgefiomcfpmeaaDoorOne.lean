/- The reference's one: an item's bytes. -/
import Derived.Test.YtjgefiomcfpmeaaDoorPut
import Derived.Test.YtjgefiomcfpmeaaDoorR
namespace Go.Proofs.YtjgefiomcfpmeaaDoor
open Go.RowKit

theorem str_num (n : Int) : strOfNums (numI n) = ⟨(numL n).toArray⟩ := rfl
theorem ba_append (a b : List UInt8) : (⟨a.toArray⟩ : ByteArray) ++ ⟨b.toArray⟩ = ⟨(a ++ b).toArray⟩ := by
  apply ByteArray.ext
  rw [ByteArray.data_append]
  simp
theorem ba_eta (s : ByteArray) : s = ⟨s.data.toList.toArray⟩ := by cases s; simp
theorem ret_st {a b : ByteArray} (h : a = b) : Ending.returned (.string a) = .returned (.string b) := by rw [h]

set_option maxHeartbeats 1000000 in
theorem one_4 (k n : Int) (s : ByteArray) (w : World) (c1 : (k == 1) = false) (c2 : (k == 2) = false) (c3 : (k == 3) = false) (hs : s.size ≤ 70000) :
    Calls Tryd.prog 26 #[.agg #[.int .i64 k, .int .i64 n, .string s]] w fun e w' => e = .returned (.string ⟨(itB ⟨k, n, s⟩).toArray⟩) ∧ Below w.heap.size w w' := by
  have hnz := num_size_le s.size
  have hsum : ¬ 9223372036854775807 < (strOfNums (numI s.size)).size + s.size := by omega
  have E : Hid (strOfNums (numI s.size) ++ s = ⟨(itB ⟨k, n, s⟩).toArray⟩) := by
    show _ = _
    rw [itB_4 c1 c2 c3, str_num, ← ba_append, ← ba_eta]
  go_enter Tryd.func26, Tryd.ntmps26
  go_wp2_with fail
  go_region_with (go_at_call 32; refine (refNum_any _ _).mono ?_; rintro e w1 ⟨rfl, hb1⟩; obtain ⟨hc, hf, hbl, hz⟩ := part_cells hb1)
  all_goals go_wp2
  all_goals go_ret
  all_goals exact ⟨ret_st E.out, hbl⟩

theorem cv_two (w : World) (o : Obj) (x : Int) : (convert 56 9 (.slice (some ⟨w.heap.size + 1, 0, none⟩) 1 1)).run Tryd.prog ((w.alloc o).alloc (.cells #[.int .u8 x] 5)) = .ok (.string (strOfNums [x])) ((w.alloc o).alloc (.cells #[.int .u8 x] 5)) := by
  refine run_convert_bytes_arg _ 56 5 Tryd.underlying56 Tryd.underlying5 (w.heap.size + 1) 0 1 1 [x] rfl ?_ 9 Tryd.underlying9
  intro i hi
  have : i = 0 := by omega
  subst this
  simp
set_option maxHeartbeats 1000000 in
theorem one_3 (k n : Int) (s : ByteArray) (w : World) (c1 : (k == 1) = false) (c2 : (k == 2) = false) (c3 : (k == 3) = true) (hn0 : 0 ≤ n) (hn1 : n ≤ 1) :
    Calls Tryd.prog 26 #[.agg #[.int .i64 k, .int .i64 n, .string s]] w fun e w' => e = .returned (.string ⟨(itB ⟨k, n, s⟩).toArray⟩) ∧ Below w.heap.size w w' := by
  have hcv := cv_two
  have E : Hid (strOfNums [n] = ⟨(itB ⟨k, n, s⟩).toArray⟩) := by show _ = _; rw [itB_3 c1 c2 c3]; rfl
  go_enter Tryd.func26, Tryd.ntmps26
  go_wp2
  go_ret
  exact ⟨ret_st E.out, ((Below.refl _ _).alloc (Nat.le_refl _) _).alloc (by simp) _⟩

set_option maxHeartbeats 1000000 in
theorem one_2 (k n : Int) (s : ByteArray) (w : World) (c1 : (k == 1) = false) (c2 : (k == 2) = true) :
    Calls Tryd.prog 26 #[.agg #[.int .i64 k, .int .i64 n, .string s]] w fun e w' => e = .returned (.string ⟨(itB ⟨k, n, s⟩).toArray⟩) ∧ Below w.heap.size w w' := by
  have E : Hid (strOfNums (numI (zig n)) = ⟨(itB ⟨k, n, s⟩).toArray⟩) := by show _ = _; rw [itB_2 c1 c2]; rfl
  go_enter Tryd.func26, Tryd.ntmps26
  go_wp2_with fail
  refine (refWhole_any _ _).mono ?_
  rintro e w1 ⟨rfl, hb1⟩
  have hB : Hid (Below w.heap.size w w1) := ((Below.refl _ _).alloc (Nat.le_refl _) _).trans (hb1.mono (by simp))
  clear hb1
  go_wp2
  go_ret
  exact ⟨ret_st E.out, hB.out⟩

set_option maxHeartbeats 1000000 in
theorem one_1 (k n : Int) (s : ByteArray) (w : World) (c1 : (k == 1) = true) :
    Calls Tryd.prog 26 #[.agg #[.int .i64 k, .int .i64 n, .string s]] w fun e w' => e = .returned (.string ⟨(itB ⟨k, n, s⟩).toArray⟩) ∧ Below w.heap.size w w' := by
  have E : Hid (strOfNums (numI n) = ⟨(itB ⟨k, n, s⟩).toArray⟩) := by show _ = _; rw [itB_1 c1]; rfl
  go_enter Tryd.func26, Tryd.ntmps26
  go_wp2_with fail
  refine (refNum_any _ _).mono ?_
  rintro e w1 ⟨rfl, hb1⟩
  have hB : Hid (Below w.heap.size w w1) := ((Below.refl _ _).alloc (Nat.le_refl _) _).trans (hb1.mono (by simp))
  clear hb1
  go_wp2
  go_ret
  exact ⟨ret_st E.out, hB.out⟩

theorem one_any (k n : Int) (s : ByteArray) (w : World) (hm : mayB k n s = true) (hs : s.size ≤ 70000) :
    Calls Tryd.prog 26 #[.agg #[.int .i64 k, .int .i64 n, .string s]] w fun e w' => e = .returned (.string ⟨(itB ⟨k, n, s⟩).toArray⟩) ∧ Below w.heap.size w w' := by
  by_cases c1 : (k == 1) = true
  · exact one_1 k n s w c1
  have c1 : (k == 1) = false := by simpa using c1
  by_cases c2 : (k == 2) = true
  · exact one_2 k n s w c1 c2
  have c2 : (k == 2) = false := by simpa using c2
  by_cases c3 : (k == 3) = true
  · have k3 : k = 3 := by simpa using c3
    subst k3
    simp [mayB] at hm
    exact one_3 3 n s w c1 c2 c3 (by omega) (by omega)
  · exact one_4 k n s w c1 c2 (by simpa using c3) hs
end Go.Proofs.YtjgefiomcfpmeaaDoor
