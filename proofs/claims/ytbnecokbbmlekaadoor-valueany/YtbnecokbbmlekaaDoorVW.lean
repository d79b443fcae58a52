/- ValueAny: for every value the law returns true. -/
import Derived.Test.YtbnecokbbmlekaaDoorVV
namespace Go.Proofs.YtbnecokbbmlekaaDoor
open Go.RowKit

theorem s_empty {s : ByteArray} (h : s.size = 0) : s = ⟨#[]⟩ := ba_eq (by
  have : s.data.toList = [] := List.eq_nil_of_length_eq_zero (by rw [Array.length_toList]; exact h)
  rw [this])
theorem chk1 {n : Int} {s : ByteArray} (h : chkV 1 n s = true) : s = ⟨#[]⟩ := by
  simp [chkV] at h
  exact s_empty (by rw [h.1]; rfl)
theorem chk2 {n : Int} {s : ByteArray} (h : chkV 2 n s = true) : n = 0 := by
  simp [chkV] at h
  exact h.1
theorem chk3 {n : Int} {s : ByteArray} (h : chkV 3 n s = true) : s = ⟨#[]⟩ ∧ (n = 0 ∨ n = 1) := by
  simp [chkV] at h
  exact ⟨s_empty (by rw [h.1]; rfl), h.2⟩
theorem chk4 {n : Int} {s : ByteArray} (h : chkV 4 n s = true) : n = 0 := by
  simp [chkV] at h
  exact h.1
theorem chk_kind {k n : Int} {s : ByteArray} (h : chkV k n s = true) : k = 1 ∨ k = 2 ∨ k = 3 ∨ k = 4 := by
  unfold chkV at h
  by_cases h1 : k = 1
  · exact .inl h1
  by_cases h2 : k = 2
  · exact .inr (.inl h2)
  by_cases h3 : k = 3
  · exact .inr (.inr (.inl h3))
  by_cases h4 : k = 4
  · exact .inr (.inr (.inr h4))
  · rw [if_neg h1, if_neg h2, if_neg h3, if_neg h4] at h
    cases h
theorem from_ok {k n : Int} {s : ByteArray} (h0 : k ≠ 0) (hc : chkV k n s = true) : fromV k n s = .tuple #[vv k n s, .int .i64 0] := by rw [fromV, if_neg h0, if_pos hc]

abbrev T3' (g : Nat) (W : World) (k n : Int) (s : ByteArray) : Prop := Three g W (.int .i64 k) (.int .i64 n) (.string s)

set_option maxRecDepth 100000 in
set_option maxHeartbeats 2000000 in
theorem anyl_int (n : Int) (w : World) (hs : (⟨#[]⟩ : ByteArray).size ≤ 2000) (hc : chkV 1 n (⟨#[]⟩ : ByteArray) = true) (h : VT w) :
    Calls Tryd.prog 3 #[vv 1 n (⟨#[]⟩ : ByteArray)] w fun e w' => e = .returned (.bool true) ∧ Below w.heap.size w w' := by
  have g1 : decide ((⟨#[]⟩ : ByteArray).size ≤ 2000) = true := by simpa using hs
  have hA0 := vc_below w 1 n (⟨#[]⟩ : ByteArray)
  have T0 := Three.new w 1 n (⟨#[]⟩ : ByteArray)
  have k1 := ta_int_int n
  have k2 := ta_int_string n
  have k3 := ta_int_bool n
  have k4 := ta_int_bytes n
  go_enter Tryd.func3, Tryd.ntmps3
  go_wp2_with (first | (go_at_call 6; refine (few_any _ _).mono ?_; rintro e w' ⟨rfl, rfl⟩; rw [g1]))
  refine (any_int n ⟨#[]⟩ _ (by omega) (Utf8Tabs_below h.u hA0) hc).mono ?_
  rintro e w1 ⟨rfl, hb1⟩
  have T0 := T0.below hb1
  have hA1 := hA0.trans (hb1.mono hA0.size)
  clear hb1 hA0
  go_wp2_with fail
  refine (from_any _ 1 n (⟨#[]⟩ : ByteArray) _ (by omega) (Utf8Tabs_below h.u hA1) (fun w1 _ => valueOf_int n w1)).mono ?_
  rintro e w2 ⟨rfl, hb2⟩
  rw [from_ok (by decide) hc]
  have T0 := T0.below hb2
  have hB2 := hA1.trans (hb2.mono hA1.size)
  have T4 := Three.new w2 1 n (⟨#[]⟩ : ByteArray)
  have T0 := T0.alloc (vcells 1 n (⟨#[]⟩ : ByteArray))
  have hA2 := hB2.alloc hB2.size (vcells 1 n (⟨#[]⟩ : ByteArray))
  have HT0 : Hid (T3' w.heap.size (w2.alloc (vcells 1 n (⟨#[]⟩ : ByteArray))) 1 n (⟨#[]⟩ : ByteArray)) := T0
  obtain ⟨p0, p1, p2⟩ := T0
  clear hb2 hB2 hA1
  go_wp2_with fail
  refine (check_any 1 n (⟨#[]⟩ : ByteArray) _ (by omega) (Utf8Tabs_below h.u hA2)).mono ?_
  rintro e w3 ⟨rfl, hb3⟩
  rw [hc]
  obtain ⟨p0, p1, p2⟩ := HT0.out.below hb3
  have HT0 : Hid (T3' w.heap.size w3 1 n (⟨#[]⟩ : ByteArray)) := ⟨p0, p1, p2⟩
  have T4 := T4.below hb3
  have hA3 := hA2.trans (hb3.mono hA2.size)
  have hz3 := hA3.size
  clear hb3 hA2
  go_wp2_with fail
  refine (awake_any _ (h.below hA3)).mono ?_
  rintro e w4 ⟨rfl, hb4⟩
  obtain ⟨p0, p1, p2⟩ := HT0.out.below hb4
  obtain ⟨q0, q1, q2⟩ := T4.below hb4
  have hA4 := hA3.trans (hb4.mono hA3.size)
  clear hb4 hA3
  go_wp2
  go_ret
  exact ⟨rfl, hA4⟩

set_option maxRecDepth 100000 in
set_option maxHeartbeats 2000000 in
theorem anyl_text (s : ByteArray) (w : World) (hs : (s).size ≤ 2000) (hc : chkV 2 0 (s) = true) (h : VT w) :
    Calls Tryd.prog 3 #[vv 2 0 (s)] w fun e w' => e = .returned (.bool true) ∧ Below w.heap.size w w' := by
  have g1 : decide ((s).size ≤ 2000) = true := by simpa using hs
  have hA0 := vc_below w 2 0 (s)
  have T0 := Three.new w 2 0 (s)
  have k1 := ta_string_int s
  have k2 := ta_string_string s
  have k3 := ta_string_bool s
  have k4 := ta_string_bytes s
  go_enter Tryd.func3, Tryd.ntmps3
  go_wp2_with (first | (go_at_call 6; refine (few_any _ _).mono ?_; rintro e w' ⟨rfl, rfl⟩; rw [g1]))
  refine (any_text 0 s _ (by omega) (Utf8Tabs_below h.u hA0) hc).mono ?_
  rintro e w1 ⟨rfl, hb1⟩
  have T0 := T0.below hb1
  have hA1 := hA0.trans (hb1.mono hA0.size)
  clear hb1 hA0
  go_wp2_with fail
  refine (from_any _ 2 0 (s) _ (by omega) (Utf8Tabs_below h.u hA1) (fun w1 _ => valueOf_string s w1)).mono ?_
  rintro e w2 ⟨rfl, hb2⟩
  rw [from_ok (by decide) hc]
  have T0 := T0.below hb2
  have hB2 := hA1.trans (hb2.mono hA1.size)
  have T4 := Three.new w2 2 0 (s)
  have T0 := T0.alloc (vcells 2 0 (s))
  have hA2 := hB2.alloc hB2.size (vcells 2 0 (s))
  have HT0 : Hid (T3' w.heap.size (w2.alloc (vcells 2 0 (s))) 2 0 (s)) := T0
  obtain ⟨p0, p1, p2⟩ := T0
  clear hb2 hB2 hA1
  go_wp2_with fail
  refine (check_any 2 0 (s) _ (by omega) (Utf8Tabs_below h.u hA2)).mono ?_
  rintro e w3 ⟨rfl, hb3⟩
  rw [hc]
  obtain ⟨p0, p1, p2⟩ := HT0.out.below hb3
  have HT0 : Hid (T3' w.heap.size w3 2 0 (s)) := ⟨p0, p1, p2⟩
  have T4 := T4.below hb3
  have hA3 := hA2.trans (hb3.mono hA2.size)
  have hz3 := hA3.size
  clear hb3 hA2
  go_wp2_with fail
  refine (awake_any _ (h.below hA3)).mono ?_
  rintro e w4 ⟨rfl, hb4⟩
  obtain ⟨p0, p1, p2⟩ := HT0.out.below hb4
  obtain ⟨q0, q1, q2⟩ := T4.below hb4
  have hA4 := hA3.trans (hb4.mono hA3.size)
  clear hb4 hA3
  go_wp2
  go_ret
  exact ⟨rfl, hA4⟩

set_option maxRecDepth 100000 in
set_option maxHeartbeats 2000000 in
theorem anyl_true  (w : World) (hs : (⟨#[]⟩ : ByteArray).size ≤ 2000) (hc : chkV 3 1 (⟨#[]⟩ : ByteArray) = true) (h : VT w) :
    Calls Tryd.prog 3 #[vv 3 1 (⟨#[]⟩ : ByteArray)] w fun e w' => e = .returned (.bool true) ∧ Below w.heap.size w w' := by
  have g1 : decide ((⟨#[]⟩ : ByteArray).size ≤ 2000) = true := by simpa using hs
  have hA0 := vc_below w 3 1 (⟨#[]⟩ : ByteArray)
  have T0 := Three.new w 3 1 (⟨#[]⟩ : ByteArray)
  have k1 := ta_bool_int true
  have k2 := ta_bool_string true
  have k3 := ta_bool_bool true
  have k4 := ta_bool_bytes true
  go_enter Tryd.func3, Tryd.ntmps3
  go_wp2_with (first | (go_at_call 6; refine (few_any _ _).mono ?_; rintro e w' ⟨rfl, rfl⟩; rw [g1]))
  refine (any_bool 1 ⟨#[]⟩ _ (by omega) (Utf8Tabs_below h.u hA0) hc).mono ?_
  rintro e w1 ⟨rfl, hb1⟩
  have T0 := T0.below hb1
  have hA1 := hA0.trans (hb1.mono hA0.size)
  clear hb1 hA0
  go_wp2_with fail
  refine (from_any _ 3 1 (⟨#[]⟩ : ByteArray) _ (by omega) (Utf8Tabs_below h.u hA1) (fun w1 _ => valueOf_bool true w1)).mono ?_
  rintro e w2 ⟨rfl, hb2⟩
  rw [from_ok (by decide) hc]
  have T0 := T0.below hb2
  have hB2 := hA1.trans (hb2.mono hA1.size)
  have T4 := Three.new w2 3 1 (⟨#[]⟩ : ByteArray)
  have T0 := T0.alloc (vcells 3 1 (⟨#[]⟩ : ByteArray))
  have hA2 := hB2.alloc hB2.size (vcells 3 1 (⟨#[]⟩ : ByteArray))
  have HT0 : Hid (T3' w.heap.size (w2.alloc (vcells 3 1 (⟨#[]⟩ : ByteArray))) 3 1 (⟨#[]⟩ : ByteArray)) := T0
  obtain ⟨p0, p1, p2⟩ := T0
  clear hb2 hB2 hA1
  go_wp2_with fail
  refine (check_any 3 1 (⟨#[]⟩ : ByteArray) _ (by omega) (Utf8Tabs_below h.u hA2)).mono ?_
  rintro e w3 ⟨rfl, hb3⟩
  rw [hc]
  obtain ⟨p0, p1, p2⟩ := HT0.out.below hb3
  have HT0 : Hid (T3' w.heap.size w3 3 1 (⟨#[]⟩ : ByteArray)) := ⟨p0, p1, p2⟩
  have T4 := T4.below hb3
  have hA3 := hA2.trans (hb3.mono hA2.size)
  have hz3 := hA3.size
  clear hb3 hA2
  go_wp2_with fail
  refine (awake_any _ (h.below hA3)).mono ?_
  rintro e w4 ⟨rfl, hb4⟩
  obtain ⟨p0, p1, p2⟩ := HT0.out.below hb4
  obtain ⟨q0, q1, q2⟩ := T4.below hb4
  have hA4 := hA3.trans (hb4.mono hA3.size)
  clear hb4 hA3
  go_wp2
  go_ret
  exact ⟨rfl, hA4⟩

set_option maxRecDepth 100000 in
set_option maxHeartbeats 2000000 in
theorem anyl_false  (w : World) (hs : (⟨#[]⟩ : ByteArray).size ≤ 2000) (hc : chkV 3 0 (⟨#[]⟩ : ByteArray) = true) (h : VT w) :
    Calls Tryd.prog 3 #[vv 3 0 (⟨#[]⟩ : ByteArray)] w fun e w' => e = .returned (.bool true) ∧ Below w.heap.size w w' := by
  have g1 : decide ((⟨#[]⟩ : ByteArray).size ≤ 2000) = true := by simpa using hs
  have hA0 := vc_below w 3 0 (⟨#[]⟩ : ByteArray)
  have T0 := Three.new w 3 0 (⟨#[]⟩ : ByteArray)
  have k1 := ta_bool_int false
  have k2 := ta_bool_string false
  have k3 := ta_bool_bool false
  have k4 := ta_bool_bytes false
  go_enter Tryd.func3, Tryd.ntmps3
  go_wp2_with (first | (go_at_call 6; refine (few_any _ _).mono ?_; rintro e w' ⟨rfl, rfl⟩; rw [g1]))
  refine (any_bool 0 ⟨#[]⟩ _ (by omega) (Utf8Tabs_below h.u hA0) hc).mono ?_
  rintro e w1 ⟨rfl, hb1⟩
  have T0 := T0.below hb1
  have hA1 := hA0.trans (hb1.mono hA0.size)
  clear hb1 hA0
  go_wp2_with fail
  refine (from_any _ 3 0 (⟨#[]⟩ : ByteArray) _ (by omega) (Utf8Tabs_below h.u hA1) (fun w1 _ => valueOf_bool false w1)).mono ?_
  rintro e w2 ⟨rfl, hb2⟩
  rw [from_ok (by decide) hc]
  have T0 := T0.below hb2
  have hB2 := hA1.trans (hb2.mono hA1.size)
  have T4 := Three.new w2 3 0 (⟨#[]⟩ : ByteArray)
  have T0 := T0.alloc (vcells 3 0 (⟨#[]⟩ : ByteArray))
  have hA2 := hB2.alloc hB2.size (vcells 3 0 (⟨#[]⟩ : ByteArray))
  have HT0 : Hid (T3' w.heap.size (w2.alloc (vcells 3 0 (⟨#[]⟩ : ByteArray))) 3 0 (⟨#[]⟩ : ByteArray)) := T0
  obtain ⟨p0, p1, p2⟩ := T0
  clear hb2 hB2 hA1
  go_wp2_with fail
  refine (check_any 3 0 (⟨#[]⟩ : ByteArray) _ (by omega) (Utf8Tabs_below h.u hA2)).mono ?_
  rintro e w3 ⟨rfl, hb3⟩
  rw [hc]
  obtain ⟨p0, p1, p2⟩ := HT0.out.below hb3
  have HT0 : Hid (T3' w.heap.size w3 3 0 (⟨#[]⟩ : ByteArray)) := ⟨p0, p1, p2⟩
  have T4 := T4.below hb3
  have hA3 := hA2.trans (hb3.mono hA2.size)
  have hz3 := hA3.size
  clear hb3 hA2
  go_wp2_with fail
  refine (awake_any _ (h.below hA3)).mono ?_
  rintro e w4 ⟨rfl, hb4⟩
  obtain ⟨p0, p1, p2⟩ := HT0.out.below hb4
  obtain ⟨q0, q1, q2⟩ := T4.below hb4
  have hA4 := hA3.trans (hb4.mono hA3.size)
  clear hb4 hA3
  go_wp2
  go_ret
  exact ⟨rfl, hA4⟩

set_option maxRecDepth 100000 in
set_option maxHeartbeats 2000000 in
theorem anyl_bytes (s : ByteArray) (w : World) (hs : (s).size ≤ 2000) (hc : chkV 4 0 (s) = true) (h : VT w) :
    Calls Tryd.prog 3 #[vv 4 0 (s)] w fun e w' => e = .returned (.bool true) ∧ Below w.heap.size w w' := by
  have g1 : decide ((s).size ≤ 2000) = true := by simpa using hs
  have hA0 := vc_below w 4 0 (s)
  have T0 := Three.new w 4 0 (s)
  go_enter Tryd.func3, Tryd.ntmps3
  go_wp2_with (first | (go_at_call 6; refine (few_any _ _).mono ?_; rintro e w' ⟨rfl, rfl⟩; rw [g1]))
  refine (any_bytes 0 s _ (by omega) (Utf8Tabs_below h.u hA0) hc).mono ?_
  rintro e w1 ⟨⟨v, rfl, hr⟩, hb1⟩
  have HV : Hid (∀ w2, Below w1.heap.size w1 w2 → Calls Tryd.prog 15 #[.iface 34 v] w2 fun e w' => e = .returned (vv 4 0 s) ∧ Below w2.heap.size w2 w') := fun w2 hb => by
    have := valueOf_bytesC v (numsOf s) w2 (hr.below hb)
    rw [numsOf_str] at this
    exact this
  have HR1 : Hid (RowC w1 v (numsOf s)) := hr
  obtain ⟨av, cv, rfl⟩ := hr.form
  have k1 := ta_bytes_int av (numsOf s).length cv
  have k2 := ta_bytes_string av (numsOf s).length cv
  have k3 := ta_bytes_bool av (numsOf s).length cv
  have k4 := ta_bytes_bytes av (numsOf s).length cv
  clear hr
  have T0 := T0.below hb1
  have hA1 := hA0.trans (hb1.mono hA0.size)
  clear hb1 hA0
  go_wp2_with fail
  refine (from_any _ 4 0 (s) _ (by omega) (Utf8Tabs_below h.u hA1) (fun w2 hb => HV.out w2 hb)).mono ?_
  rintro e w2 ⟨rfl, hb2⟩
  rw [from_ok (by decide) hc]
  have T0 := T0.below hb2
  have hB2 := hA1.trans (hb2.mono hA1.size)
  have T4 := Three.new w2 4 0 (s)
  have T0 := T0.alloc (vcells 4 0 (s))
  have hA2 := hB2.alloc hB2.size (vcells 4 0 (s))
  have HR2 : Hid (RowC (w2.alloc (vcells 4 0 s)) (.slice av (numsOf s).length cv) (numsOf s)) := (HR1.out.below hb2).below (vc_below w2 4 0 s)
  have HT0 : Hid (T3' w.heap.size (w2.alloc (vcells 4 0 (s))) 4 0 (s)) := T0
  obtain ⟨p0, p1, p2⟩ := T0
  clear hb2 hB2 hA1
  go_wp2_with fail
  refine (check_any 4 0 (s) _ (by omega) (Utf8Tabs_below h.u hA2)).mono ?_
  rintro e w3 ⟨rfl, hb3⟩
  rw [hc]
  obtain ⟨p0, p1, p2⟩ := HT0.out.below hb3
  have HT0 : Hid (T3' w.heap.size w3 4 0 (s)) := ⟨p0, p1, p2⟩
  have T4 := T4.below hb3
  have hA3 := hA2.trans (hb3.mono hA2.size)
  have hz3 := hA3.size
  have HR3 : Hid (RowC w3 (.slice av (numsOf s).length cv) (numsOf s)) := HR2.out.below hb3
  clear hb3 hA2
  go_wp2_with fail
  refine (awake_any _ (h.below hA3)).mono ?_
  rintro e w4 ⟨rfl, hb4⟩
  obtain ⟨p0, p1, p2⟩ := HT0.out.below hb4
  obtain ⟨q0, q1, q2⟩ := T4.below hb4
  have hcv := conv_rowC (HR3.out.below hb4)
  rw [numsOf_str] at hcv
  have hA4 := hA3.trans (hb4.mono hA3.size)
  clear hb4 hA3
  go_wp2
  go_ret
  exact ⟨rfl, hA4⟩

set_option maxRecDepth 100000 in
set_option maxHeartbeats 2000000 in
theorem anyl_no (k n : Int) (s : ByteArray) (w : World) (hs : s.size ≤ 2000) (hc : chkV k n s = false) (h : VT w) :
    Calls Tryd.prog 3 #[vv k n s] w fun e w' => e = .returned (.bool true) ∧ Below w.heap.size w w' := by
  have g1 : decide (s.size ≤ 2000) = true := by simpa using hs
  have hA0 := vc_below w k n s
  have T0 := Three.new w k n s
  have HF : Hid (∀ w, UT w → Calls Tryd.prog 9 #[.nilIface] w fun e w' => e = .returned (.tuple #[v0, .int .i64 8]) ∧ Below w.heap.size w w') := fun w hU => by
    have := from_any .nilIface 0 0 ⟨#[]⟩ w (by decide) hU (fun w1 _ => valueOf_nil w1)
    rw [fromV, if_pos rfl] at this
    exact this
  go_enter Tryd.func3, Tryd.ntmps3
  go_wp2_with (first | (go_at_call 6; refine (few_any _ _).mono ?_; rintro e w' ⟨rfl, rfl⟩; rw [g1]))
  refine (any_no k n s _ (by omega) (Utf8Tabs_below h.u hA0) hc).mono ?_
  rintro e w1 ⟨rfl, hb1⟩
  have T0 := T0.below hb1
  have hA1 := hA0.trans (hb1.mono hA0.size)
  clear hb1 hA0
  go_wp2_with fail
  refine (HF.out _ (Utf8Tabs_below h.u hA1)).mono ?_
  rintro e w2 ⟨rfl, hb2⟩
  have T0 := T0.below hb2
  have hB2 := hA1.trans (hb2.mono hA1.size)
  have T4 := Three.new w2 0 0 ⟨#[]⟩
  have T0 := T0.alloc (vcells 0 0 ⟨#[]⟩)
  have hA2 := hB2.alloc hB2.size (vcells 0 0 ⟨#[]⟩)
  obtain ⟨p0, p1, p2⟩ := T0
  clear hb2 hB2 hA1
  go_wp2_with fail
  refine (check_any k n s _ (by omega) (Utf8Tabs_below h.u hA2)).mono ?_
  rintro e w3 ⟨rfl, hb3⟩
  rw [hc]
  have T4 := T4.below hb3
  have hA3 := hA2.trans (hb3.mono hA2.size)
  clear hb3 hA2 p0 p1 p2
  go_wp2_with fail
  refine (awake_any _ (h.below hA3)).mono ?_
  rintro e w4 ⟨rfl, hb4⟩
  obtain ⟨q0, q1, q2⟩ := T4.below hb4
  have hA4 := hA3.trans (hb4.mono hA3.size)
  clear hb4 hA3
  go_wp2
  go_ret
  exact ⟨rfl, hA4⟩
set_option maxRecDepth 100000 in
theorem valueAny_walk (k n : Int) (s : ByteArray) (w : World) (h : VT w) :
    Calls Tryd.prog 3 #[vv k n s] w fun e w' => e = .returned (.bool true) ∧ Below w.heap.size w w' := by
  by_cases hs : s.size ≤ 2000
  · by_cases hc : chkV k n s = true
    · rcases chk_kind hc with rfl | rfl | rfl | rfl
      · obtain rfl := chk1 hc
        exact anyl_int n w hs hc h
      · obtain rfl := chk2 hc
        exact anyl_text s w hs hc h
      · obtain ⟨rfl, rfl | rfl⟩ := chk3 hc
        · exact anyl_false w hs hc h
        · exact anyl_true w hs hc h
      · obtain rfl := chk4 hc
        exact anyl_bytes s w hs hc h
    · exact anyl_no k n s w hs (by simpa using hc) h
  · have g1 : decide (s.size ≤ 2000) = false := by simpa using hs
    have hA0 := vc_below w k n s
    go_enter Tryd.func3, Tryd.ntmps3
    go_wp2_with (first | (go_at_call 6; refine (few_any _ _).mono ?_; rintro e w' ⟨rfl, rfl⟩; rw [g1]))
    refine (awake_any _ (h.below hA0)).mono ?_
    rintro e w2 ⟨rfl, hb2⟩
    have hA2 := hA0.trans (hb2.mono hA0.size)
    clear hb2
    go_wp2
    go_ret
    exact ⟨rfl, hA2⟩
end Go.Proofs.YtbnecokbbmlekaaDoor
