/- The reference's Valid and its Check of a value: walks. -/
import Derived.Test.YthkboelloejejaaGreatDoorVHf
import Derived.Test.YthkboelloejejaaGreatDoorVH
import Derived.Lib.RuneCountTail
namespace Go.Proofs.YthkboelloejejaaGreatDoor
open Go.RowKit Go.Lib

theorem ext_list (s : ByteArray) (pos : Nat) : (s.extract pos s.size).data.toList = s.data.toList.drop pos := by
  rw [extract_data]
  apply List.take_of_length_le
  rw [List.length_drop, Array.length_toList]
  exact Nat.le_refl _
theorem fst_at (s : ByteArray) (pos : Nat) (h : pos < s.size) : fst (s.extract pos s.size) = if (Utf8.decode s pos).1 = 65533 ∧ (Utf8.decode s pos).2 = 1 then (0, 0) else Utf8.decode s pos := by
  have e : Utf8.decode (s.extract pos s.size) 0 = Utf8.decode s pos := by
    rw [← decodeL_drop, ← decodeL_drop, List.drop_zero, ext_list]
  have hz : ¬ (s.extract pos s.size).size = 0 := by rw [tail_size]; omega
  unfold fst
  rw [e]
  simp only [hz, false_or]
theorem drop_ne (s : ByteArray) (pos : Nat) (h : pos < s.size) : s.data.toList.drop pos ≠ [] := by
  intro e
  have := congrArg List.length e
  rw [List.length_drop, Array.length_toList] at this
  have e2 : s.data.size = s.size := rfl
  simp at this
  omega
theorem valid_at (s : ByteArray) (pos : Nat) (h : pos < s.size) : validD (s.data.toList.drop pos) = if (Utf8.decode s pos).1 = 65533 ∧ (Utf8.decode s pos).2 = 1 then false else validD (s.data.toList.drop (pos + (Utf8.decode s pos).2)) := by
  rw [validD_step _ (drop_ne s pos h), decodeL_drop, List.drop_drop]
theorem width_le (s : ByteArray) (pos : Nat) (h : pos < s.size) : pos + (Utf8.decode s pos).2 ≤ s.size := by
  have h1 := decodeL_le _ (drop_ne s pos h)
  rw [decodeL_drop, List.length_drop, Array.length_toList] at h1
  have e2 : s.data.size = s.size := rfl
  omega
theorem slice_ok (s : ByteArray) (pos : Nat) : (s.extract pos s.size).size ≤ s.size := by rw [tail_size]; omega

set_option maxRecDepth 100000 in
set_option maxHeartbeats 2000000 in
theorem refValid_any (s : ByteArray) (w : World) (hs : s.size ≤ 140737488355328) :
    Calls Tryz.prog 56 #[.string s] w fun e w' => e = .returned (.bool (validD s.data.toList)) ∧ Below w.heap.size w w' := by
  obtain ⟨V, HV⟩ : ∃ V, Hid (validD s.data.toList = V) := ⟨_, rfl⟩
  rw [HV.out]
  go_enter Tryz.func56, Tryz.ntmps56
  go_wp2
  go_loopw [3] (fun i wr => ∃ pos : Nat, pos ≤ s.size ∧ i = .int .i64 pos ∧ Hid (validD (s.data.toList.drop pos) = V) ∧ Below w.heap.size w wr) (fun i _ => s.size - (RowKit.intOf i).toNat)
  case atStart => exact ⟨0, Nat.zero_le _, rfl, HV, Below.refl _ _⟩
  case round =>
    obtain ⟨pos, hp, rfl, hv, hb⟩ := hrel
    by_cases hlt : pos < s.size
    · have hi : (pos : Int) < s.size := by omega
      have hsl := slice_ok s pos
      have hwl := width_le s pos hlt
      have hw1 := width_pos s pos
      have hfa := fst_at s pos hlt
      have hva : Hid _ := valid_at s pos hlt
      have hbs := hb.size
      by_cases hbad : (Utf8.decode s pos).1 = 65533 ∧ (Utf8.decode s pos).2 = 1
      · rw [if_pos hbad] at hfa
        have HR : Hid (false = V) := by show _ = _; rw [← hv.out, hva.out, if_pos hbad]
        clear hva hbad hwl hw1
        go_wp2_with fail
        refine (first_any _ _ (by omega)).mono ?_
        rintro e w1 ⟨rfl, hb1⟩
        rw [hfa]
        have hb2 : Hid (Below w.heap.size w w1) := hb.trans (hb1.mono hb.size)
        have hs1 := hb1.size
        clear hb1 hfa
        go_wp2
        go_ret
        exact ⟨by rw [← HR.out]; rfl, hb2.out.alloc (by omega) _⟩
      · rw [if_neg hbad] at hfa
        have HR : Hid (validD (s.data.toList.drop (pos + (Utf8.decode s pos).2)) = V) := by show _ = _; rw [← hv.out, hva.out, if_neg hbad]
        clear hva hbad
        generalize (Utf8.decode s pos) = dc at *
        obtain ⟨c, d⟩ := dc
        simp only at hwl hw1 HR
        have hd0 : ((d : Int) == 0) = false := by rw [beq_eq_false_iff_ne]; omega
        go_wp2_with fail
        refine (first_any _ _ (by omega)).mono ?_
        rintro e w1 ⟨rfl, hb1⟩
        rw [show (fst (s.extract pos s.size)).1 = c by rw [hfa], show (fst (s.extract pos s.size)).2 = d by rw [hfa]]
        have hb2 : Hid (Below w.heap.size w w1) := hb.trans (hb1.mono hb.size)
        have hs1 := hb1.size
        clear hb1 hfa
        go_wp2
        go_roundw
        case rel => exact ⟨pos + d, hwl, by go_num, HR, hb2.out.alloc (by omega) _⟩
        case measure => simp [RowKit.intOf]; omega
    · have HR : Hid (true = V) := by
        show _ = _
        rw [← hv.out, List.drop_of_length_le (by rw [Array.length_toList]; exact Nat.le_of_not_lt hlt)]
        rfl
      have hp' : pos = s.size := by omega
      subst hp'
      go_wp2
      go_ret
      exact ⟨by rw [← HR.out]; rfl, hb⟩

set_option maxRecDepth 100000 in
set_option maxHeartbeats 2000000 in
theorem refCheck_any (k n : Int) (s : ByteArray) (w : World) (hs : s.size ≤ 140737488355328) :
    Calls Tryz.prog 26 #[vv k n s] w fun e w' => e = .returned (.bool (chkV k n s)) ∧ Below w.heap.size w w' := by
  obtain ⟨C, HC⟩ : ∃ C, Hid (chkV k n s = C) := ⟨_, rfl⟩
  rw [HC.out]
  have hb1 : Below w.heap.size w (w.alloc (.cells #[.int .i64 k, .int .i64 n, .string s] 28)) := (Below.refl _ _).alloc (Nat.le_refl _) _
  by_cases e1 : k = 1
  · subst e1
    have hc := HC.out
    simp only [chkV, if_true] at hc
    by_cases ha : -9007199254740991 ≤ n
    · have ha' : decide (-9007199254740991 ≤ n) = true := by simpa using ha
      by_cases hb : n ≤ 9007199254740991
      · have hb' : decide (n ≤ 9007199254740991) = true := by simpa using hb
        by_cases h0 : s.size = 0
        · have he := empty_is s h0
          have HR : Hid (true = C) := by show _ = _; rw [← hc, h0]; simp [ha, hb]
          clear hc HC
          go_enter Tryz.func26, Tryz.ntmps26
          go_wp2
          go_ret
          exact ⟨by rw [← HR.out]; rfl, hb1⟩
        · have he := empty_not s h0
          have HR : Hid (false = C) := by show _ = _; rw [← hc]; simp [h0]
          clear hc HC
          go_enter Tryz.func26, Tryz.ntmps26
          go_wp2
          go_ret
          exact ⟨by rw [← HR.out]; rfl, hb1⟩
      · have hb' : decide (n ≤ 9007199254740991) = false := by simpa using hb
        have HR : Hid (false = C) := by show _ = _; rw [← hc]; simp [hb]
        clear hc HC
        go_enter Tryz.func26, Tryz.ntmps26
        go_wp2
        go_ret
        exact ⟨by rw [← HR.out]; rfl, hb1⟩
    · have ha' : decide (-9007199254740991 ≤ n) = false := by simpa using ha
      have HR : Hid (false = C) := by show _ = _; rw [← hc]; simp [ha]
      clear hc HC
      go_enter Tryz.func26, Tryz.ntmps26
      go_wp2
      go_ret
      exact ⟨by rw [← HR.out]; rfl, hb1⟩
  have f1 : (k == 1) = false := by rw [beq_eq_false_iff_ne]; exact e1
  by_cases e2 : k = 2
  · subst e2
    have hc := HC.out
    simp only [chkV, e1, if_false, if_true] at hc
    by_cases h0 : n = 0
    · subst h0
      by_cases h2 : s.size ≤ 200
      · have h2' : decide ((s.size : Int) ≤ 200) = true := by simp; omega
        have HR : Hid (Lib.validD s.data.toList = C) := by show _ = _; rw [← hc]; simp [h2]
        clear hc HC e1
        go_enter Tryz.func26, Tryz.ntmps26
        go_wp2_with fail
        refine (refValid_any s _ (by omega)).mono ?_
        rintro e w1 ⟨rfl, hb2⟩
        rw [HR.out]
        have hb3 : Hid (Below w.heap.size w w1) := hb1.trans (hb2.mono hb1.size)
        clear hb1 hb2
        go_wp2
        go_ret
        exact ⟨rfl, hb3.out⟩
      · have h2' : decide ((s.size : Int) ≤ 200) = false := by simp; omega
        have HR : Hid (false = C) := by show _ = _; rw [← hc]; simp [h2]
        clear hc HC e1
        go_enter Tryz.func26, Tryz.ntmps26
        go_wp2
        go_ret
        exact ⟨by rw [← HR.out]; rfl, hb1⟩
    · have h0' : (n == 0) = false := by rw [beq_eq_false_iff_ne]; exact h0
      have HR : Hid (false = C) := by show _ = _; rw [← hc]; simp [h0]
      clear hc HC e1
      go_enter Tryz.func26, Tryz.ntmps26
      go_wp2
      go_ret
      exact ⟨by rw [← HR.out]; rfl, hb1⟩
  have f2 : (k == 2) = false := by rw [beq_eq_false_iff_ne]; exact e2
  by_cases e3 : k = 3
  · subst e3
    have hc := HC.out
    simp only [chkV, e1, e2, if_false, if_true] at hc
    by_cases hn : n = 0
    · subst hn
      by_cases h0 : s.size = 0
      · have he := empty_is s h0
        have HR : Hid (true = C) := by show _ = _; rw [← hc, h0]; simp
        clear hc HC e1 e2
        go_enter Tryz.func26, Tryz.ntmps26
        go_wp2
        go_ret
        exact ⟨by rw [← HR.out]; rfl, hb1⟩
      · have he := empty_not s h0
        have HR : Hid (false = C) := by show _ = _; rw [← hc]; simp [h0]
        clear hc HC e1 e2
        go_enter Tryz.func26, Tryz.ntmps26
        go_wp2
        go_ret
        exact ⟨by rw [← HR.out]; rfl, hb1⟩
    · have hn' : (n == 0) = false := by rw [beq_eq_false_iff_ne]; exact hn
      by_cases h1 : n = 1
      · subst h1
        by_cases h0 : s.size = 0
        · have he := empty_is s h0
          have HR : Hid (true = C) := by show _ = _; rw [← hc, h0]; simp
          clear hc HC e1 e2
          go_enter Tryz.func26, Tryz.ntmps26
          go_wp2
          go_ret
          exact ⟨by rw [← HR.out]; rfl, hb1⟩
        · have he := empty_not s h0
          have HR : Hid (false = C) := by show _ = _; rw [← hc]; simp [h0]
          clear hc HC e1 e2
          go_enter Tryz.func26, Tryz.ntmps26
          go_wp2
          go_ret
          exact ⟨by rw [← HR.out]; rfl, hb1⟩
      · have h1' : (n == 1) = false := by rw [beq_eq_false_iff_ne]; exact h1
        have HR : Hid (false = C) := by show _ = _; rw [← hc]; simp [hn, h1]
        clear hc HC e1 e2
        go_enter Tryz.func26, Tryz.ntmps26
        go_wp2
        go_ret
        exact ⟨by rw [← HR.out]; rfl, hb1⟩
  have f3 : (k == 3) = false := by rw [beq_eq_false_iff_ne]; exact e3
  by_cases e4 : k = 4
  · subst e4
    have hc := HC.out
    simp only [chkV, e1, e2, e3, if_false, if_true] at hc
    by_cases h0 : n = 0
    · subst h0
      have HR : Hid (decide (s.size ≤ 200) = C) := by show _ = _; rw [← hc]; simp
      have HQ : Hid (decide ((s.size : Int) ≤ 200) = decide (s.size ≤ 200)) := by show _ = _; rw [Bool.eq_iff_iff]; simp; omega
      clear hc HC e1 e2 e3
      go_enter Tryz.func26, Tryz.ntmps26
      go_wp2
      go_ret
      exact ⟨by rw [← HR.out]; first | rfl | (rw [← HQ.out]; rfl), hb1⟩
    · have h0' : (n == 0) = false := by rw [beq_eq_false_iff_ne]; exact h0
      have HR : Hid (false = C) := by show _ = _; rw [← hc]; simp [h0]
      clear hc HC e1 e2 e3
      go_enter Tryz.func26, Tryz.ntmps26
      go_wp2
      go_ret
      exact ⟨by rw [← HR.out]; rfl, hb1⟩
  have f4 : (k == 4) = false := by rw [beq_eq_false_iff_ne]; exact e4
  have HR : Hid (false = C) := by show _ = _; rw [← HC.out, chkV, if_neg e1, if_neg e2, if_neg e3, if_neg e4]
  clear HC e1 e2 e3 e4
  go_enter Tryz.func26, Tryz.ntmps26
  go_wp2
  go_ret
  exact ⟨by rw [← HR.out]; rfl, hb1⟩

theorem results_r1 {fn : Func} {p : Tmp} (h : fn.results = #[.cell p 28]) (tmps : Array Value) (W : World) (b : Nat) (hp : tmps.getD p undef = .pointer (some ⟨b, 0, none⟩)) {k n : Int} {s : ByteArray} (c0 : W.cell? ⟨b, 0, none⟩ = some (.int .i64 k)) (c1 : W.cell? ⟨b, 1, none⟩ = some (.int .i64 n)) (c2 : W.cell? ⟨b, 2, none⟩ = some (.string s)) :
    (results fn tmps).run Tryz.prog W = .ok (vv k n s) W := by
  have e1 : (results fn tmps).run Tryz.prog W = ((asAddr (tmps.getD p undef)).run Tryz.prog W).andThen fun a w₁ => (loadVar 28 a).run Tryz.prog w₁ := by
    simp only [results, h]
    simp [Sem.run_bind, Result.andThen]
  rw [e1, hp]
  have e : (asAddr (.pointer (some ⟨b, 0, none⟩))).run Tryz.prog W = .ok ⟨b, 0, none⟩ W := rfl
  rw [e]
  simp only [Result.andThen]
  go_simp
theorem ref_any (k n : Int) (s : ByteArray) (w : World) :
    Calls Tryz.prog 12 #[vv k n s] w fun e w' => e = .returned (vv k n s) ∧ Below w.heap.size w w' := by
  go_enter Tryz.func12, Tryz.ntmps12
  go_wp2
  try simp only [Exit.inBlock, Exit.then]
  exact bodyPost_ret (results_r1 rfl _ _ (w.heap.size + 1) rfl (by simp) (by simp) (by simp)) rfl ⟨rfl, ((Below.refl _ _).alloc (Nat.le_refl _) _).alloc (by simp) _⟩
end Go.Proofs.YthkboelloejejaaGreatDoor
