/- The reference's Check of a value (VS over again beside the names), its Simple, same, may: walks. -/
import Derived.Test.YtnmfonpchbjeoaaGreatDoorEO
import Derived.Test.YtnmfonpchbjeoaaGreatDoorNZd
namespace Go.Proofs.YtnmfonpchbjeoaaGreatDoor
open Go.RowKit

set_option maxRecDepth 100000 in
set_option maxHeartbeats 2000000 in
theorem refVCheck_any (k n : Int) (s : ByteArray) (w : World) (hs : s.size ≤ 140737488355328) :
    Calls Tryz.prog 42 #[vv k n s] w fun e w' => e = .returned (.bool (chkV k n s)) ∧ Below w.heap.size w w' := by
  obtain ⟨C, HC⟩ : ∃ C, Hid (chkV k n s = C) := ⟨_, rfl⟩
  rw [HC.out]
  have hb1 : Below w.heap.size w (w.alloc (.cells #[.int .i64 k, .int .i64 n, .string s] 67)) := (Below.refl _ _).alloc (Nat.le_refl _) _
  by_cases e1 : k = 1
  · subst e1
    have hc := HC.out
    simp only [chkV, if_true] at hc
    by_cases ha : -9007199254740991 ≤ n
    · have ha' : decide (-9007199254740991 ≤ n) = true := by simpa using ha
      by_cases hb : n ≤ 9007199254740991
      · have hb' : decide (n ≤ 9007199254740991) = true := by simpa using hb
        by_cases h0 : s.size = 0
        · have he := empty_is s h0
          have HR : Hid (true = C) := by show _ = _; rw [← hc, h0]; simp [ha, hb]
          clear hc HC
          go_enter Tryz.func42, Tryz.ntmps42
          go_wp2
          go_ret
          exact ⟨by rw [← HR.out]; rfl, hb1⟩
        · have he := empty_not s h0
          have HR : Hid (false = C) := by show _ = _; rw [← hc]; simp [h0]
          clear hc HC
          go_enter Tryz.func42, Tryz.ntmps42
          go_wp2
          go_ret
          exact ⟨by rw [← HR.out]; rfl, hb1⟩
      · have hb' : decide (n ≤ 9007199254740991) = false := by simpa using hb
        have HR : Hid (false = C) := by show _ = _; rw [← hc]; simp [hb]
        clear hc HC
        go_enter Tryz.func42, Tryz.ntmps42
        go_wp2
        go_ret
        exact ⟨by rw [← HR.out]; rfl, hb1⟩
    · have ha' : decide (-9007199254740991 ≤ n) = false := by simpa using ha
      have HR : Hid (false = C) := by show _ = _; rw [← hc]; simp [ha]
      clear hc HC
      go_enter Tryz.func42, Tryz.ntmps42
      go_wp2
      go_ret
      exact ⟨by rw [← HR.out]; rfl, hb1⟩
  have f1 : (k == 1) = false := by rw [beq_eq_false_iff_ne]; exact e1
  by_cases e2 : k = 2
  · subst e2
    have hc := HC.out
    simp only [chkV, e1, if_false, if_true] at hc
    by_cases h0 : n = 0
    · subst h0
      by_cases h2 : s.size ≤ 200
      · have h2' : decide ((s.size : Int) ≤ 200) = true := by simp; omega
        have HR : Hid (Lib.validD s.data.toList = C) := by show _ = _; rw [← hc]; simp [h2]
        clear hc HC e1
        go_enter Tryz.func42, Tryz.ntmps42
        go_wp2_with fail
        refine (refValid_any s _ (by omega)).mono ?_
        rintro e w1 ⟨rfl, hb2⟩
        rw [HR.out]
        have hb3 : Hid (Below w.heap.size w w1) := hb1.trans (hb2.mono hb1.size)
        clear hb1 hb2
        go_wp2
        go_ret
        exact ⟨rfl, hb3.out⟩
      · have h2' : decide ((s.size : Int) ≤ 200) = false := by simp; omega
        have HR : Hid (false = C) := by show _ = _; rw [← hc]; simp [h2]
        clear hc HC e1
        go_enter Tryz.func42, Tryz.ntmps42
        go_wp2
        go_ret
        exact ⟨by rw [← HR.out]; rfl, hb1⟩
    · have h0' : (n == 0) = false := by rw [beq_eq_false_iff_ne]; exact h0
      have HR : Hid (false = C) := by show _ = _; rw [← hc]; simp [h0]
      clear hc HC e1
      go_enter Tryz.func42, Tryz.ntmps42
      go_wp2
      go_ret
      exact ⟨by rw [← HR.out]; rfl, hb1⟩
  have f2 : (k == 2) = false := by rw [beq_eq_false_iff_ne]; exact e2
  by_cases e3 : k = 3
  · subst e3
    have hc := HC.out
    simp only [chkV, e1, e2, if_false, if_true] at hc
    by_cases hn : n = 0
    · subst hn
      by_cases h0 : s.size = 0
      · have he := empty_is s h0
        have HR : Hid (true = C) := by show _ = _; rw [← hc, h0]; simp
        clear hc HC e1 e2
        go_enter Tryz.func42, Tryz.ntmps42
        go_wp2
        go_ret
        exact ⟨by rw [← HR.out]; rfl, hb1⟩
      · have he := empty_not s h0
        have HR : Hid (false = C) := by show _ = _; rw [← hc]; simp [h0]
        clear hc HC e1 e2
        go_enter Tryz.func42, Tryz.ntmps42
        go_wp2
        go_ret
        exact ⟨by rw [← HR.out]; rfl, hb1⟩
    · have hn' : (n == 0) = false := by rw [beq_eq_false_iff_ne]; exact hn
      by_cases h1 : n = 1
      · subst h1
        by_cases h0 : s.size = 0
        · have he := empty_is s h0
          have HR : Hid (true = C) := by show _ = _; rw [← hc, h0]; simp
          clear hc HC e1 e2
          go_enter Tryz.func42, Tryz.ntmps42
          go_wp2
          go_ret
          exact ⟨by rw [← HR.out]; rfl, hb1⟩
        · have he := empty_not s h0
          have HR : Hid (false = C) := by show _ = _; rw [← hc]; simp [h0]
          clear hc HC e1 e2
          go_enter Tryz.func42, Tryz.ntmps42
          go_wp2
          go_ret
          exact ⟨by rw [← HR.out]; rfl, hb1⟩
      · have h1' : (n == 1) = false := by rw [beq_eq_false_iff_ne]; exact h1
        have HR : Hid (false = C) := by show _ = _; rw [← hc]; simp [hn, h1]
        clear hc HC e1 e2
        go_enter Tryz.func42, Tryz.ntmps42
        go_wp2
        go_ret
        exact ⟨by rw [← HR.out]; rfl, hb1⟩
  have f3 : (k == 3) = false := by rw [beq_eq_false_iff_ne]; exact e3
  by_cases e4 : k = 4
  · subst e4
    have hc := HC.out
    simp only [chkV, e1, e2, e3, if_false, if_true] at hc
    by_cases h0 : n = 0
    · subst h0
      have HR : Hid (decide (s.size ≤ 200) = C) := by show _ = _; rw [← hc]; simp
      have HQ : Hid (decide ((s.size : Int) ≤ 200) = decide (s.size ≤ 200)) := by show _ = _; rw [Bool.eq_iff_iff]; simp; omega
      clear hc HC e1 e2 e3
      go_enter Tryz.func42, Tryz.ntmps42
      go_wp2
      go_ret
      exact ⟨by rw [← HR.out]; first | rfl | (rw [← HQ.out]; rfl), hb1⟩
    · have h0' : (n == 0) = false := by rw [beq_eq_false_iff_ne]; exact h0
      have HR : Hid (false = C) := by show _ = _; rw [← hc]; simp [h0]
      clear hc HC e1 e2 e3
      go_enter Tryz.func42, Tryz.ntmps42
      go_wp2
      go_ret
      exact ⟨by rw [← HR.out]; rfl, hb1⟩
  have f4 : (k == 4) = false := by rw [beq_eq_false_iff_ne]; exact e4
  have HR : Hid (false = C) := by show _ = _; rw [← HC.out, chkV, if_neg e1, if_neg e2, if_neg e3, if_neg e4]
  clear HC e1 e2 e3 e4
  go_enter Tryz.func42, Tryz.ntmps42
  go_wp2
  go_ret
  exact ⟨by rw [← HR.out]; rfl, hb1⟩

theorem results_r1 {fn : Func} {p : Tmp} (h : fn.results = #[.cell p 67]) (tmps : Array Value) (W : World) (b : Nat) (hp : tmps.getD p undef = .pointer (some ⟨b, 0, none⟩)) {k n : Int} {s : ByteArray} (c0 : W.cell? ⟨b, 0, none⟩ = some (.int .i64 k)) (c1 : W.cell? ⟨b, 1, none⟩ = some (.int .i64 n)) (c2 : W.cell? ⟨b, 2, none⟩ = some (.string s)) :
    (results fn tmps).run Tryz.prog W = .ok (vv k n s) W := by
  have e1 : (results fn tmps).run Tryz.prog W = ((asAddr (tmps.getD p undef)).run Tryz.prog W).andThen fun a w₁ => (loadVar 67 a).run Tryz.prog w₁ := by
    simp only [results, h]
    simp [Sem.run_bind, Result.andThen]
  rw [e1, hp]
  have e : (asAddr (.pointer (some ⟨b, 0, none⟩))).run Tryz.prog W = .ok ⟨b, 0, none⟩ W := rfl
  rw [e]
  simp only [Result.andThen]
  go_simp
set_option maxRecDepth 100000 in
theorem refSimple_any (s : ByteArray) (w : World) (hs : s.size ≤ 900000) :
    Calls Tryz.prog 41 #[.string s] w fun e w' => e = .returned (.bool (oneP s)) ∧ Below w.heap.size w w' := by
  have HC : Hid (Calls Tryz.prog 60 #[.string s] w fun e w' => e = .returned (.int .i64 (checkL s.data.toList)) ∧ Below w.heap.size w w') := refCheck_any s w hs
  by_cases hc : checkL s.data.toList = 0
  · have e0 : oneP s = decide ((cutB s.data.toList).length = 1) := by unfold oneP; rw [decide_eq_true hc, Bool.true_and]
    rw [e0]
    have HP : Hid (∀ w', Calls Tryz.prog 61 #[.string s] w' fun e w'' => PaPost (cutB s.data.toList) w' e w'') := fun w' => refParts_ok s w' hs hc
    rw [hc] at HC
    clear e0 hc
    generalize cutB s.data.toList = L at *
    go_enter Tryz.func41, Tryz.ntmps41
    go_wp2_with fail
    refine HC.out.mono ?_
    rintro e w1 ⟨rfl, hb⟩
    have HB : Hid (Below w.heap.size w w1) := hb
    clear hb
    go_wp2_with fail
    refine (HP.out w1).mono ?_
    rintro e w2 ⟨v, rfl, hr, hb⟩
    obtain ⟨a, cap, rfl⟩ := hr.form
    have HB2 : Hid (Below w.heap.size w w2) := HB.out.trans (hb.mono HB.out.size)
    have HE : Hid (((L.length : Int) == 1) = decide (L.length = 1)) := by show _ = _; rw [Bool.eq_iff_iff]; simp; omega
    clear hr hb
    go_wp2
    go_ret
    exact ⟨by rw [← HE.out]; rfl, HB2.out⟩
  · have e0 : oneP s = false := by unfold oneP; rw [decide_eq_false hc, Bool.false_and]
    rw [e0]
    have dn : (checkL s.data.toList == 0) = false := by rw [beq_eq_false_iff_ne]; exact hc
    generalize checkL s.data.toList = c at *
    clear hc e0
    go_enter Tryz.func41, Tryz.ntmps41
    go_wp2_with fail
    refine HC.out.mono ?_
    rintro e w1 ⟨rfl, hb⟩
    have HB : Hid (Below w.heap.size w w1) := hb
    clear hb
    go_wp2
    go_ret
    exact ⟨rfl, HB.out⟩
theorem eq_str (A B : List UInt8) : ((str A).toList == (str B).toList) = decide (A = B) := by
  rw [ByteArray.toList_eq, ByteArray.toList_eq, str_data, str_data, Bool.eq_iff_iff]; simp
set_option maxRecDepth 100000 in
theorem refSameN_any (a b : ByteArray) (w : World) (ha : a.size ≤ 1000000) (hb : b.size ≤ 1000000) :
    Calls Tryz.prog 34 #[.string a, .string b] w fun e w' => e = .returned (.bool (sameL a.data.toList b.data.toList)) ∧ Below w.heap.size w w' := by
  have HE : Hid (((str (foldL a.data.toList)).toList == (str (foldL b.data.toList)).toList) = sameL a.data.toList b.data.toList) := eq_str _ _
  have HA : Hid (Calls Tryz.prog 52 #[.string a] w fun e w' => e = .returned (.string (str (foldL a.data.toList))) ∧ Below w.heap.size w w') := refFold_any a w ha
  have HB : Hid (∀ w', Calls Tryz.prog 52 #[.string b] w' fun e w'' => e = .returned (.string (str (foldL b.data.toList))) ∧ Below w'.heap.size w' w'') := fun w' => refFold_any b w' hb
  generalize str (foldL a.data.toList) = A at *
  generalize str (foldL b.data.toList) = B at *
  generalize sameL a.data.toList b.data.toList = r at *
  go_enter Tryz.func34, Tryz.ntmps34
  go_wp2_with fail
  refine HA.out.mono ?_
  rintro e w1 ⟨rfl, h1⟩
  have H1 : Hid (Below w.heap.size w w1) := h1
  clear h1
  go_wp2_with fail
  refine (HB.out w1).mono ?_
  rintro e w2 ⟨rfl, h2⟩
  have H2 : Hid (Below w.heap.size w w2) := H1.out.trans (h2.mono H1.out.size)
  clear h2
  go_wp2
  go_ret
  exact ⟨by rw [← HE.out]; rfl, H2.out⟩
set_option maxRecDepth 100000 in
theorem refMay_any (x : Fd) (w : World) (hs : x.n.size ≤ 900000) :
    Calls Tryz.prog 33 #[fV x] w fun e w' => e = .returned (.bool (mayF x)) ∧ Below w.heap.size w w' := by
  obtain ⟨s, k, m⟩ := x
  have hA := al_b w (.cells #[.string s, .int .i64 k, .bool m] 64)
  have HS : Hid (Calls Tryz.prog 41 #[.string s] (w.alloc (.cells #[.string s, .int .i64 k, .bool m] 64)) fun e w' => e = .returned (.bool (oneP s)) ∧ Below (w.alloc (.cells #[.string s, .int .i64 k, .bool m] 64)).heap.size (w.alloc (.cells #[.string s, .int .i64 k, .bool m] 64)) w') := refSimple_any s _ hs
  have HA : Hid (Below w.heap.size w (w.alloc (.cells #[.string s, .int .i64 k, .bool m] 64))) := hA
  have HZ : Hid (∀ w', Below (w.alloc (.cells #[.string s, .int .i64 k, .bool m] 64)).heap.size (w.alloc (.cells #[.string s, .int .i64 k, .bool m] 64)) w' → w'.cell? ⟨w.heap.size, 1, none⟩ = some (.int .i64 k)) := fun w' h => (h.cell (p := ⟨w.heap.size, 1, none⟩) (by simp)).trans (by simp)
  clear hA
  have HE : Hid (mayF ⟨s, k, m⟩ = (oneP s && (decide (1 ≤ k) && decide (k ≤ 4)))) := by
    show (decide (1 ≤ k) && (decide (k < 5) && oneP s)) = _
    rw [show decide (k < 5) = decide (k ≤ 4) by rw [Bool.eq_iff_iff]; simp; omega]
    cases oneP s <;> cases decide (1 ≤ k) <;> cases decide (k ≤ 4) <;> rfl
  rw [HE.out]
  clear HE
  generalize oneP s = p at *
  cases p with
  | false =>
    rw [Bool.false_and]
    go_enter Tryz.func33, Tryz.ntmps33
    go_wp2_with fail
    refine HS.out.mono ?_
    rintro e w1 ⟨rfl, hb⟩
    have HB : Hid (Below w.heap.size w w1) := HA.out.trans (hb.mono HA.out.size)
    clear hb
    go_wp2
    go_ret
    exact ⟨rfl, HB.out⟩
  | true =>
    rw [Bool.true_and]
    by_cases h1 : 1 ≤ k
    · rw [decide_eq_true h1, Bool.true_and]
      go_enter Tryz.func33, Tryz.ntmps33
      go_wp2_with fail
      refine HS.out.mono ?_
      rintro e w1 ⟨rfl, hb⟩
      have HB : Hid (Below w.heap.size w w1) := HA.out.trans (hb.mono HA.out.size)
      have z1 := HZ.out w1 hb
      clear hb
      go_wp2
      go_ret
      exact ⟨rfl, HB.out⟩
    · rw [decide_eq_false h1, Bool.false_and]
      go_enter Tryz.func33, Tryz.ntmps33
      go_wp2_with fail
      refine HS.out.mono ?_
      rintro e w1 ⟨rfl, hb⟩
      have HB : Hid (Below w.heap.size w w1) := HA.out.trans (hb.mono HA.out.size)
      have z1 := HZ.out w1 hb
      clear hb
      go_wp2
      go_ret
      exact ⟨rfl, HB.out⟩
end Go.Proofs.YtnmfonpchbjeoaaGreatDoor
