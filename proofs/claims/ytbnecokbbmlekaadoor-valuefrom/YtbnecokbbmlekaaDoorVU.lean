/- ValueFrom: for every int, text and bytes the law returns true. -/
import Derived.Test.YtbnecokbbmlekaaDoorVT
import Derived.RegionTactic
namespace Go.Proofs.YtbnecokbbmlekaaDoor
open Go.RowKit

theorem nums_size (xs : List Int) : (strOfNums xs).size = xs.length := strOfNums_size xs
theorem bool_chk (b : Bool) : chkV 3 (b2n b) ⟨#[]⟩ = true := by cases b <;> decide
abbrev bx (a : Ans) : Obj := vcells a.k a.n a.s
abbrev T3 (g : Nat) (W : World) (k n : Int) (s : ByteArray) : Prop := Three g W (.int .i64 k) (.int .i64 n) (.string s)
theorem three3 (W : World) (k1 n1 : Int) (s1 : ByteArray) (k2 n2 : Int) (s2 : ByteArray) (k3 n3 : Int) (s3 : ByteArray) :
    T3 W.heap.size (((W.alloc (vcells k1 n1 s1)).alloc (vcells k2 n2 s2)).alloc (vcells k3 n3 s3)).drew k1 n1 s1 ∧ T3 (W.heap.size + 1) (((W.alloc (vcells k1 n1 s1)).alloc (vcells k2 n2 s2)).alloc (vcells k3 n3 s3)).drew k2 n2 s2 ∧ T3 (W.heap.size + 1 + 1) (((W.alloc (vcells k1 n1 s1)).alloc (vcells k2 n2 s2)).alloc (vcells k3 n3 s3)).drew k3 n3 s3 ∧ Below W.heap.size W (((W.alloc (vcells k1 n1 s1)).alloc (vcells k2 n2 s2)).alloc (vcells k3 n3 s3)).drew := by
  obtain ⟨a0, a1, a2, b0, b1, b2, c0, c1, c2, hs, hB⟩ := S10_drew (S10_start W k1 n1 s1 k2 n2 s2 k3 n3 s3)
  exact ⟨⟨a0, a1, a2⟩, ⟨b0, b1, b2⟩, ⟨c0, c1, c2⟩, hB⟩
theorem conv_more {w W : World} {v : Value} {xs : List Int} (hr : IsRow w 1 v xs.length (bcells xs)) (hb : Below w.heap.size w W) :
    (convert 34 9 v).run Tryd.prog W.drew = .ok (.string (strOfNums xs)) W.drew ∧
    (∀ o, (convert 34 9 v).run Tryd.prog (W.alloc o).drew = .ok (.string (strOfNums xs)) (W.alloc o).drew) ∧
    (∀ o o', (convert 34 9 v).run Tryd.prog ((W.alloc o).alloc o').drew = .ok (.string (strOfNums xs)) ((W.alloc o).alloc o').drew) ∧
    (∀ o o' o'', (convert 34 9 v).run Tryd.prog (((W.alloc o).alloc o').alloc o'').drew = .ok (.string (strOfNums xs)) (((W.alloc o).alloc o').alloc o'').drew) := by
  have hb1 := fun o => hb.alloc hb.size o
  have hb2 := fun o o' => (hb1 o).alloc (hb1 o).size o'
  have hb3 := fun o o' o'' => (hb2 o o').alloc (hb2 o o').size o''
  exact ⟨conv_row (hr.below hb.drew), fun o => conv_row (hr.below (hb1 o).drew), fun o o' => conv_row (hr.below (hb2 o o').drew), fun o o' o'' => conv_row (hr.below (hb3 o o' o'').drew)⟩
set_option maxRecDepth 100000 in
set_option maxHeartbeats 4000000 in
theorem from_law (n : Int) (s : ByteArray) (a : Option Addr) (cap : Nat) (xs : List Int) (w : World) (hs : s.size ≤ 2000) (hl : xs.length ≤ 2000) (hr : IsRow w 1 (.slice a xs.length cap) xs.length (bcells xs)) (h : VT w) :
    Calls Tryd.prog 4 #[.int .i64 n, .string s, .slice a xs.length cap] w fun e w' => e = .returned (.bool true) ∧ Below w.heap.size w w' := by
  have g1 : decide (s.size ≤ 2000) = true := by simpa using hs
  have g2 : decide ((2000 : Int) < xs.length) = false := by simp; omega
  have hz := nums_size xs
  obtain ⟨a1, h1⟩ : ∃ a1, a1 = fv 1 n ⟨#[]⟩ := ⟨_, rfl⟩
  obtain ⟨a2, h2⟩ : ∃ a2, a2 = fv 2 0 s := ⟨_, rfl⟩
  obtain ⟨a4, h4⟩ : ∃ a4, a4 = fv 4 0 (strOfNums xs) := ⟨_, rfl⟩
  have HT1 : Hid (∀ w, Calls Tryd.prog 11 #[vv a1.k a1.n a1.s, .int .i64 a1.e, vv 1 n ⟨#[]⟩] w fun e w' => e = .returned (.bool true) ∧ Below w.heap.size w w') := fun w => by rw [h1]; exact taken_any 1 n ⟨#[]⟩ w (by decide)
  have HT2 : Hid (∀ w, Calls Tryd.prog 11 #[vv a2.k a2.n a2.s, .int .i64 a2.e, vv 2 0 s] w fun e w' => e = .returned (.bool true) ∧ Below w.heap.size w w') := fun w => by rw [h2]; exact taken_any 2 0 s w (by omega)
  have HT4 : Hid (∀ w, Calls Tryd.prog 11 #[vv a4.k a4.n a4.s, .int .i64 a4.e, vv 4 0 (strOfNums xs)] w fun e w' => e = .returned (.bool true) ∧ Below w.heap.size w w') := fun w => by rw [h4]; exact taken_any 4 0 (strOfNums xs) w (by omega)
  have HF1 : Hid (∀ w, UT w → Calls Tryd.prog 9 #[.iface 3 (.int .i64 n)] w fun e w' => e = .returned (.tuple #[vv a1.k a1.n a1.s, .int .i64 a1.e]) ∧ Below w.heap.size w w') := fun w hU => by
    have := from_any (.iface 3 (.int .i64 n)) 1 n ⟨#[]⟩ w (by decide) hU (fun w1 _ => valueOf_int n w1)
    rw [fromV_fv (by decide), ← h1] at this
    exact this
  have HF2 : Hid (∀ w, UT w → Calls Tryd.prog 9 #[.iface 9 (.string s)] w fun e w' => e = .returned (.tuple #[vv a2.k a2.n a2.s, .int .i64 a2.e]) ∧ Below w.heap.size w w') := fun w hU => by
    have := from_any (.iface 9 (.string s)) 2 0 s w (by omega) hU (fun w1 _ => valueOf_string s w1)
    rw [fromV_fv (by decide), ← h2] at this
    exact this
  have HF4 : Hid (∀ w1, Below w.heap.size w w1 → UT w1 → Calls Tryd.prog 9 #[.iface 34 (.slice a xs.length cap)] w1 fun e w' => e = .returned (.tuple #[vv a4.k a4.n a4.s, .int .i64 a4.e]) ∧ Below w1.heap.size w1 w') := fun w1 hb hU => by
    have := from_any (.iface 34 (.slice a xs.length cap)) 4 0 (strOfNums xs) w1 (by omega) hU (fun w2 hb2 => valueOf_bytes _ xs w2 ((hr.below hb).below hb2))
    rw [fromV_fv (by decide), ← h4] at this
    exact this
  have HF3 : Hid (∀ w, UT w → Calls Tryd.prog 9 #[.iface 4 (.bool (decide (0 < n)))] w fun e w' => e = .returned (.tuple #[vv 3 (b2n (decide (0 < n))) ⟨#[]⟩, .int .i64 0]) ∧ Below w.heap.size w w') := fun w hU => by
    have := from_any (.iface 4 (.bool (decide (0 < n)))) 3 (b2n (decide (0 < n))) ⟨#[]⟩ w (by decide) hU (fun w1 _ => valueOf_bool _ w1)
    rw [fromV, if_neg (by decide), if_pos (bool_chk _)] at this
    exact this
  have HF5 : Hid (∀ w, UT w → Calls Tryd.prog 9 #[.iface 5 (.int .u8 1)] w fun e w' => e = .returned (.tuple #[v0, .int .i64 8]) ∧ Below w.heap.size w w') := fun w hU => by
    have := from_any (.iface 5 (.int .u8 1)) 0 0 ⟨#[]⟩ w (by decide) hU (fun w1 _ => valueOf_u8 1 w1)
    rw [fromV, if_pos rfl] at this
    exact this
  have hb3 : (b2n (decide (0 < n)) == 1) = decide (0 < n) := by cases decide (0 < n) <;> rfl
  clear h1 h2 h4
  go_enter Tryd.func4, Tryd.ntmps4
  go_wp2_with (go_at_call 6; refine (few_any _ _).mono ?_; rintro e w' ⟨rfl, rfl⟩; rw [g1])
  refine (HF1.out _ h.u).mono ?_
  rintro e w1 ⟨rfl, hb1⟩
  have T1 := Three.new w1 a1.k a1.n a1.s
  have hA1 := hb1.alloc hb1.size (bx a1)
  have hz1 : (w1.alloc (bx a1)).heap.size = w1.heap.size + 1 := by simp [bx, vcells]
  clear hb1
  go_wp2_with fail
  refine (HF2.out _ (Utf8Tabs_below h.u hA1)).mono ?_
  rintro e w2 ⟨rfl, hb2⟩
  have T1 := T1.below hb2
  have T2 := Three.new w2 a2.k a2.n a2.s
  have hB2 := hA1.trans (hb2.mono hA1.size)
  have hA2 := hB2.alloc hB2.size (bx a2)
  have T1 := T1.alloc (bx a2)
  clear hb2 hB2 hA1
  go_wp2_with fail
  refine (HF4.out _ hA2 (Utf8Tabs_below h.u hA2)).mono ?_
  rintro e w3 ⟨rfl, hb3⟩
  have T1 := T1.below hb3
  have T2 := T2.below hb3
  have T4 := Three.new w3 a4.k a4.n a4.s
  have hB3 := hA2.trans (hb3.mono hA2.size)
  have hA3 := hB3.alloc hB3.size (bx a4)
  have T1 := T1.alloc (bx a4)
  have T2 := T2.alloc (bx a4)
  clear hb3 hB3 hA2
  go_wp2_with fail
  refine (HF3.out _ (Utf8Tabs_below h.u hA3)).mono ?_
  rintro e w4 ⟨rfl, hb4⟩
  have T1 := T1.below hb4
  have T2 := T2.below hb4
  have T4 := T4.below hb4
  have T3 := Three.new w4 3 (b2n (decide (0 < n))) ⟨#[]⟩
  have hB4 := hA3.trans (hb4.mono hA3.size)
  have hA4 := hB4.alloc hB4.size (vcells 3 (b2n (decide (0 < n))) ⟨#[]⟩)
  have T1 := T1.alloc (vcells 3 (b2n (decide (0 < n))) ⟨#[]⟩)
  have T2 := T2.alloc (vcells 3 (b2n (decide (0 < n))) ⟨#[]⟩)
  have T4 := T4.alloc (vcells 3 (b2n (decide (0 < n))) ⟨#[]⟩)
  clear hb4 hB4 hA3
  go_wp2_with fail
  refine (HF5.out _ (Utf8Tabs_below h.u hA4)).mono ?_
  rintro e w5 ⟨rfl, hb5⟩
  have T1 := T1.below hb5
  have T2 := T2.below hb5
  have T4 := T4.below hb5
  have T3 := T3.below hb5
  have hB5 := hA4.trans (hb5.mono hA4.size)
  have hA5 := hB5.alloc hB5.size (vcells 0 0 ⟨#[]⟩)
  have T1 := T1.alloc (vcells 0 0 ⟨#[]⟩)
  have T2 := T2.alloc (vcells 0 0 ⟨#[]⟩)
  have T4 := T4.alloc (vcells 0 0 ⟨#[]⟩)
  have T3 := T3.alloc (vcells 0 0 ⟨#[]⟩)
  clear hb5 hB5 hA4
  go_wp2_with fail
  obtain ⟨k0, k1, k2, k3⟩ := conv_more hr hA5
  generalize w5.alloc (vcells 0 0 ⟨#[]⟩) = W5 at *
  go_cut [17, 18, 19] from 59 to 65 (fun p q r wx => ∃ g1 g2 g3, p = .pointer (some ⟨g1, 0, none⟩) ∧ q = .pointer (some ⟨g2, 0, none⟩) ∧ r = .pointer (some ⟨g3, 0, none⟩) ∧ Three g1 wx (.int .i64 1) (.int .i64 n) (.string ⟨#[]⟩) ∧ Three g2 wx (.int .i64 2) (.int .i64 0) (.string s) ∧ Three g3 wx (.int .i64 4) (.int .i64 0) (.string (strOfNums xs)) ∧ Below W5.heap.size W5 wx)
  case first =>
    go_region
    all_goals go_wp2_with fail
    all_goals go_meet
    all_goals first | (have h := three3 W5 1 n ⟨#[]⟩ 2 0 s 4 0 (strOfNums xs); exact ⟨_, _, _, rfl, rfl, rfl, h.1, h.2.1, h.2.2.1, h.2.2.2⟩) | (have h := three3 W5 1 n ⟨#[]⟩ 4 0 (strOfNums xs) 2 0 s; exact ⟨_, _, _, rfl, rfl, rfl, h.1, h.2.2.1, h.2.1, h.2.2.2⟩) | (have h := three3 W5 2 0 s 1 n ⟨#[]⟩ 4 0 (strOfNums xs); exact ⟨_, _, _, rfl, rfl, rfl, h.2.1, h.1, h.2.2.1, h.2.2.2⟩) | (have h := three3 W5 2 0 s 4 0 (strOfNums xs) 1 n ⟨#[]⟩; exact ⟨_, _, _, rfl, rfl, rfl, h.2.2.1, h.1, h.2.1, h.2.2.2⟩) | (have h := three3 W5 4 0 (strOfNums xs) 1 n ⟨#[]⟩ 2 0 s; exact ⟨_, _, _, rfl, rfl, rfl, h.2.1, h.2.2.1, h.1, h.2.2.2⟩) | (have h := three3 W5 4 0 (strOfNums xs) 2 0 s 1 n ⟨#[]⟩; exact ⟨_, _, _, rfl, rfl, rfl, h.2.2.1, h.2.1, h.1, h.2.2.2⟩)
  case rest =>
    obtain ⟨g1, g2, g3, rfl, rfl, rfl, t1, t2, t3, hb6⟩ := hcut
    have T1 := T1.below hb6
    have T2 := T2.below hb6
    have T4 := T4.below hb6
    have T3 := T3.below hb6
    have hA6 := hA5.trans (hb6.mono hA5.size)
    obtain ⟨p0, p1, p2⟩ := T3
    clear k0 k1 k2 k3 hb6 hA5
    go_wp2_with fail
    refine (awake_any _ (h.below hA6)).mono ?_
    rintro e w7 ⟨rfl, hb7⟩
    have T1 := T1.below hb7
    have T2 := T2.below hb7
    have T4 := T4.below hb7
    have t1 := t1.below hb7
    have t2 := t2.below hb7
    have t3 := t3.below hb7
    have hA7 := hA6.trans (hb7.mono hA6.size)
    clear hb7 hA6 p0 p1 p2
    obtain ⟨x0, x1, x2⟩ := T1
    obtain ⟨y0, y1, y2⟩ := t1
    go_wp2_with fail
    refine (HT1.out _).mono ?_
    rintro e w8 ⟨rfl, hb8⟩
    have T2 := T2.below hb8
    have T4 := T4.below hb8
    have t2 := t2.below hb8
    have t3 := t3.below hb8
    have hA8 := hA7.trans (hb8.mono hA7.size)
    clear hb8 hA7 x0 x1 x2 y0 y1 y2
    obtain ⟨x0, x1, x2⟩ := T2
    obtain ⟨y0, y1, y2⟩ := t2
    go_wp2_with fail
    refine (HT2.out _).mono ?_
    rintro e w9 ⟨rfl, hb9⟩
    have T4 := T4.below hb9
    have t3 := t3.below hb9
    have hA9 := hA8.trans (hb9.mono hA8.size)
    clear hb9 hA8 x0 x1 x2 y0 y1 y2
    obtain ⟨x0, x1, x2⟩ := T4
    obtain ⟨y0, y1, y2⟩ := t3
    go_wp2_with fail
    refine (HT4.out _).mono ?_
    rintro e w10 ⟨rfl, hb10⟩
    have hA10 := hA9.trans (hb10.mono hA9.size)
    clear hb10 hA9 x0 x1 x2 y0 y1 y2
    go_wp2
    go_ret
    exact ⟨rfl, hA10⟩

set_option maxRecDepth 100000 in
set_option maxHeartbeats 1000000 in
theorem valueFrom_walk (n : Int) (s : ByteArray) (v : Value) (xs : List Int) (w : World) (hr : IsRow w 1 v xs.length (bcells xs)) (hl : xs.length ≤ 140737488355328) (h : VT w) :
    Calls Tryd.prog 4 #[.int .i64 n, .string s, v] w fun e w' => e = .returned (.bool true) ∧ Below w.heap.size w w' := by
  obtain ⟨a, cap, rfl⟩ := hr.form
  by_cases h1 : s.size ≤ 2000
  · by_cases h2 : xs.length ≤ 2000
    · exact from_law n s a cap xs w h1 h2 hr h
    · have g1 : decide (s.size ≤ 2000) = true := by simpa using h1
      have g2 : decide ((2000 : Int) < xs.length) = true := by simp; omega
      go_enter Tryd.func4, Tryd.ntmps4
      go_wp2_with (first | (go_at_call 6; refine (few_any _ _).mono ?_; rintro e w' ⟨rfl, rfl⟩; rw [g1]))
      refine (awake_any _ h).mono ?_
      rintro e w2 ⟨rfl, hb2⟩
      go_wp2
      go_ret
      exact ⟨rfl, hb2⟩
  · have g1 : decide (s.size ≤ 2000) = false := by simpa using h1
    go_enter Tryd.func4, Tryd.ntmps4
    go_wp2_with (first | (go_at_call 6; refine (few_any _ _).mono ?_; rintro e w' ⟨rfl, rfl⟩; rw [g1]))
    refine (awake_any _ h).mono ?_
    rintro e w2 ⟨rfl, hb2⟩
    go_wp2
    go_ret
    exact ⟨rfl, hb2⟩
end Go.Proofs.YtbnecokbbmlekaaDoor
