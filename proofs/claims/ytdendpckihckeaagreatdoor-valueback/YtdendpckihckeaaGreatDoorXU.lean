/- ValueOnce: for every text the law returns true. -/
import Derived.Test.YtdendpckihckeaaGreatDoorXX
import Derived.Test.YtdendpckihckeaaGreatDoorXT
namespace Go.Proofs.YtdendpckihckeaaGreatDoor
open Go.RowKit

/-- What the laws of showing and writing ask of the world. -/
structure VF (w : World) : Prop where
  v : VE w
  p : P10 w
  q : Q.Tab w
theorem VF.below {w w' : World} (h : VF w) (hb : Below w.heap.size w w') : VF w' := ⟨h.v.below hb, P10_below h.p hb, h.q.below hb h.q.size⟩
/-- A value that lies in a block, and what was there before. -/
structure V3 (w0 : World) (b : Nat) (k n : Int) (s : ByteArray) (w : World) : Prop where
  c0 : w.cell? ⟨b, 0, none⟩ = some (.int .i64 k)
  c1 : w.cell? ⟨b, 1, none⟩ = some (.int .i64 n)
  c2 : w.cell? ⟨b, 2, none⟩ = some (.string s)
  l : b < w.heap.size
  B : Below w0.heap.size w0 w
theorem V3.call {w0 w w' : World} {b : Nat} {k n : Int} {s : ByteArray} (h : V3 w0 b k n s w) (hb : Below w.heap.size w w') : V3 w0 b k n s w' :=
  ⟨(hb.cell (p := ⟨b, 0, none⟩) h.l).trans h.c0, (hb.cell (p := ⟨b, 1, none⟩) h.l).trans h.c1, (hb.cell (p := ⟨b, 2, none⟩) h.l).trans h.c2, Nat.lt_of_lt_of_le h.l hb.size, h.B.trans (hb.mono h.B.size)⟩
theorem V3.new {w0 w : World} (hB : Below w0.heap.size w0 w) (k n : Int) (s : ByteArray) : V3 w0 w.heap.size k n s (w.alloc (v3cells k n s)) :=
  ⟨by simp [v3cells], by simp [v3cells], by simp [v3cells], by simp [v3cells], hB.alloc hB.size _⟩
set_option maxRecDepth 100000 in
set_option maxHeartbeats 8000000 in
theorem once_few (s : ByteArray) (w : World) (h1 : s.size ≤ 2000) (h : VF w) :
    Calls Tryz.prog 5 #[.string s] w fun e w' => e = .returned (.bool true) ∧ Below w.heap.size w w' := by
  have g1 : decide (s.size ≤ 2000) = true := by simpa using h1
  have hr1 := fun w h => scan_any s w (by omega) h
  have hr2 := fun w h => read_any s w (by omega) h
  have o1 := scan_once (s := s)
  have o2 := read_once (s := s)
  generalize scn s.data.toList = x at *
  generalize rd s = y at *
  obtain ⟨k, n, t, r, e⟩ := x
  obtain ⟨k', n', T', R', e'⟩ := y
  simp only [scV] at hr1 hr2 o1 o2
  generalize str t = T at *
  generalize str r = R at *
  have HR : Hid (∀ w, VE w → Calls Tryz.prog 10 #[.string s] w fun e0 w' => e0 = .returned (.tuple #[vv k n T, .string R, .int .i64 e]) ∧ Below w.heap.size w w') := hr1
  have HD : Hid (∀ w, UT w → Calls Tryz.prog 18 #[.string s] w fun e0 w' => e0 = .returned (.tuple #[vv k' n' T', .string R', .int .i64 e']) ∧ Below w.heap.size w w') := hr2
  clear hr1 hr2
  by_cases he : e = 0
  · subst he
    obtain ⟨hc, hcat⟩ := o1 rfl
    have HK : Hid (∀ w, UT w → Calls Tryz.prog 15 #[vv k n T] w fun e w' => e = .returned (.bool true) ∧ Below w.heap.size w w') := fun w hU => by
      rw [← hc]; exact check_any k n T w (by have := (chk_rng hc).2.2.2.2; omega) hU
    have HT : Hid (∀ w, VF w → Calls Tryz.prog 16 #[vv k n T] w fun e w' => e = .returned (.string (shwV k n T)) ∧ Below w.heap.size w w') := fun w hw => show_any k n T w (by have := (chk_rng hc).2.2.2.2; omega) hw.v.u hw.v.t hw.p
    have hz1 : (shwV k n T).size + R.size ≤ 2000 := by rw [← ByteArray.size_append, hcat]; exact h1
    generalize shwV k n T = Z at *
    have hzz : ¬ 9223372036854775807 < Z.size + R.size := by omega
    clear hc hz1 o1
    by_cases he' : e' = 0
    · subst he'
      obtain ⟨hc2, hcat2⟩ := o2 rfl
      have HK2 : Hid (∀ w, UT w → Calls Tryz.prog 15 #[vv k' n' T'] w fun e w' => e = .returned (.bool true) ∧ Below w.heap.size w w') := fun w hU => by
        rw [← hc2]; exact check_any k' n' T' w (by have := (chk_rng hc2).2.2.2.2; omega) hU
      have HT2 : Hid (∀ w, VF w → Calls Tryz.prog 17 #[vv k' n' T'] w fun e w' => e = .returned (.string (txtV k' n' T')) ∧ Below w.heap.size w w') := fun w hw => text_any k' n' T' w (by have := (chk_rng hc2).2.2.2.2; omega) hw.v.u hw.q
      have hz2 : (txtV k' n' T').size + R'.size ≤ 2000 := by rw [← ByteArray.size_append, hcat2]; exact h1
      generalize txtV k' n' T' = Z2 at *
      have hzz2 : ¬ 9223372036854775807 < Z2.size + R'.size := by omega
      clear hc2 hz2 o2
      go_enter Tryz.func5, Tryz.ntmps5
      go_wp2_with fail
      refine (few3_any _ _).mono ?_
      rintro e0 w0 ⟨rfl, rfl⟩
      rw [g1]
      go_wp2_with fail
      refine (HR.out _ h.v).mono ?_
      rintro e0 w1 ⟨rfl, hb1⟩
      have HV1 : Hid (V3 w0 w1.heap.size k n T (w1.alloc (v3cells k n T))) := V3.new hb1 k n T
      clear hb1
      go_wp2_with fail
      generalize w1.alloc (v3cells k n T) = W1 at *
      generalize w1.heap.size = b1 at *
      refine (HK.out _ (h.below HV1.out.B).v.u).mono ?_
      rintro e0 w2 ⟨rfl, hb2⟩
      have HV2 : Hid (V3 w0 b1 k n T w2) := HV1.out.call hb2
      obtain ⟨x0, x1, x2, xl, xB⟩ := HV2.out
      clear hb2 xl xB
      go_wp2_with fail
      refine (HT.out _ (h.below HV2.out.B)).mono ?_
      rintro e0 w3 ⟨rfl, hb3⟩
      have HS : Hid (Below w0.heap.size w0 w3) := (HV2.out.call hb3).B
      clear hb3 x0 x1 x2
      go_wp2_with fail
      refine (HD.out _ (h.below (HS.out)).v.u).mono ?_
      rintro e0 w5 ⟨rfl, hb5⟩
      have HB5 : Hid (Below w0.heap.size w0 w5) := HS.out.trans (hb5.mono HS.out.size)
      clear hb5
      have HV5 : Hid (V3 w0 w5.heap.size k' n' T' (w5.alloc (v3cells k' n' T'))) := V3.new HB5.out k' n' T'
      go_wp2_with fail
      generalize w5.alloc (v3cells k' n' T') = W5 at *
      generalize w5.heap.size = b5 at *
      refine (awake_any _ (h.below HV5.out.B).v.v).mono ?_
      rintro e0 w6 ⟨rfl, hb6⟩
      have HV6 : Hid (V3 w0 b5 k' n' T' w6) := HV5.out.call hb6
      obtain ⟨y0, y1, y2, yl, yB⟩ := HV6.out
      clear hb6 yl yB
      go_wp2_with fail
      refine (HK2.out _ (h.below HV6.out.B).v.u).mono ?_
      rintro e0 w7 ⟨rfl, hb7⟩
      have HV7 : Hid (V3 w0 b5 k' n' T' w7) := HV6.out.call hb7
      obtain ⟨z0, z1, z2, zl, zB⟩ := HV7.out
      clear hb7 y0 y1 y2 zl zB
      go_wp2_with fail
      refine (HT2.out _ (h.below HV7.out.B)).mono ?_
      rintro e0 w8 ⟨rfl, hb8⟩
      have HB8 : Hid (Below w0.heap.size w0 w8) := (HV7.out.call hb8).B
      clear hb8
      go_wp2
      go_ret
      exact ⟨rfl, HB8.out⟩
    · have he2 : (e' != 0) = true := by rw [bne_iff_ne]; exact he'
      clear o2 he'
      go_enter Tryz.func5, Tryz.ntmps5
      go_wp2_with fail
      refine (few3_any _ _).mono ?_
      rintro e0 w0 ⟨rfl, rfl⟩
      rw [g1]
      go_wp2_with fail
      refine (HR.out _ h.v).mono ?_
      rintro e0 w1 ⟨rfl, hb1⟩
      have HV1 : Hid (V3 w0 w1.heap.size k n T (w1.alloc (v3cells k n T))) := V3.new hb1 k n T
      clear hb1
      go_wp2_with fail
      generalize w1.alloc (v3cells k n T) = W1 at *
      generalize w1.heap.size = b1 at *
      refine (HK.out _ (h.below HV1.out.B).v.u).mono ?_
      rintro e0 w2 ⟨rfl, hb2⟩
      have HV2 : Hid (V3 w0 b1 k n T w2) := HV1.out.call hb2
      obtain ⟨x0, x1, x2, xl, xB⟩ := HV2.out
      clear hb2 xl xB
      go_wp2_with fail
      refine (HT.out _ (h.below HV2.out.B)).mono ?_
      rintro e0 w3 ⟨rfl, hb3⟩
      have HS : Hid (Below w0.heap.size w0 w3) := (HV2.out.call hb3).B
      clear hb3 x0 x1 x2
      go_wp2_with fail
      refine (HD.out _ (h.below (HS.out)).v.u).mono ?_
      rintro e0 w5 ⟨rfl, hb5⟩
      have HB5 : Hid (Below w0.heap.size w0 w5) := HS.out.trans (hb5.mono HS.out.size)
      clear hb5
      have HV5 : Hid (V3 w0 w5.heap.size k' n' T' (w5.alloc (v3cells k' n' T'))) := V3.new HB5.out k' n' T'
      go_wp2_with fail
      generalize w5.alloc (v3cells k' n' T') = W5 at *
      generalize w5.heap.size = b5 at *
      refine (awake_any _ (h.below HV5.out.B).v.v).mono ?_
      rintro e0 w6 ⟨rfl, hb6⟩
      have HV6 : Hid (V3 w0 b5 k' n' T' w6) := HV5.out.call hb6
      obtain ⟨y0, y1, y2, yl, yB⟩ := HV6.out
      clear hb6 yl yB
      go_wp2
      go_ret
      exact ⟨rfl, HV6.out.B⟩
  · have he1 : (e == 0) = false := by rw [beq_eq_false_iff_ne]; exact he
    clear o1 he
    by_cases he' : e' = 0
    · subst he'
      obtain ⟨hc2, hcat2⟩ := o2 rfl
      have HK2 : Hid (∀ w, UT w → Calls Tryz.prog 15 #[vv k' n' T'] w fun e w' => e = .returned (.bool true) ∧ Below w.heap.size w w') := fun w hU => by
        rw [← hc2]; exact check_any k' n' T' w (by have := (chk_rng hc2).2.2.2.2; omega) hU
      have HT2 : Hid (∀ w, VF w → Calls Tryz.prog 17 #[vv k' n' T'] w fun e w' => e = .returned (.string (txtV k' n' T')) ∧ Below w.heap.size w w') := fun w hw => text_any k' n' T' w (by have := (chk_rng hc2).2.2.2.2; omega) hw.v.u hw.q
      have hz2 : (txtV k' n' T').size + R'.size ≤ 2000 := by rw [← ByteArray.size_append, hcat2]; exact h1
      generalize txtV k' n' T' = Z2 at *
      have hzz2 : ¬ 9223372036854775807 < Z2.size + R'.size := by omega
      clear hc2 hz2 o2
      go_enter Tryz.func5, Tryz.ntmps5
      go_wp2_with fail
      refine (few3_any _ _).mono ?_
      rintro e0 w0 ⟨rfl, rfl⟩
      rw [g1]
      go_wp2_with fail
      refine (HR.out _ h.v).mono ?_
      rintro e0 w1 ⟨rfl, hb1⟩
      have HV1 : Hid (V3 w0 w1.heap.size k n T (w1.alloc (v3cells k n T))) := V3.new hb1 k n T
      clear hb1
      have HS : Hid (Below w0.heap.size w0 (w1.alloc (v3cells k n T))) := HV1.out.B
      go_wp2_with fail
      refine (HD.out _ (h.below (HS.out)).v.u).mono ?_
      rintro e0 w5 ⟨rfl, hb5⟩
      have HB5 : Hid (Below w0.heap.size w0 w5) := HS.out.trans (hb5.mono HS.out.size)
      clear hb5
      have HV5 : Hid (V3 w0 w5.heap.size k' n' T' (w5.alloc (v3cells k' n' T'))) := V3.new HB5.out k' n' T'
      go_wp2_with fail
      generalize w5.alloc (v3cells k' n' T') = W5 at *
      generalize w5.heap.size = b5 at *
      refine (awake_any _ (h.below HV5.out.B).v.v).mono ?_
      rintro e0 w6 ⟨rfl, hb6⟩
      have HV6 : Hid (V3 w0 b5 k' n' T' w6) := HV5.out.call hb6
      obtain ⟨y0, y1, y2, yl, yB⟩ := HV6.out
      clear hb6 yl yB
      go_wp2_with fail
      refine (HK2.out _ (h.below HV6.out.B).v.u).mono ?_
      rintro e0 w7 ⟨rfl, hb7⟩
      have HV7 : Hid (V3 w0 b5 k' n' T' w7) := HV6.out.call hb7
      obtain ⟨z0, z1, z2, zl, zB⟩ := HV7.out
      clear hb7 y0 y1 y2 zl zB
      go_wp2_with fail
      refine (HT2.out _ (h.below HV7.out.B)).mono ?_
      rintro e0 w8 ⟨rfl, hb8⟩
      have HB8 : Hid (Below w0.heap.size w0 w8) := (HV7.out.call hb8).B
      clear hb8
      go_wp2
      go_ret
      exact ⟨rfl, HB8.out⟩
    · have he2 : (e' != 0) = true := by rw [bne_iff_ne]; exact he'
      clear o2 he'
      go_enter Tryz.func5, Tryz.ntmps5
      go_wp2_with fail
      refine (few3_any _ _).mono ?_
      rintro e0 w0 ⟨rfl, rfl⟩
      rw [g1]
      go_wp2_with fail
      refine (HR.out _ h.v).mono ?_
      rintro e0 w1 ⟨rfl, hb1⟩
      have HV1 : Hid (V3 w0 w1.heap.size k n T (w1.alloc (v3cells k n T))) := V3.new hb1 k n T
      clear hb1
      have HS : Hid (Below w0.heap.size w0 (w1.alloc (v3cells k n T))) := HV1.out.B
      go_wp2_with fail
      refine (HD.out _ (h.below (HS.out)).v.u).mono ?_
      rintro e0 w5 ⟨rfl, hb5⟩
      have HB5 : Hid (Below w0.heap.size w0 w5) := HS.out.trans (hb5.mono HS.out.size)
      clear hb5
      have HV5 : Hid (V3 w0 w5.heap.size k' n' T' (w5.alloc (v3cells k' n' T'))) := V3.new HB5.out k' n' T'
      go_wp2_with fail
      generalize w5.alloc (v3cells k' n' T') = W5 at *
      generalize w5.heap.size = b5 at *
      refine (awake_any _ (h.below HV5.out.B).v.v).mono ?_
      rintro e0 w6 ⟨rfl, hb6⟩
      have HV6 : Hid (V3 w0 b5 k' n' T' w6) := HV5.out.call hb6
      obtain ⟨y0, y1, y2, yl, yB⟩ := HV6.out
      clear hb6 yl yB
      go_wp2
      go_ret
      exact ⟨rfl, HV6.out.B⟩
set_option maxRecDepth 100000 in
set_option maxHeartbeats 1000000 in
theorem valueOnce_walk (s : ByteArray) (w : World) (_hs : s.size ≤ 140737488355328) (h : VF w) :
    Calls Tryz.prog 5 #[.string s] w fun e w' => e = .returned (.bool true) ∧ Below w.heap.size w w' := by
  by_cases h1 : s.size ≤ 2000
  · exact once_few s w h1 h
  · have g1 : decide (s.size ≤ 2000) = false := by simpa using h1
    go_enter Tryz.func5, Tryz.ntmps5
    go_wp2_with fail
    refine (few3_any _ _).mono ?_
    rintro e0 w0 ⟨rfl, rfl⟩
    rw [g1]
    go_wp2_with fail
    refine (awake_any _ h.v.v).mono ?_
    rintro e0 w1 ⟨rfl, hb1⟩
    go_wp2
    go_ret
    exact ⟨rfl, hb1⟩
end Go.Proofs.YtdendpckihckeaaGreatDoor
