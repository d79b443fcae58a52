/- ValueBack: for every value and text the law returns true. -/
import Derived.Test.YtdendpckihckeaaGreatDoorZb15
namespace Go.Proofs.YtdendpckihckeaaGreatDoor
open Go.RowKit

theorem b32_app (Z b : ByteArray) : (Z ++ ⟨#[32]⟩ ++ b).data.toList = Z.data.toList ++ 32 :: b.data.toList := by
  rw [ba_append, ba_append, List.append_assoc]; rfl
theorem str32 (b : ByteArray) : str (32 :: b.data.toList) = ⟨#[32]⟩ ++ b := ba_eq (by rw [str_data, ba_append]; rfl)
set_option maxRecDepth 100000 in
set_option maxHeartbeats 8000000 in
theorem back_bad (k n : Int) (s b : ByteArray) (w : World) (h1 : s.size ≤ 2000) (h2 : b.size ≤ 2000) (h : VF w) (hc : chkV k n s = false) :
    Calls Tryz.prog 4 #[vv k n s, .string b] w fun e w' => e = .returned (.bool true) ∧ Below w.heap.size w w' := by
  have g1 : decide (s.size ≤ 2000) = true := by simpa using h1
  have g2 : decide (b.size ≤ 2000) = true := by simpa using h2
  have HK : Hid (∀ w, UT w → Calls Tryz.prog 15 #[vv k n s] w fun e w' => e = .returned (.bool false) ∧ Below w.heap.size w w') := fun w hU => by
    rw [← hc]; exact check_any k n s w (by omega) hU
  have HS : Hid (∀ w, VF w → Calls Tryz.prog 16 #[vv k n s] w fun e w' => e = .returned (.string ⟨#[]⟩) ∧ Below w.heap.size w w') := fun w hw => by
    have := show_any k n s w (by omega) hw.v.u hw.v.t hw.p
    rw [show shwV k n s = ⟨#[]⟩ by unfold shwV; rw [if_neg (by rw [hc]; decide)]] at this
    exact this
  have HT : Hid (∀ w, VF w → Calls Tryz.prog 17 #[vv k n s] w fun e w' => e = .returned (.string ⟨#[]⟩) ∧ Below w.heap.size w w') := fun w hw => by
    have := text_any k n s w (by omega) hw.v.u hw.q
    rw [show txtV k n s = ⟨#[]⟩ by unfold txtV; rw [if_neg (by rw [hc]; decide)]] at this
    exact this
  have HV0 : Hid (V3 w w.heap.size k n s (w.alloc (v3cells k n s))) := V3.new (Below.refl _ _) k n s
  clear hc
  go_enter Tryz.func4, Tryz.ntmps4
  go_wp2_with fail
  refine (few3_any _ _).mono ?_
  rintro e0 w0 ⟨rfl, rfl⟩
  rw [g1]
  go_wp2_with fail
  refine (few3_any _ _).mono ?_
  rintro e0 w0 ⟨rfl, rfl⟩
  rw [g2]
  go_wp2_with fail
  refine (HK.out _ (h.below HV0.out.B).v.u).mono ?_
  rintro e0 w2 ⟨rfl, hb2⟩
  have HV2 : Hid (V3 w w.heap.size k n s w2) := HV0.out.call hb2
  clear hb2
  go_wp2_with fail
  refine (awake_any _ (h.below HV2.out.B).v.v).mono ?_
  rintro e0 w3 ⟨rfl, hb3⟩
  have HV3 : Hid (V3 w w.heap.size k n s w3) := HV2.out.call hb3
  obtain ⟨x0, x1, x2, xl, xB⟩ := HV3.out
  clear hb3 xl xB
  go_wp2_with fail
  refine (HS.out _ (h.below HV3.out.B)).mono ?_
  rintro e0 w4 ⟨rfl, hb4⟩
  have HV4 : Hid (V3 w w.heap.size k n s w4) := HV3.out.call hb4
  obtain ⟨y0, y1, y2, yl, yB⟩ := HV4.out
  clear hb4 x0 x1 x2 yl yB
  go_wp2_with fail
  refine (HT.out _ (h.below HV4.out.B)).mono ?_
  rintro e0 w5 ⟨rfl, hb5⟩
  have HB5 : Hid (Below w.heap.size w w5) := (HV4.out.call hb5).B
  clear hb5 y0 y1 y2
  go_wp2
  go_ret
  exact ⟨rfl, HB5.out⟩
set_option maxRecDepth 100000 in
set_option maxHeartbeats 8000000 in
theorem back_ok (k n : Int) (s b : ByteArray) (w : World) (h1 : s.size ≤ 2000) (h2 : b.size ≤ 2000) (h : VF w) (hc : chkV k n s = true) :
    Calls Tryz.prog 4 #[vv k n s, .string b] w fun e w' => e = .returned (.bool true) ∧ Below w.heap.size w w' := by
  have g1 : decide (s.size ≤ 2000) = true := by simpa using h1
  have g2 : decide (b.size ≤ 2000) = true := by simpa using h2
  have HK : Hid (∀ w, UT w → Calls Tryz.prog 15 #[vv k n s] w fun e w' => e = .returned (.bool true) ∧ Below w.heap.size w w') := fun w hU => by
    rw [← hc]; exact check_any k n s w (by omega) hU
  have hZ := shw_size hc
  have hY := txt_size hc
  have HS : Hid (∀ w, VF w → Calls Tryz.prog 16 #[vv k n s] w fun e w' => e = .returned (.string (shwV k n s)) ∧ Below w.heap.size w w') := fun w hw => show_any k n s w (by omega) hw.v.u hw.v.t hw.p
  have HT : Hid (∀ w, VF w → Calls Tryz.prog 17 #[vv k n s] w fun e w' => e = .returned (.string (txtV k n s)) ∧ Below w.heap.size w w') := fun w hw => text_any k n s w (by omega) hw.v.u hw.q
  have HC : Hid (∀ w, VE w → Calls Tryz.prog 10 #[.string (shwV k n s ++ ⟨#[32]⟩ ++ b)] w fun e w' => e = .returned (.tuple #[vv k n s, .string (⟨#[32]⟩ ++ b), .int .i64 0]) ∧ Below w.heap.size w w') := fun w hw => by
    have := scan_any (shwV k n s ++ ⟨#[32]⟩ ++ b) w (by rw [ByteArray.size_append, ByteArray.size_append]; have : (⟨#[32]⟩ : ByteArray).size = 1 := rfl; omega) hw
    rw [shw_back hc, scV, str_of, str32] at this
    exact this
  have HP : Hid (∀ w, VE w → Calls Tryz.prog 12 #[.string (shwV k n s)] w fun e w' => e = .returned (.tuple #[vv k n s, .int .i64 0]) ∧ Below w.heap.size w w') := fun w hw => by
    have := parse_any (shwV k n s) w (by omega) hw
    rw [shw_parse hc, str_of] at this
    exact this
  have HR : Hid (∀ w, UT w → Calls Tryz.prog 18 #[.string (txtV k n s ++ b)] w fun e w' => e = .returned (.tuple #[vv k n s, .string b, .int .i64 0]) ∧ Below w.heap.size w w') := fun w hw => by
    have := read_any (txtV k n s ++ b) w (by rw [ByteArray.size_append]; omega) hw
    rw [read_back hc] at this
    exact this
  generalize shwV k n s = Z at *
  generalize txtV k n s = Y at *
  have hs1 : ¬ 9223372036854775807 < Z.size + 1 := by omega
  have hs2 : ¬ 9223372036854775807 < Z.size + 1 + b.size := by omega
  have hs3 : ¬ 9223372036854775807 < Y.size + b.size := by omega
  have hs4 : ¬ 9223372036854775807 < 1 + b.size := by omega
  have hs5 : (Z ++ (⟨#[32]⟩ : ByteArray)).size = Z.size + 1 := by rw [ByteArray.size_append]; rfl
  have HV0 : Hid (V3 w w.heap.size k n s (w.alloc (v3cells k n s))) := V3.new (Below.refl _ _) k n s
  clear hc
  go_enter Tryz.func4, Tryz.ntmps4
  go_wp2_with fail
  refine (few3_any _ _).mono ?_
  rintro e0 w0 ⟨rfl, rfl⟩
  rw [g1]
  go_wp2_with fail
  refine (few3_any _ _).mono ?_
  rintro e0 w0 ⟨rfl, rfl⟩
  rw [g2]
  go_wp2_with fail
  refine (HK.out _ (h.below HV0.out.B).v.u).mono ?_
  rintro e0 w2 ⟨rfl, hb2⟩
  have HV2 : Hid (V3 w w.heap.size k n s w2) := HV0.out.call hb2
  obtain ⟨x0, x1, x2, xl, xB⟩ := HV2.out
  clear hb2 xl xB
  go_wp2_with fail
  refine (HS.out _ (h.below HV2.out.B)).mono ?_
  rintro e0 w3 ⟨rfl, hb3⟩
  have HV3 : Hid (V3 w w.heap.size k n s w3) := HV2.out.call hb3
  clear hb3 x0 x1 x2
  go_wp2_with fail
  refine (HC.out _ (h.below HV3.out.B).v).mono ?_
  rintro e0 w4 ⟨rfl, hb4⟩
  have HV4 : Hid (V3 w w.heap.size k n s w4) := HV3.out.call hb4
  have HA4 : Hid (V3 w w4.heap.size k n s (w4.alloc (v3cells k n s))) := V3.new HV4.out.B k n s
  have HV4' : Hid (V3 w w.heap.size k n s (w4.alloc (v3cells k n s))) := HV4.out.call (al_below _ _)
  obtain ⟨x0, x1, x2, xl, xB⟩ := HV4'.out
  clear hb4 xl xB
  go_wp2_with fail
  generalize w4.alloc (v3cells k n s) = W4 at *
  generalize w4.heap.size = b4 at *
  refine (HT.out _ (h.below HV4'.out.B)).mono ?_
  rintro e0 w5 ⟨rfl, hb5⟩
  have HV5 : Hid (V3 w w.heap.size k n s w5) := HV4'.out.call hb5
  have HA5 : Hid (V3 w b4 k n s w5) := HA4.out.call hb5
  clear hb5 x0 x1 x2
  go_wp2_with fail
  refine (HR.out _ (h.below HV5.out.B).v.u).mono ?_
  rintro e0 w6 ⟨rfl, hb6⟩
  have HV6 : Hid (V3 w w.heap.size k n s w6) := HV5.out.call hb6
  have HA6 : Hid (V3 w b4 k n s (w6.alloc (v3cells k n s))) := (HA5.out.call hb6).call (al_below _ _)
  have HC6 : Hid (V3 w w6.heap.size k n s (w6.alloc (v3cells k n s))) := V3.new HV6.out.B k n s
  have HV6' : Hid (V3 w w.heap.size k n s (w6.alloc (v3cells k n s))) := HV6.out.call (al_below _ _)
  obtain ⟨x0, x1, x2, xl, xB⟩ := HV6'.out
  clear hb6 xl xB
  go_wp2_with fail
  generalize w6.alloc (v3cells k n s) = W6 at *
  generalize w6.heap.size = b6 at *
  refine (HS.out _ (h.below HV6'.out.B)).mono ?_
  rintro e0 w7 ⟨rfl, hb7⟩
  have HV7 : Hid (V3 w w.heap.size k n s w7) := HV6'.out.call hb7
  have HA7 : Hid (V3 w b4 k n s w7) := HA6.out.call hb7
  have HC7 : Hid (V3 w b6 k n s w7) := HC6.out.call hb7
  clear hb7 x0 x1 x2
  go_wp2_with fail
  refine (HP.out _ (h.below HV7.out.B).v).mono ?_
  rintro e0 w8 ⟨rfl, hb8⟩
  have HV8 : Hid (V3 w w.heap.size k n s w8) := HV7.out.call hb8
  have HA8 : Hid (V3 w b4 k n s (w8.alloc (v3cells k n s))) := (HA7.out.call hb8).call (al_below _ _)
  have HC8 : Hid (V3 w b6 k n s (w8.alloc (v3cells k n s))) := (HC7.out.call hb8).call (al_below _ _)
  have HE8 : Hid (V3 w w8.heap.size k n s (w8.alloc (v3cells k n s))) := V3.new HV8.out.B k n s
  have HV8' : Hid (V3 w w.heap.size k n s (w8.alloc (v3cells k n s))) := HV8.out.call (al_below _ _)
  clear hb8
  go_wp2_with fail
  generalize w8.alloc (v3cells k n s) = W8 at *
  generalize w8.heap.size = b8 at *
  refine (awake_any _ (h.below HV8'.out.B).v.v).mono ?_
  rintro e0 w9 ⟨rfl, hb9⟩
  have HV9 : Hid (V3 w w.heap.size k n s w9) := HV8'.out.call hb9
  obtain ⟨x0, x1, x2, xl, xB⟩ := HV9.out
  obtain ⟨y0, y1, y2, yl, yB⟩ := HA8.out.call hb9
  obtain ⟨z0, z1, z2, zl, zB⟩ := HC8.out.call hb9
  obtain ⟨v0, v1, v2, vl, vB⟩ := HE8.out.call hb9
  clear hb9 xl xB yl yB zl zB vl vB HC HP HR HS HT HK
  go_wp2
  go_ret
  exact ⟨rfl, HV9.out.B⟩
set_option maxRecDepth 100000 in
set_option maxHeartbeats 1000000 in
theorem valueBack_walk (k n : Int) (s b : ByteArray) (w : World) (_hb : b.size ≤ 140737488355328) (h : VF w) :
    Calls Tryz.prog 4 #[vv k n s, .string b] w fun e w' => e = .returned (.bool true) ∧ Below w.heap.size w w' := by
  by_cases h1 : s.size ≤ 2000
  · by_cases h2 : b.size ≤ 2000
    · cases hc : chkV k n s
      · exact back_bad k n s b w h1 h2 h hc
      · exact back_ok k n s b w h1 h2 h hc
    · have g1 : decide (s.size ≤ 2000) = true := by simpa using h1
      have g2 : decide (b.size ≤ 2000) = false := by simpa using h2
      have HV0 : Hid (V3 w w.heap.size k n s (w.alloc (v3cells k n s))) := V3.new (Below.refl _ _) k n s
      go_enter Tryz.func4, Tryz.ntmps4
      go_wp2_with fail
      refine (few3_any _ _).mono ?_
      rintro e0 w0 ⟨rfl, rfl⟩
      rw [g1]
      go_wp2_with fail
      refine (few3_any _ _).mono ?_
      rintro e0 w0 ⟨rfl, rfl⟩
      rw [g2]
      go_wp2_with fail
      refine (awake_any _ (h.below HV0.out.B).v.v).mono ?_
      rintro e0 w1 ⟨rfl, hb1⟩
      have HB1 : Hid (Below w.heap.size w w1) := (HV0.out.call hb1).B
      clear hb1
      go_wp2
      go_ret
      exact ⟨rfl, HB1.out⟩
  · have g1 : decide (s.size ≤ 2000) = false := by simpa using h1
    have HV0 : Hid (V3 w w.heap.size k n s (w.alloc (v3cells k n s))) := V3.new (Below.refl _ _) k n s
    go_enter Tryz.func4, Tryz.ntmps4
    go_wp2_with fail
    refine (few3_any _ _).mono ?_
    rintro e0 w0 ⟨rfl, rfl⟩
    rw [g1]
    go_wp2_with fail
    refine (awake_any _ (h.below HV0.out.B).v.v).mono ?_
    rintro e0 w1 ⟨rfl, hb1⟩
    have HB1 : Hid (Below w.heap.size w w1) := (HV0.out.call hb1).B
    clear hb1
    go_wp2
    go_ret
    exact ⟨rfl, HB1.out⟩
end Go.Proofs.YtdendpckihckeaaGreatDoor
