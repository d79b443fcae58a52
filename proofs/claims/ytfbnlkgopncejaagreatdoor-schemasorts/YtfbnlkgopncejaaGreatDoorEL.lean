/- The law's awake: its walk. -/
import Derived.Test.YtfbnlkgopncejaaGreatDoorEK
namespace Go.Proofs.YtfbnlkgopncejaaGreatDoor
open Go.RowKit

abbrev awS1 : ByteArray := ⟨#[97, 32, 105, 110, 116, 33, 44, 32, 98, 32, 116, 101, 120, 116]⟩
abbrev awS2 : ByteArray := ⟨#[97, 32, 98, 111, 111, 108]⟩
abbrev awL : List Fd := [⟨⟨#[97]⟩, 1, true⟩, ⟨⟨#[98]⟩, 2, false⟩]
abbrev awM : List Fd := [⟨⟨#[97]⟩, 3, false⟩]
theorem aw1 : parseR awS1 = (awL, 0) := by kernel_rfl
theorem aw2 : parseR awS2 = (awM, 0) := by kernel_rfl
theorem aw3 : mergeE awL awM = 9 := by kernel_rfl
theorem aw4 : fitsL awL [⟨⟨#[97]⟩, 1, 1, ⟨#[]⟩⟩] = 0 := by kernel_rfl
theorem aw5 : fitsL awL [⟨⟨#[98]⟩, 2, 0, ⟨#[120]⟩⟩] = 7 := by kernel_rfl
theorem aw6 : fitsL awL [⟨⟨#[97]⟩, 2, 0, ⟨#[120]⟩⟩] = 8 := by kernel_rfl
theorem aw7 : fitsL awL [⟨⟨#[97]⟩, 1, 1, ⟨#[]⟩⟩, ⟨⟨#[99]⟩, 1, 2, ⟨#[]⟩⟩] = 4 := by kernel_rfl
theorem num_any (n : Int) (w : World) : Calls Tryz.prog 15 #[.int .i64 n] w fun e w' => e = .returned (vv 1 n ⟨#[]⟩) ∧ Below w.heap.size w w' := by
  go_enter Tryz.func15, Tryz.ntmps15
  go_wp2
  try simp only [Exit.inBlock, Exit.then]
  refine bodyPost_ret (v := vv 1 n ⟨#[]⟩) ?_ rfl ⟨rfl, ?_⟩
  · rw [results_cell1 rfl]; go_simp
  · exact al_b w _
theorem text_any (s : ByteArray) (w : World) : Calls Tryz.prog 16 #[.string s] w fun e w' => e = .returned (vv 2 0 s) ∧ Below w.heap.size w w' := by
  go_enter Tryz.func16, Tryz.ntmps16
  go_wp2
  try simp only [Exit.inBlock, Exit.then]
  refine bodyPost_ret (v := vv 2 0 s) ?_ rfl ⟨rfl, ?_⟩
  · rw [results_cell1 rfl]; go_simp
  · exact al_b w _
theorem rowA {w : World} {l : List At} {t : TypeId} {C : Array Value} (hC : C = (aCells l).toArray) (hl : l.length ≤ 1000) {w' : World} (hb : Below (w.alloc (.cells C t)).heap.size (w.alloc (.cells C t)) w') : IsRow w' 4 (.slice (some ⟨w.heap.size, 0, none⟩) l.length l.length) l.length (aCells l) := by
  subst hC
  refine IsRow.below ?_ hb
  refine ⟨aCells_len l, .inr ⟨w.heap.size, 0, l.length, rfl, by simp, Nat.le_refl _, by unfold maxLen; omega, ?_⟩⟩
  intro j u hu
  rw [Lib.cell_of_heap (new_at w _)]
  simpa using hu
/-- What the law's own example asks of the world. -/
structure W4 (w : World) : Prop where
  t : UT w
  m : ML w
  k : WT w
theorem W4.below {w w' : World} (h : W4 w) (hb : Below w.heap.size w w') : W4 w' := ⟨Utf8Tabs_below h.t hb, ML_below h.m hb, WT_below h.k hb⟩
theorem nmL : NmF awL := fun x hx => by simp at hx; rcases hx with rfl | rfl <;> decide
theorem nmM : NmF awM := fun x hx => by simp at hx; subst hx; decide
set_option maxRecDepth 100000 in
theorem fitsA (v : Value) (w w0 : World) (l : List At) {t : TypeId} {C : Array Value} (hC : C = (aCells l).toArray) (hl : l.length ≤ 1000) (hn : NmA l) (hr : IsRow w0 3 v 2 (fCells awL)) (hb : Below w0.heap.size w0 w) (hW : W4 w0) :
    Calls Tryz.prog 14 #[v, .slice (some ⟨w.heap.size, 0, none⟩) l.length l.length] (w.alloc (.cells C t)) fun e w' => e = .returned (.int .i64 (fitsL awL l)) ∧ Below w0.heap.size w0 w' := by
  have hA := hb.trans ((al_b w (.cells C t)).mono hb.size)
  have h2 := fits_any v _ awL l (w.alloc (.cells C t)) (hr.below hA) (rowA hC hl (Below.refl _ _)) (by decide) (by omega) nmL hn (hW.below hA).t (hW.below hA).m
  exact h2.mono fun e w' ⟨he, hb'⟩ => ⟨he, hA.trans (hb'.mono hA.size)⟩
set_option maxRecDepth 100000 in
set_option maxHeartbeats 4000000 in
theorem awake4_any (w : World) (hW : W4 w) : Calls Tryz.prog 5 #[] w fun e w' => e = .returned (.bool true) ∧ Below w.heap.size w w' := by
  have HW : Hid (W4 w) := hW
  have H1 : Hid (Calls Tryz.prog 12 #[.string awS1] w fun e w' => PrPost awS1 w e w') := parse_any _ w (by decide) hW.t hW.m hW.k
  have H2 : Hid (∀ w', Below w.heap.size w w' → Calls Tryz.prog 12 #[.string awS2] w' fun e w'' => PrPost awS2 w' e w'') := fun w' h => parse_any _ w' (by decide) (hW.below h).t (hW.below h).m (hW.below h).k
  have HN : Hid (∀ n w, Calls Tryz.prog 15 #[.int .i64 n] w fun e w' => e = .returned (vv 1 n ⟨#[]⟩) ∧ Below w.heap.size w w') := num_any
  have HX : Hid (∀ s w, Calls Tryz.prog 16 #[.string s] w fun e w' => e = .returned (vv 2 0 s) ∧ Below w.heap.size w w') := text_any
  clear hW
  go_enter Tryz.func5, Tryz.ntmps5
  go_wp2_with fail
  refine H1.out.mono ?_
  rintro e w1 ⟨v1, he, hr1, hb1⟩
  rw [aw1] at he hr1
  subst he
  obtain ⟨a1, cap1, rfl⟩ := hr1.form
  have HR1 : Hid (∀ w', Below w1.heap.size w1 w' → IsRow w' 3 (.slice a1 2 cap1) 2 (fCells awL)) := fun w' h => hr1.below h
  have HB1 : Hid (Below w.heap.size w w1) := hb1
  have HW1 : Hid (W4 w1) := HW.out.below hb1
  clear hr1 hb1
  go_wp2_with fail
  refine (H2.out w1 HB1.out).mono ?_
  rintro e w2 ⟨v2, he, hr2, hb2⟩
  rw [aw2] at he hr2
  subst he
  have HB2 : Hid (Below w1.heap.size w1 w2) := hb2
  have HM2 : Hid (Calls Tryz.prog 13 #[.slice a1 2 cap1, v2] w2 fun e w' => e = .returned (.tuple #[.slice none 0 0, .int .i64 9]) ∧ Below w2.heap.size w2 w') := by
    have := merge_bad _ v2 awL awM w2 (HR1.out w2 hb2) hr2 (by decide) (by decide) nmL nmM (HW1.out.below hb2).t (HW1.out.below hb2).m (by rw [aw3]; decide)
    rw [aw3] at this
    exact this
  clear hr2 hb2 H1 H2
  go_wp2_with fail
  refine HM2.out.mono ?_
  rintro e w3 ⟨rfl, hb3⟩
  have HB3 : Hid (Below w1.heap.size w1 w3) := HB2.out.trans (hb3.mono HB2.out.size)
  clear hb3 HB2 HM2
  go_wp2_with fail
  refine (HN.out 1 w3).mono ?_
  rintro e w4 ⟨rfl, hb4⟩
  have HB4 : Hid (Below w1.heap.size w1 w4) := HB3.out.trans (hb4.mono HB3.out.size)
  clear hb4 HB3
  have F4 : Hid (Calls Tryz.prog 14 #[.slice a1 2 cap1, .slice (some ⟨w4.heap.size, 0, none⟩) 1 1] (w4.alloc (.cells #[.string ⟨#[97]⟩, .int .i64 1, .int .i64 1, .string ⟨#[]⟩] 43)) fun e w' => e = .returned (.int .i64 0) ∧ Below w1.heap.size w1 w') := by
    have := fitsA (.slice a1 2 cap1) w4 w1 [⟨⟨#[97]⟩, 1, 1, ⟨#[]⟩⟩] (t := 43) rfl (by decide) (fun x hx => by simp at hx; subst hx; decide) (HR1.out w1 (Below.refl _ _)) HB4.out HW1.out
    rw [aw4] at this
    exact this
  go_wp2_with fail
  refine F4.out.mono ?_
  rintro e w5 ⟨rfl, hb5⟩
  have HB5 : Hid (Below w1.heap.size w1 w5) := hb5
  clear hb5 HB4 F4
  go_wp2_with fail
  refine (HX.out _ w5).mono ?_
  rintro e w6 ⟨rfl, hb6⟩
  have HB6 : Hid (Below w1.heap.size w1 w6) := HB5.out.trans (hb6.mono HB5.out.size)
  clear hb6 HB5
  have F6 : Hid (Calls Tryz.prog 14 #[.slice a1 2 cap1, .slice (some ⟨w6.heap.size, 0, none⟩) 1 1] (w6.alloc (.cells #[.string ⟨#[98]⟩, .int .i64 2, .int .i64 0, .string ⟨#[120]⟩] 43)) fun e w' => e = .returned (.int .i64 7) ∧ Below w1.heap.size w1 w') := by
    have := fitsA (.slice a1 2 cap1) w6 w1 [⟨⟨#[98]⟩, 2, 0, ⟨#[120]⟩⟩] (t := 43) rfl (by decide) (fun x hx => by simp at hx; subst hx; decide) (HR1.out w1 (Below.refl _ _)) HB6.out HW1.out
    rw [aw5] at this
    exact this
  go_wp2_with fail
  refine F6.out.mono ?_
  rintro e w7 ⟨rfl, hb7⟩
  have HB7 : Hid (Below w1.heap.size w1 w7) := hb7
  clear hb7 HB6 F6
  go_wp2_with fail
  refine (HX.out _ w7).mono ?_
  rintro e w8 ⟨rfl, hb8⟩
  have HB8 : Hid (Below w1.heap.size w1 w8) := HB7.out.trans (hb8.mono HB7.out.size)
  clear hb8 HB7
  have F8 : Hid (Calls Tryz.prog 14 #[.slice a1 2 cap1, .slice (some ⟨w8.heap.size, 0, none⟩) 1 1] (w8.alloc (.cells #[.string ⟨#[97]⟩, .int .i64 2, .int .i64 0, .string ⟨#[120]⟩] 43)) fun e w' => e = .returned (.int .i64 8) ∧ Below w1.heap.size w1 w') := by
    have := fitsA (.slice a1 2 cap1) w8 w1 [⟨⟨#[97]⟩, 2, 0, ⟨#[120]⟩⟩] (t := 43) rfl (by decide) (fun x hx => by simp at hx; subst hx; decide) (HR1.out w1 (Below.refl _ _)) HB8.out HW1.out
    rw [aw6] at this
    exact this
  go_wp2_with fail
  refine F8.out.mono ?_
  rintro e w9 ⟨rfl, hb9⟩
  have HB9 : Hid (Below w1.heap.size w1 w9) := hb9
  clear hb9 HB8 F8
  go_wp2_with fail
  refine (HN.out 1 w9).mono ?_
  rintro e w10 ⟨rfl, hb10⟩
  have HB10 : Hid (Below w1.heap.size w1 w10) := HB9.out.trans (hb10.mono HB9.out.size)
  clear hb10 HB9
  go_wp2_with fail
  refine (HN.out 2 w10).mono ?_
  rintro e w11 ⟨rfl, hb11⟩
  have HB11 : Hid (Below w1.heap.size w1 w11) := HB10.out.trans (hb11.mono HB10.out.size)
  clear hb11 HB10
  have F11 : Hid (Calls Tryz.prog 14 #[.slice a1 2 cap1, .slice (some ⟨w11.heap.size, 0, none⟩) 2 2] (w11.alloc (.cells #[.string ⟨#[97]⟩, .int .i64 1, .int .i64 1, .string ⟨#[]⟩, .string ⟨#[99]⟩, .int .i64 1, .int .i64 2, .string ⟨#[]⟩] 43)) fun e w' => e = .returned (.int .i64 4) ∧ Below w1.heap.size w1 w') := by
    have := fitsA (.slice a1 2 cap1) w11 w1 [⟨⟨#[97]⟩, 1, 1, ⟨#[]⟩⟩, ⟨⟨#[99]⟩, 1, 2, ⟨#[]⟩⟩] (t := 43) rfl (by decide) (fun x hx => by simp at hx; rcases hx with rfl | rfl <;> decide) (HR1.out w1 (Below.refl _ _)) HB11.out HW1.out
    rw [aw7] at this
    exact this
  go_wp2_with fail
  refine F11.out.mono ?_
  rintro e w12 ⟨rfl, hb12⟩
  have HB12 : Hid (Below w.heap.size w w12) := HB1.out.trans (hb12.mono HB1.out.size)
  clear hb12 HB11 F11
  go_wp2
  go_ret
  exact ⟨rfl, HB12.out⟩
end Go.Proofs.YtfbnlkgopncejaaGreatDoor
