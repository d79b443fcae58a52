/- value.scanRune and scanText at any text: walks. -/
import Derived.Test.YtdendpckihckeaaGreatDoorXG
import Derived.Test.YtdendpckihckeaaGreatDoorXE
import Derived.Test.YtdendpckihckeaaGreatDoorXI
namespace Go.Proofs.YtdendpckihckeaaGreatDoor
open Go.RowKit

theorem dec_same (s : ByteArray) (h : s.size ≠ 0) : Lib.decodeGo s = Lib.decodeL s.data.toList := by
  unfold Lib.decodeGo Lib.decodeL
  rw [if_neg h]
theorem sh_ctl : ∀ c : Fin 128, (c.val < 32 ∨ c.val = 127) → (shR c.val).head? = some 92 := by decide +kernel
theorem sh_err : (shR 65533).length = 3 := by decide +kernel
theorem rune_dec {s : ByteArray} (hq : s.data.toList.head? ≠ some 34) (h92 : s.data.toList.head? ≠ some 92) : runeL s.data.toList = if str (shR (Lib.decodeGo s).1) = s.extract 0 (Lib.decodeGo s).2 then some (Lib.decodeGo s) else none := by
  by_cases hz : s.size = 0
  · have e : s.data.toList = [] := List.eq_nil_of_length_eq_zero (by rw [← Lib.size_eq]; exact hz)
    have ed : Lib.decodeGo s = (65533, 0) := by unfold Lib.decodeGo; rw [if_pos hz]
    rw [ed, if_neg]
    · unfold runeL
      rw [e]
      simp
    · intro h
      have := congrArg ByteArray.size h
      rw [str_size, sh_err, ext5, str_size] at this
      simp at this
  · have hne : s.data.toList ≠ [] := fun e => hz (by rw [Lib.size_eq, e]; rfl)
    rw [dec_same s hz, ext5]
    by_cases hc : s.data.toList = [] ∨ ((Lib.decodeL s.data.toList).1 = 65533 ∧ (Lib.decodeL s.data.toList).2 = 1) ∨ (Lib.decodeL s.data.toList).1 < 32 ∨ (Lib.decodeL s.data.toList).1 = 127
    · rw [if_neg]
      · unfold runeL
        rw [if_neg h92, if_pos hc]
      · intro h
        have h := str_inj h
        rcases hc with hc | ⟨h1, h2⟩ | hc
        · exact hne hc
        · rw [h1, h2] at h
          have := congrArg List.length h
          rw [sh_err, List.length_take] at this
          omega
        · have hlt : (Lib.decodeL s.data.toList).1 < 128 := by omega
          obtain ⟨b, t, hbt, hb⟩ := dec_small hne rfl hlt
          have hh := sh_ctl ⟨_, hlt⟩ hc
          simp only at hh
          have hw := Lib.decodeL_width s.data.toList
          rw [h, hbt] at hh
          have : (List.take (Lib.decodeL (b :: t)).2 (b :: t)).head? = some b := by
            rw [← hbt]
            obtain ⟨k, hk⟩ : ∃ k, (Lib.decodeL s.data.toList).2 = k + 1 := ⟨(Lib.decodeL s.data.toList).2 - 1, by omega⟩
            rw [hk, hbt]
            rfl
          rw [this] at hh
          exact h92 (by rw [hbt]; exact hh)
    · have hr : runeL s.data.toList = some (Lib.decodeL s.data.toList) := by
        unfold runeL
        rw [if_neg h92, if_neg hc]
      obtain ⟨h1, -⟩ := runeL_spec (c := (Lib.decodeL s.data.toList).1) (d := (Lib.decodeL s.data.toList).2) hr hq
      rw [hr, if_pos (by rw [h1])]
theorem decGo_ok (s : ByteArray) : scal (Lib.decodeGo s).1 ∧ (Lib.decodeGo s).2 ≤ s.size := by
  by_cases hz : s.size = 0
  · have ed : Lib.decodeGo s = (65533, 0) := by unfold Lib.decodeGo; rw [if_pos hz]
    rw [ed]
    exact ⟨.inr ⟨by decide, by decide⟩, Nat.zero_le _⟩
  · rw [dec_same s hz]
    exact ⟨decodeL_scal _, by rw [Lib.size_eq]; exact Lib.decodeL_le _ (fun e => hz (by rw [Lib.size_eq, e]; rfl))⟩
theorem pre_head (l : List UInt8) (b : UInt8) : Lib.hasPrefix l [b] = decide (l.head? = some b) := by
  cases l with
  | nil => rfl
  | cons a t =>
    simp only [Lib.hasPrefix, List.isPrefixOf, Bool.and_true, List.head?_cons, Option.some.injEq]
    rw [Bool.eq_iff_iff, beq_iff_eq, decide_eq_true_eq]
    exact eq_comm
set_option maxRecDepth 100000 in
set_option maxHeartbeats 2000000 in
theorem scanRune_any (s : ByteArray) (w : World) (hs : s.size ≤ 140737488355328) (hq : s.data.toList.head? ≠ some 34) (hU : UT w) (hT : T16 w) (hE : ES w) :
    Calls Tryz.prog 55 #[.string s] w fun e w' => e = .returned (srV (runeL s.data.toList)) ∧ Below w.heap.size w w' := by
  by_cases h92 : s.data.toList.head? = some 92
  · have HR : Hid (runeL s.data.toList = (escL s.data.toList).map fun c => (c, (shR c).length)) := by
      show _ = _
      unfold runeL
      rw [if_pos h92]
    have hp : Lib.hasPrefix s.data.toList [92] = true := by rw [pre_head, decide_eq_true h92]
    rw [HR.out]
    have HN2 := scanEscape_any s w hs h92 hT hE
    cases hX : escL s.data.toList with
    | none =>
      rw [hX] at HN2
      have HN3 : Hid (Calls Tryz.prog 86 #[.string s] w fun e w' => e = .returned (.tuple #[.int .i32 0, .int .i64 0]) ∧ Below w.heap.size w w') := HN2
      clear HN2 hX HR
      go_enter Tryz.func55, Tryz.ntmps55
      go_wp2_with fail
      refine (Tryz.strings_HasPrefix _ _ _).mono ?_
      rintro e w1 ⟨rfl, rfl⟩
      rw [show (⟨#[92]⟩ : ByteArray).data.toList = [92] from rfl, hp]
      go_wp2_with fail
      refine (Calls.mono HN3.out) ?_
      rintro e w1 ⟨rfl, hb1⟩
      go_wp2
      go_ret2
      exact ⟨rfl, hb1⟩
    | some c =>
      rw [hX] at HN2
      have HN3 : Hid (Calls Tryz.prog 86 #[.string s] w fun e w' => e = .returned (.tuple #[.int .i32 (c : Int), .int .i64 ((shR c).length : Int)]) ∧ Below w.heap.size w w') := HN2
      clear HN2 hX HR
      go_enter Tryz.func55, Tryz.ntmps55
      go_wp2_with fail
      refine (Tryz.strings_HasPrefix _ _ _).mono ?_
      rintro e w1 ⟨rfl, rfl⟩
      rw [show (⟨#[92]⟩ : ByteArray).data.toList = [92] from rfl, hp]
      go_wp2_with fail
      refine (Calls.mono HN3.out) ?_
      rintro e w1 ⟨rfl, hb1⟩
      go_wp2
      go_ret2
      exact ⟨rfl, hb1⟩
  · have hp : Lib.hasPrefix s.data.toList [92] = false := by rw [pre_head, decide_eq_false h92]
    rw [rune_dec hq h92]
    obtain ⟨hsc, hle⟩ := decGo_ok s
    have HD : Hid (∀ w, UT w → Calls Tryz.prog 87 #[.string s] w fun e w' => e = .returned (.tuple #[.int .i32 (Lib.decodeGo s).1, .int .i64 (Lib.decodeGo s).2]) ∧ Below w.heap.size w w') := fun w h => Tryz.utf8_DecodeRuneInString s w h
    generalize Lib.decodeGo s = p at *
    obtain ⟨c, d⟩ := p
    simp only at hsc hle HD ⊢
    have hcl : c ≤ 1114111 := by unfold scal at hsc; omega
    have hd' : (d : Int) ≤ s.size := by omega
    have HS : Hid (∀ w, T16 w → Calls Tryz.prog 74 #[.int .i32 (c : Int)] w fun e w' => e = .returned (.string (str (shR c))) ∧ Below w.heap.size w w') := fun w h => showRune_all c w hsc h
    generalize str (shR c) = Y at *
    clear hsc
    by_cases hc : Y = s.extract 0 d
    · rw [if_pos hc]
      subst hc
      go_enter Tryz.func55, Tryz.ntmps55
      go_wp2_with fail
      refine (Tryz.strings_HasPrefix _ _ _).mono ?_
      rintro e w1 ⟨rfl, rfl⟩
      rw [show (⟨#[92]⟩ : ByteArray).data.toList = [92] from rfl, hp]
      go_wp2_with fail
      refine (HD.out _ hU).mono ?_
      rintro e w2 ⟨rfl, hb2⟩
      have hT2 : T16 w2 ∧ Below w1.heap.size w1 w2 := ⟨T16_below hT hb2, hb2⟩
      clear hb2
      go_wp2
      go_region_held3 (fun w' => T16 w' ∧ Below w1.heap.size w1 w') (first | assumption | exact SN_call (by assumption) (by assumption) | exact SN_drew (by assumption)) (first | (go_at_call 74; refine (HS.out _ ?_).mono ?_; exact (show T16 _ ∧ _ by assumption).1; rintro e w' ⟨rfl, hb⟩))
      all_goals go_wp2
      all_goals go_ret2
      all_goals exact ⟨rfl, (show T16 _ ∧ _ by assumption).2⟩
    · rw [if_neg hc]
      have hq2 := bneq_str hc
      clear hc
      go_enter Tryz.func55, Tryz.ntmps55
      go_wp2_with fail
      refine (Tryz.strings_HasPrefix _ _ _).mono ?_
      rintro e w1 ⟨rfl, rfl⟩
      rw [show (⟨#[92]⟩ : ByteArray).data.toList = [92] from rfl, hp]
      go_wp2_with fail
      refine (HD.out _ hU).mono ?_
      rintro e w2 ⟨rfl, hb2⟩
      have hT2 : T16 w2 ∧ Below w1.heap.size w1 w2 := ⟨T16_below hT hb2, hb2⟩
      clear hb2
      go_wp2
      go_region_held3 (fun w' => T16 w' ∧ Below w1.heap.size w1 w') (first | assumption | exact SN_call (by assumption) (by assumption) | exact SN_drew (by assumption)) (first | (go_at_call 74; refine (HS.out _ ?_).mono ?_; exact (show T16 _ ∧ _ by assumption).1; rintro e w' ⟨rfl, hb⟩))
      all_goals go_wp2
      all_goals go_ret2
      all_goals exact ⟨rfl, (show T16 _ ∧ _ by assumption).2⟩
theorem builderLen_any (B b : Nat) (bs : List Value) (w : World) (h : IsB B b bs w) :
    Calls Tryz.prog 57 #[.pointer (some ⟨b, 0, none⟩)] w fun e w' => e = .returned (.int .i64 bs.length) ∧ w' = w := by
  have key : ∀ p, Lib.BuilderAtF 87 5 B b p bs w → ∃ ao cap, w.cell? ⟨b, 1, none⟩ = some (.slice ao bs.length cap) := by
    rintro p ⟨hB, v, hbk, hown, hne⟩
    have c1 : w.cell? ⟨b, 1, none⟩ = some v := by rw [Lib.cell_of_heap hbk]; rfl
    rcases hown.2 with ⟨hv, h0⟩ | ⟨g, cap, cur, fz, hv, _⟩
    · exact ⟨none, 0, by rw [c1, h0, hv]⟩
    · exact ⟨_, cap, by rw [c1, hv]⟩
  obtain ⟨ao, cap, c1⟩ := h.elim (key _) (key _)
  clear key h
  go_enter Tryz.func57, Tryz.ntmps57
  go_wp2
  go_ret
  exact ⟨rfl, rfl⟩
/-- The builder, the result's cells, what was there before. -/
def SB (w : World) (acc : List UInt8) (wr : World) : Prop := IsB (w.heap.size + 1) (w.heap.size + 1) (Lib.byteCells acc) wr ∧ Fr w wr ∧ w.heap.size + 1 < wr.heap.size
theorem SB_drew {w wr : World} {acc : List UInt8} (h : SB w acc wr) : SB w acc wr.drew := by
  obtain ⟨hI, hF, hz⟩ := h
  have hb : Below wr.heap.size wr wr.drew := Below.drew (Below.refl _ _)
  exact ⟨IsB_below hI hb, ⟨hF.z.below hb (by omega), hF.b.drew⟩, hz⟩
theorem SB_three {w wr : World} {acc : List UInt8} (h : Hid (SB w acc wr)) : Three w.heap.size wr (.int .i64 0) (.int .i64 0) (.string ⟨#[]⟩) := h.out.2.1.z.three
theorem SB_below {w wr : World} {acc : List UInt8} (h : Hid (SB w acc wr)) : Below w.heap.size w wr := h.out.2.1.b
theorem SB_str {w wr : World} {acc : List UInt8} (h : SB w acc wr) : Calls Tryz.prog 58 #[.pointer (some ⟨w.heap.size + 1, 0, none⟩)] wr fun e w' => e = .returned (.string (str acc)) ∧ SB w acc w' := by
  obtain ⟨hI, hF, hz⟩ := h
  refine (Tryz.Builder_String_any_k (w.heap.size + 1) (w.heap.size + 1) acc wr hI (by omega)).mono ?_
  rintro e w' ⟨rfl, hI2, hb, -⟩
  exact ⟨rfl, hI2, ⟨hF.z.below hb (by omega), hF.b.trans (hb.mono (by omega))⟩, by have := hb.size; omega⟩
/-- What holds of scanText's loop at every round. -/
def TxRl (s : ByteArray) (w : World) (t : Value) (wr : World) : Prop :=
  ∃ (S : ByteArray) (acc : List UInt8), t = .string S ∧ IsB (w.heap.size + 1) (w.heap.size + 1) (Lib.byteCells acc) wr ∧ Fr w wr ∧ w.heap.size + 1 < wr.heap.size ∧ txs acc S.data.toList = txs [] s.data.toList ∧ acc.length + S.size ≤ s.size
set_option maxRecDepth 100000 in
set_option maxHeartbeats 4000000 in
theorem scanText_any (s : ByteArray) (w : World) (hs : s.size ≤ 1000000) (hU : UT w) (hT : T16 w) (hE : ES w) :
    Calls Tryz.prog 28 #[.string s] w fun e w' => e = .returned (scV (scT s.data.toList)) ∧ Below w.heap.size w w' := by
  have hI := Lib.IsBuilderF.of (Lib.fresh_isBuilder 87 5 (wv w))
  rw [wv_size] at hI
  go_enter Tryz.func28, Tryz.ntmps28
  go_wp2_with fail
  go_loopw [0, 3, 4] (fun t r e wr => r = .string ⟨#[]⟩ ∧ e = .int .i64 0 ∧ TxRl s w t wr) (fun t _ _ _ => lenOf t)
  case atStart => exact ⟨rfl, rfl, s, [], rfl, hI, ⟨(Zero.new w).below ((Below.refl _ (wv w)).alloc (Nat.le_refl _) _) (by simp), (wv_below w).alloc (by simp) _⟩, by simp, rfl, by simp⟩
  case round =>
    obtain ⟨rfl, rfl, S, acc, rfl, hI, hF, hsz, hck, hal⟩ := hrel
    have HF : Hid (Fr w wr) := hF
    have HC : Hid (txs acc S.data.toList = txs [] s.data.toList) := hck
    have HB : Hid (Below w.heap.size w wr) := hF.b
    clear hck hF
    by_cases hq : S.data.toList.head? = some 34
    · have hp : Lib.hasPrefix S.data.toList [34] = true := by rw [pre_head, decide_eq_true hq]
      have h1 : 1 ≤ S.size := by
        rw [Lib.size_eq]
        cases e : S.data.toList with
        | nil => rw [e] at hq; cases hq
        | cons b t => simp
      have h1' : (1 : Int) ≤ S.size := by omega
      have hE2 : scT s.data.toList = if 200 < acc.length then .bad 2 else ⟨2, 0, acc, S.data.toList.drop 1, 0⟩ := by
        unfold scT
        rw [← HC.out, txs_end hq]
      have HR : Hid (S.extract 1 S.size = str (S.data.toList.drop 1)) := ext_from S 1
      by_cases h200 : 200 < acc.length
      · have HX : Hid (scT s.data.toList = .bad 2) := hE2.trans (if_pos h200)
        have d200 : decide ((200 : Int) < acc.length) = true := by simp; omega
        clear hE2 HC
        obtain ⟨⟨c0, c1, c2, f0, f1, f2⟩, -⟩ := HF.out
        go_wp2_with fail
        refine (Tryz.strings_HasPrefix _ _ _).mono ?_
        rintro e w1 ⟨rfl, rfl⟩
        rw [show (⟨#[34]⟩ : ByteArray).data.toList = [34] from rfl, hp]
        go_wp2_with fail
        refine (builderLen_any _ _ _ _ hI).mono ?_
        rintro e w2 ⟨rfl, rfl⟩
        rw [Lib.byteCells_length]
        go_wp2
        try simp only [Exit.inBlock, Exit.then]
        exact bodyPost_ret (results_v3 rfl _ _ w.heap.size rfl (HF.out.z.three.set _ _ _)) rfl ⟨by rw [HX.out]; rfl, set3_below HF.out.b _ _ _⟩
      · have HX : Hid (scT s.data.toList = ⟨2, 0, acc, S.data.toList.drop 1, 0⟩) := hE2.trans (if_neg h200)
        have d200 : decide ((200 : Int) < acc.length) = false := by simp; omega
        clear hE2 HC
        go_wp2_with fail
        refine (Tryz.strings_HasPrefix _ _ _).mono ?_
        rintro e w1 ⟨rfl, rfl⟩
        rw [show (⟨#[34]⟩ : ByteArray).data.toList = [34] from rfl, hp]
        go_wp2_with fail
        refine (builderLen_any _ _ _ _ hI).mono ?_
        rintro e w2 ⟨rfl, rfl⟩
        rw [Lib.byteCells_length]
        go_wp2
        have HS0 : SB w acc w2 := ⟨hI, HF.out, hsz⟩
        clear hI
        go_region_with (first | (go_at_call 58; refine (SB_str (by first | assumption | exact SB_drew (by assumption) | exact SB_drew (SB_drew (by assumption)))).mono ?_; rintro e w' ⟨rfl, hS'⟩; have HS' : Hid (SB w acc w') := hS'; have hzz := hS'.2.1.z; obtain ⟨c0, c1, c2, f0, f1, f2⟩ := hzz; clear hS'))
        all_goals go_wp2
        all_goals (try simp only [Exit.inBlock, Exit.then])
        all_goals
          exact bodyPost_ret (results_v3 rfl _ _ w.heap.size rfl ((SB_three (acc := acc) (by assumption)).set _ _ _)) rfl ⟨by rw [HX.out, scV, ← HR.out]; rfl, set3_below (SB_below (acc := acc) (by assumption)) _ _ _⟩
    · have hp : Lib.hasPrefix S.data.toList [34] = false := by rw [pre_head, decide_eq_false hq]
      have HN2 := fun w hU hT hE => scanRune_any S w (by omega) hq hU hT hE
      cases hr : runeL S.data.toList with
      | none =>
        rw [hr] at HN2
        have HN3 : Hid (∀ w, UT w → T16 w → ES w → Calls Tryz.prog 55 #[.string S] w fun e w' => e = .returned (.tuple #[.int .i32 0, .int .i64 0]) ∧ Below w.heap.size w w') := HN2
        have HX : Hid (scT s.data.toList = .bad 3) := by show _ = _; unfold scT; rw [← HC.out, txs_none hq hr]
        clear HN2 hr HC
        go_wp2_with fail
        refine (Tryz.strings_HasPrefix _ _ _).mono ?_
        rintro e w1 ⟨rfl, rfl⟩
        rw [show (⟨#[34]⟩ : ByteArray).data.toList = [34] from rfl, hp]
        go_wp2_with fail
        refine (HN3.out _ (Utf8Tabs_below hU HB.out) (T16_below hT HB.out) (ES_below hE HB.out)).mono ?_
        rintro e w2 ⟨rfl, hb2⟩
        have HF2 : Hid (Fr w w2) := ⟨HF.out.z.below hb2 (by omega), HB.out.trans (hb2.mono HB.out.size)⟩
        obtain ⟨⟨c0, c1, c2, f0, f1, f2⟩, -⟩ := HF2.out
        clear hb2
        go_wp2
        try simp only [Exit.inBlock, Exit.then]
        exact bodyPost_ret (results_v3 rfl _ _ w.heap.size rfl (HF2.out.z.three.set _ _ _)) rfl ⟨by rw [HX.out]; rfl, set3_below HF2.out.b _ _ _⟩
      | some p =>
        obtain ⟨c, d⟩ := p
        rw [hr] at HN2
        obtain ⟨-, h1, h2, hsc, hel⟩ := runeL_spec hr hq
        have HN3 : Hid (∀ w, UT w → T16 w → ES w → Calls Tryz.prog 55 #[.string S] w fun e w' => e = .returned (.tuple #[.int .i32 (c : Int), .int .i64 (d : Int)]) ∧ Below w.heap.size w w') := HN2
        have HX : Hid (txs (acc ++ enc c) (S.extract d S.size).data.toList = txs [] s.data.toList) := by
          show _ = _
          rw [← HC.out, txs_step hq hr, ext_from, str_data]
        rw [← Lib.size_eq] at h2
        have hd0 : ((d : Int) == 0) = false := by rw [beq_eq_false_iff_ne]; omega
        have hd' : (d : Int) ≤ S.size := by omega
        have hes : (S.extract d S.size).size = S.size - d := by rw [ByteArray.size_extract]; omega
        have HS : Hid (scal c) := hsc
        have hel4 := enc_len4 c
        have HAL : Hid ((acc ++ enc c).length + (S.extract d S.size).size ≤ s.size) := by show _ ≤ _; rw [List.length_append, hes]; omega
        have HM : Hid ((S.extract d S.size).size < S.size) := by show _ < _; rw [hes]; omega
        clear HN2 hr HC hsc hes
        go_wp2_with fail
        refine (Tryz.strings_HasPrefix _ _ _).mono ?_
        rintro e w1 ⟨rfl, rfl⟩
        rw [show (⟨#[34]⟩ : ByteArray).data.toList = [34] from rfl, hp]
        go_wp2_with fail
        refine (HN3.out _ (Utf8Tabs_below hU HB.out) (T16_below hT HB.out) (ES_below hE HB.out)).mono ?_
        rintro e w2 ⟨rfl, hb2⟩
        have HF2 : Hid (Fr w w2) := ⟨HF.out.z.below hb2 (by omega), HB.out.trans (hb2.mono HB.out.size)⟩
        have hI2 := IsB_below hI hb2
        have hs2 := hb2.size
        clear hb2 hI
        go_wp2_with fail
        refine (writeRune_any (w.heap.size + 1) (w.heap.size + 1) (Lib.byteCells acc) c _ HS.out hI2 (by rw [Lib.byteCells_length]; omega) (by omega)).mono ?_
        rintro e w3 ⟨rfl, hI3, hb3, -⟩
        have HI3 : Hid (IsB (w.heap.size + 1) (w.heap.size + 1) (Lib.byteCells (acc ++ enc c)) w3) := by rw [Lib.byteCells_append]; exact hI3
        have HF3 : Hid (Fr w w3) := ⟨HF2.out.z.below hb3 (by omega), HF2.out.b.trans (hb3.mono (by omega))⟩
        have hs3 := hb3.size
        clear hb3 hI3 hI2
        go_wp2
        go_roundw
        case rel => exact ⟨rfl, rfl, _, acc ++ enc c, rfl, HI3.out, HF3.out, by omega, HX.out, HAL.out⟩
        case measure => exact HM.out
end Go.Proofs.YtdendpckihckeaaGreatDoor
