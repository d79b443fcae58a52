/- value.scanRune and scanText at any text: walks. -/
import Derived.Test.YtjamkfkbajhefaaGreatDoorZk13
import Derived.Lib.IndexBytes
namespace Go.Proofs.YtjamkfkbajhefaaGreatDoor.V
open Go.RowKit

theorem dec_same (s : ByteArray) (h : s.size ≠ 0) : Lib.decodeGo s = Lib.decodeL s.data.toList := by
  unfold Lib.decodeGo Lib.decodeL
  rw [if_neg h]
theorem sh_ctl : ∀ c : Fin 128, (c.val < 32 ∨ c.val = 127) → (shR c.val).head? = some 92 := by decide +kernel
theorem sh_err : (shR 65533).length = 3 := by decide +kernel
theorem rune_dec {s : ByteArray} (hq : s.data.toList.head? ≠ some 34) (h92 : s.data.toList.head? ≠ some 92) : runeL s.data.toList = if str (shR (Lib.decodeGo s).1) = s.extract 0 (Lib.decodeGo s).2 then some (Lib.decodeGo s) else none := by
  by_cases hz : s.size = 0
  · have e : s.data.toList = [] := List.eq_nil_of_length_eq_zero (by rw [← Lib.size_eq]; exact hz)
    have ed : Lib.decodeGo s = (65533, 0) := by unfold Lib.decodeGo; rw [if_pos hz]
    rw [ed, if_neg]
    · unfold runeL
      rw [e]
      simp
    · intro h
      have := congrArg ByteArray.size h
      rw [str_size, sh_err, ext5, str_size] at this
      simp at this
  · have hne : s.data.toList ≠ [] := fun e => hz (by rw [Lib.size_eq, e]; rfl)
    rw [dec_same s hz, ext5]
    by_cases hc : s.data.toList = [] ∨ ((Lib.decodeL s.data.toList).1 = 65533 ∧ (Lib.decodeL s.data.toList).2 = 1) ∨ (Lib.decodeL s.data.toList).1 < 32 ∨ (Lib.decodeL s.data.toList).1 = 127
    · rw [if_neg]
      · unfold runeL
        rw [if_neg h92, if_pos hc]
      · intro h
        have h := str_inj h
        rcases hc with hc | ⟨h1, h2⟩ | hc
        · exact hne hc
        · rw [h1, h2] at h
          have := congrArg List.length h
          rw [sh_err, List.length_take] at this
          omega
        · have hlt : (Lib.decodeL s.data.toList).1 < 128 := by omega
          obtain ⟨b, t, hbt, hb⟩ := dec_small hne rfl hlt
          have hh := sh_ctl ⟨_, hlt⟩ hc
          simp only at hh
          have hw := Lib.decodeL_width s.data.toList
          rw [h, hbt] at hh
          have : (List.take (Lib.decodeL (b :: t)).2 (b :: t)).head? = some b := by
            rw [← hbt]
            obtain ⟨k, hk⟩ : ∃ k, (Lib.decodeL s.data.toList).2 = k + 1 := ⟨(Lib.decodeL s.data.toList).2 - 1, by omega⟩
            rw [hk, hbt]
            rfl
          rw [this] at hh
          exact h92 (by rw [hbt]; exact hh)
    · have hr : runeL s.data.toList = some (Lib.decodeL s.data.toList) := by
        unfold runeL
        rw [if_neg h92, if_neg hc]
      obtain ⟨h1, -⟩ := runeL_spec (c := (Lib.decodeL s.data.toList).1) (d := (Lib.decodeL s.data.toList).2) hr hq
      rw [hr, if_pos (by rw [h1])]
theorem decGo_ok (s : ByteArray) : scal (Lib.decodeGo s).1 ∧ (Lib.decodeGo s).2 ≤ s.size := by
  by_cases hz : s.size = 0
  · have ed : Lib.decodeGo s = (65533, 0) := by unfold Lib.decodeGo; rw [if_pos hz]
    rw [ed]
    exact ⟨.inr ⟨by decide, by decide⟩, Nat.zero_le _⟩
  · rw [dec_same s hz]
    exact ⟨decodeL_scal _, by rw [Lib.size_eq]; exact Lib.decodeL_le _ (fun e => hz (by rw [Lib.size_eq, e]; rfl))⟩
theorem pre_head (l : List UInt8) (b : UInt8) : Lib.hasPrefix l [b] = decide (l.head? = some b) := by
  cases l with
  | nil => rfl
  | cons a t =>
    simp only [Lib.hasPrefix, List.isPrefixOf, Bool.and_true, List.head?_cons, Option.some.injEq]
    rw [Bool.eq_iff_iff, beq_iff_eq, decide_eq_true_eq]
    exact eq_comm
set_option maxRecDepth 100000 in
set_option maxHeartbeats 2000000 in
theorem scanRune_any (s : ByteArray) (w : World) (hs : s.size ≤ 140737488355328) (hq : s.data.toList.head? ≠ some 34) (hU : UT w) (hT : T16 w) (hE : ES w) :
    Calls Tryz.prog 135 #[.string s] w fun e w' => e = .returned (srV (runeL s.data.toList)) ∧ Below w.heap.size w w' := by
  by_cases h92 : s.data.toList.head? = some 92
  · have HR : Hid (runeL s.data.toList = (escL s.data.toList).map fun c => (c, (shR c).length)) := by
      show _ = _
      unfold runeL
      rw [if_pos h92]
    have hp : Lib.hasPrefix s.data.toList [92] = true := by rw [pre_head, decide_eq_true h92]
    rw [HR.out]
    have HN2 := scanEscape_any s w hs h92 hT hE
    cases hX : escL s.data.toList with
    | none =>
      rw [hX] at HN2
      have HN3 : Hid (Calls Tryz.prog 165 #[.string s] w fun e w' => e = .returned (.tuple #[.int .i32 0, .int .i64 0]) ∧ Below w.heap.size w w') := HN2
      clear HN2 hX HR
      go_enter Tryz.func135, Tryz.ntmps135
      go_wp2_with fail
      refine (Tryz.strings_HasPrefix _ _ _).mono ?_
      rintro e w1 ⟨rfl, rfl⟩
      rw [show (⟨#[92]⟩ : ByteArray).data.toList = [92] from rfl, hp]
      go_wp2_with fail
      refine (Calls.mono HN3.out) ?_
      rintro e w1 ⟨rfl, hb1⟩
      go_wp2
      go_ret2
      exact ⟨rfl, hb1⟩
    | some c =>
      rw [hX] at HN2
      have HN3 : Hid (Calls Tryz.prog 165 #[.string s] w fun e w' => e = .returned (.tuple #[.int .i32 (c : Int), .int .i64 ((shR c).length : Int)]) ∧ Below w.heap.size w w') := HN2
      clear HN2 hX HR
      go_enter Tryz.func135, Tryz.ntmps135
      go_wp2_with fail
      refine (Tryz.strings_HasPrefix _ _ _).mono ?_
      rintro e w1 ⟨rfl, rfl⟩
      rw [show (⟨#[92]⟩ : ByteArray).data.toList = [92] from rfl, hp]
      go_wp2_with fail
      refine (Calls.mono HN3.out) ?_
      rintro e w1 ⟨rfl, hb1⟩
      go_wp2
      go_ret2
      exact ⟨rfl, hb1⟩
  · have hp : Lib.hasPrefix s.data.toList [92] = false := by rw [pre_head, decide_eq_false h92]
    rw [rune_dec hq h92]
    obtain ⟨hsc, hle⟩ := decGo_ok s
    have HD : Hid (∀ w, UT w → Calls Tryz.prog 76 #[.string s] w fun e w' => e = .returned (.tuple #[.int .i32 (Lib.decodeGo s).1, .int .i64 (Lib.decodeGo s).2]) ∧ Below w.heap.size w w') := fun w h => Tryz.utf8_DecodeRuneInString s w h
    generalize Lib.decodeGo s = p at *
    obtain ⟨c, d⟩ := p
    simp only at hsc hle HD ⊢
    have hcl : c ≤ 1114111 := by unfold scal at hsc; omega
    have hd' : (d : Int) ≤ s.size := by omega
    have HS : Hid (∀ w, T16 w → Calls Tryz.prog 104 #[.int .i32 (c : Int)] w fun e w' => e = .returned (.string (str (shR c))) ∧ Below w.heap.size w w') := fun w h => showRune_all c w hsc h
    generalize str (shR c) = Y at *
    clear hsc
    by_cases hc : Y = s.extract 0 d
    · rw [if_pos hc]
      subst hc
      go_enter Tryz.func135, Tryz.ntmps135
      go_wp2_with fail
      refine (Tryz.strings_HasPrefix _ _ _).mono ?_
      rintro e w1 ⟨rfl, rfl⟩
      rw [show (⟨#[92]⟩ : ByteArray).data.toList = [92] from rfl, hp]
      go_wp2_with fail
      refine (HD.out _ hU).mono ?_
      rintro e w2 ⟨rfl, hb2⟩
      have hT2 : T16 w2 ∧ Below w1.heap.size w1 w2 := ⟨T16_below hT hb2, hb2⟩
      clear hb2
      go_wp2
      go_region_held3 (fun w' => T16 w' ∧ Below w1.heap.size w1 w') (first | assumption | exact SN_call (by assumption) (by assumption) | exact SN_drew (by assumption)) (first | (go_at_call 104; refine (HS.out _ ?_).mono ?_; exact (show T16 _ ∧ _ by assumption).1; rintro e w' ⟨rfl, hb⟩))
      all_goals go_wp2
      all_goals go_ret2
      all_goals exact ⟨rfl, (show T16 _ ∧ _ by assumption).2⟩
    · rw [if_neg hc]
      have hq2 := bneq_str hc
      clear hc
      go_enter Tryz.func135, Tryz.ntmps135
      go_wp2_with fail
      refine (Tryz.strings_HasPrefix _ _ _).mono ?_
      rintro e w1 ⟨rfl, rfl⟩
      rw [show (⟨#[92]⟩ : ByteArray).data.toList = [92] from rfl, hp]
      go_wp2_with fail
      refine (HD.out _ hU).mono ?_
      rintro e w2 ⟨rfl, hb2⟩
      have hT2 : T16 w2 ∧ Below w1.heap.size w1 w2 := ⟨T16_below hT hb2, hb2⟩
      clear hb2
      go_wp2
      go_region_held3 (fun w' => T16 w' ∧ Below w1.heap.size w1 w') (first | assumption | exact SN_call (by assumption) (by assumption) | exact SN_drew (by assumption)) (first | (go_at_call 104; refine (HS.out _ ?_).mono ?_; exact (show T16 _ ∧ _ by assumption).1; rintro e w' ⟨rfl, hb⟩))
      all_goals go_wp2
      all_goals go_ret2
      all_goals exact ⟨rfl, (show T16 _ ∧ _ by assumption).2⟩
theorem builderLen_any (B b : Nat) (bs : List Value) (w : World) (h : IsB B b bs w) :
    Calls Tryz.prog 137 #[.pointer (some ⟨b, 0, none⟩)] w fun e w' => e = .returned (.int .i64 bs.length) ∧ w' = w := by
  have key : ∀ p, Lib.BuilderAtF 89 5 B b p bs w → ∃ ao cap, w.cell? ⟨b, 1, none⟩ = some (.slice ao bs.length cap) := by
    rintro p ⟨hB, v, hbk, hown, hne⟩
    have c1 : w.cell? ⟨b, 1, none⟩ = some v := by rw [Lib.cell_of_heap hbk]; rfl
    rcases hown.2 with ⟨hv, h0⟩ | ⟨g, cap, cur, fz, hv, _⟩
    · exact ⟨none, 0, by rw [c1, h0, hv]⟩
    · exact ⟨_, cap, by rw [c1, hv]⟩
  obtain ⟨ao, cap, c1⟩ := h.elim (key _) (key _)
  clear key h
  go_enter Tryz.func137, Tryz.ntmps137
  go_wp2
  go_ret
  exact ⟨rfl, rfl⟩
/-- The builder, the result's cells, what was there before. -/
def SB (w : World) (acc : List UInt8) (wr : World) : Prop := IsB (w.heap.size + 1) (w.heap.size + 1) (Lib.byteCells acc) wr ∧ Fr w wr ∧ w.heap.size + 1 < wr.heap.size
theorem SB_drew {w wr : World} {acc : List UInt8} (h : SB w acc wr) : SB w acc wr.drew := by
  obtain ⟨hI, hF, hz⟩ := h
  have hb : Below wr.heap.size wr wr.drew := Below.drew (Below.refl _ _)
  exact ⟨IsB_below hI hb, ⟨hF.z.below hb (by omega), hF.b.drew⟩, hz⟩
theorem SB_three {w wr : World} {acc : List UInt8} (h : Hid (SB w acc wr)) : Three w.heap.size wr (.int .i64 0) (.int .i64 0) (.string ⟨#[]⟩) := h.out.2.1.z.three
theorem SB_below {w wr : World} {acc : List UInt8} (h : Hid (SB w acc wr)) : Below w.heap.size w wr := h.out.2.1.b
theorem SB_str {w wr : World} {acc : List UInt8} (h : SB w acc wr) : Calls Tryz.prog 42 #[.pointer (some ⟨w.heap.size + 1, 0, none⟩)] wr fun e w' => e = .returned (.string (str acc)) ∧ SB w acc w' := by
  obtain ⟨hI, hF, hz⟩ := h
  refine (Tryz.Builder_String_any_k (w.heap.size + 1) (w.heap.size + 1) acc wr hI (by omega)).mono ?_
  rintro e w' ⟨rfl, hI2, hb, -⟩
  exact ⟨rfl, hI2, ⟨hF.z.below hb (by omega), hF.b.trans (hb.mono (by omega))⟩, by have := hb.size; omega⟩
/-- What holds of scanText's loop at every round. -/
def TxRl (s : ByteArray) (w : World) (t : Value) (wr : World) : Prop :=
  ∃ (S : ByteArray) (acc : List UInt8), t = .string S ∧ IsB (w.heap.size + 1) (w.heap.size + 1) (Lib.byteCells acc) wr ∧ Fr w wr ∧ w.heap.size + 1 < wr.heap.size ∧ txs acc S.data.toList = txs [] s.data.toList ∧ acc.length + S.size ≤ s.size
set_option maxRecDepth 100000 in
set_option maxHeartbeats 4000000 in
theorem scanText_any (s : ByteArray) (w : World) (hs : s.size ≤ 1000000) (hU : UT w) (hT : T16 w) (hE : ES w) :
    Calls Tryz.prog 119 #[.string s] w fun e w' => e = .returned (scV (scT s.data.toList)) ∧ Below w.heap.size w w' := by
  have hI := Lib.IsBuilderF.of (Lib.fresh_isBuilder 89 5 (wv w))
  rw [wv_size] at hI
  go_enter Tryz.func119, Tryz.ntmps119
  go_wp2_with fail
  go_loopw [0, 3, 4] (fun t r e wr => r = .string ⟨#[]⟩ ∧ e = .int .i64 0 ∧ TxRl s w t wr) (fun t _ _ _ => lenOf t)
  case atStart => exact ⟨rfl, rfl, s, [], rfl, hI, ⟨(Zero.new w).below ((Below.refl _ (wv w)).alloc (Nat.le_refl _) _) (by simp), (wv_below w).alloc (by simp) _⟩, by simp, rfl, by simp⟩
  case round =>
    obtain ⟨rfl, rfl, S, acc, rfl, hI, hF, hsz, hck, hal⟩ := hrel
    have HF : Hid (Fr w wr) := hF
    have HC : Hid (txs acc S.data.toList = txs [] s.data.toList) := hck
    have HB : Hid (Below w.heap.size w wr) := hF.b
    clear hck hF
    by_cases hq : S.data.toList.head? = some 34
    · have hp : Lib.hasPrefix S.data.toList [34] = true := by rw [pre_head, decide_eq_true hq]
      have h1 : 1 ≤ S.size := by
        rw [Lib.size_eq]
        cases e : S.data.toList with
        | nil => rw [e] at hq; cases hq
        | cons b t => simp
      have h1' : (1 : Int) ≤ S.size := by omega
      have hE2 : scT s.data.toList = if 200 < acc.length then .bad 2 else ⟨2, 0, acc, S.data.toList.drop 1, 0⟩ := by
        unfold scT
        rw [← HC.out, txs_end hq]
      have HR : Hid (S.extract 1 S.size = str (S.data.toList.drop 1)) := ext_from S 1
      by_cases h200 : 200 < acc.length
      · have HX : Hid (scT s.data.toList = .bad 2) := hE2.trans (if_pos h200)
        have d200 : decide ((200 : Int) < acc.length) = true := by simp; omega
        clear hE2 HC
        obtain ⟨⟨c0, c1, c2, f0, f1, f2⟩, -⟩ := HF.out
        go_wp2_with fail
        refine (Tryz.strings_HasPrefix _ _ _).mono ?_
        rintro e w1 ⟨rfl, rfl⟩
        rw [show (⟨#[34]⟩ : ByteArray).data.toList = [34] from rfl, hp]
        go_wp2_with fail
        refine (builderLen_any _ _ _ _ hI).mono ?_
        rintro e w2 ⟨rfl, rfl⟩
        rw [Lib.byteCells_length]
        go_wp2
        try simp only [Exit.inBlock, Exit.then]
        exact bodyPost_ret (results_v3 rfl _ _ w.heap.size rfl (HF.out.z.three.set _ _ _)) rfl ⟨by rw [HX.out]; rfl, set3_below HF.out.b _ _ _⟩
      · have HX : Hid (scT s.data.toList = ⟨2, 0, acc, S.data.toList.drop 1, 0⟩) := hE2.trans (if_neg h200)
        have d200 : decide ((200 : Int) < acc.length) = false := by simp; omega
        clear hE2 HC
        go_wp2_with fail
        refine (Tryz.strings_HasPrefix _ _ _).mono ?_
        rintro e w1 ⟨rfl, rfl⟩
        rw [show (⟨#[34]⟩ : ByteArray).data.toList = [34] from rfl, hp]
        go_wp2_with fail
        refine (builderLen_any _ _ _ _ hI).mono ?_
        rintro e w2 ⟨rfl, rfl⟩
        rw [Lib.byteCells_length]
        go_wp2
        have HS0 : SB w acc w2 := ⟨hI, HF.out, hsz⟩
        clear hI
        go_region_with (first | (go_at_call 42; refine (SB_str (by first | assumption | exact SB_drew (by assumption) | exact SB_drew (SB_drew (by assumption)))).mono ?_; rintro e w' ⟨rfl, hS'⟩; have HS' : Hid (SB w acc w') := hS'; have hzz := hS'.2.1.z; obtain ⟨c0, c1, c2, f0, f1, f2⟩ := hzz; clear hS'))
        all_goals go_wp2
        all_goals (try simp only [Exit.inBlock, Exit.then])
        all_goals
          exact bodyPost_ret (results_v3 rfl _ _ w.heap.size rfl ((SB_three (acc := acc) (by assumption)).set _ _ _)) rfl ⟨by rw [HX.out, scV, ← HR.out]; rfl, set3_below (SB_below (acc := acc) (by assumption)) _ _ _⟩
    · have hp : Lib.hasPrefix S.data.toList [34] = false := by rw [pre_head, decide_eq_false hq]
      have HN2 := fun w hU hT hE => scanRune_any S w (by omega) hq hU hT hE
      cases hr : runeL S.data.toList with
      | none =>
        rw [hr] at HN2
        have HN3 : Hid (∀ w, UT w → T16 w → ES w → Calls Tryz.prog 135 #[.string S] w fun e w' => e = .returned (.tuple #[.int .i32 0, .int .i64 0]) ∧ Below w.heap.size w w') := HN2
        have HX : Hid (scT s.data.toList = .bad 3) := by show _ = _; unfold scT; rw [← HC.out, txs_none hq hr]
        clear HN2 hr HC
        go_wp2_with fail
        refine (Tryz.strings_HasPrefix _ _ _).mono ?_
        rintro e w1 ⟨rfl, rfl⟩
        rw [show (⟨#[34]⟩ : ByteArray).data.toList = [34] from rfl, hp]
        go_wp2_with fail
        refine (HN3.out _ (Utf8Tabs_below hU HB.out) (T16_below hT HB.out) (ES_below hE HB.out)).mono ?_
        rintro e w2 ⟨rfl, hb2⟩
        have HF2 : Hid (Fr w w2) := ⟨HF.out.z.below hb2 (by omega), HB.out.trans (hb2.mono HB.out.size)⟩
        obtain ⟨⟨c0, c1, c2, f0, f1, f2⟩, -⟩ := HF2.out
        clear hb2
        go_wp2
        try simp only [Exit.inBlock, Exit.then]
        exact bodyPost_ret (results_v3 rfl _ _ w.heap.size rfl (HF2.out.z.three.set _ _ _)) rfl ⟨by rw [HX.out]; rfl, set3_below HF2.out.b _ _ _⟩
      | some p =>
        obtain ⟨c, d⟩ := p
        rw [hr] at HN2
        obtain ⟨-, h1, h2, hsc, hel⟩ := runeL_spec hr hq
        have HN3 : Hid (∀ w, UT w → T16 w → ES w → Calls Tryz.prog 135 #[.string S] w fun e w' => e = .returned (.tuple #[.int .i32 (c : Int), .int .i64 (d : Int)]) ∧ Below w.heap.size w w') := HN2
        have HX : Hid (txs (acc ++ enc c) (S.extract d S.size).data.toList = txs [] s.data.toList) := by
          show _ = _
          rw [← HC.out, txs_step hq hr, ext_from, str_data]
        rw [← Lib.size_eq] at h2
        have hd0 : ((d : Int) == 0) = false := by rw [beq_eq_false_iff_ne]; omega
        have hd' : (d : Int) ≤ S.size := by omega
        have hes : (S.extract d S.size).size = S.size - d := by rw [ByteArray.size_extract]; omega
        have HS : Hid (scal c) := hsc
        have hel4 := enc_len4 c
        have HAL : Hid ((acc ++ enc c).length + (S.extract d S.size).size ≤ s.size) := by show _ ≤ _; rw [List.length_append, hes]; omega
        have HM : Hid ((S.extract d S.size).size < S.size) := by show _ < _; rw [hes]; omega
        clear HN2 hr HC hsc hes
        go_wp2_with fail
        refine (Tryz.strings_HasPrefix _ _ _).mono ?_
        rintro e w1 ⟨rfl, rfl⟩
        rw [show (⟨#[34]⟩ : ByteArray).data.toList = [34] from rfl, hp]
        go_wp2_with fail
        refine (HN3.out _ (Utf8Tabs_below hU HB.out) (T16_below hT HB.out) (ES_below hE HB.out)).mono ?_
        rintro e w2 ⟨rfl, hb2⟩
        have HF2 : Hid (Fr w w2) := ⟨HF.out.z.below hb2 (by omega), HB.out.trans (hb2.mono HB.out.size)⟩
        have hI2 := IsB_below hI hb2
        have hs2 := hb2.size
        clear hb2 hI
        go_wp2_with fail
        refine (writeRune_any (w.heap.size + 1) (w.heap.size + 1) (Lib.byteCells acc) c _ HS.out hI2 (by rw [Lib.byteCells_length]; omega) (by omega)).mono ?_
        rintro e w3 ⟨rfl, hI3, hb3, -⟩
        have HI3 : Hid (IsB (w.heap.size + 1) (w.heap.size + 1) (Lib.byteCells (acc ++ enc c)) w3) := by rw [Lib.byteCells_append]; exact hI3
        have HF3 : Hid (Fr w w3) := ⟨HF2.out.z.below hb3 (by omega), HF2.out.b.trans (hb3.mono (by omega))⟩
        have hs3 := hb3.size
        clear hb3 hI3 hI2
        go_wp2
        go_roundw
        case rel => exact ⟨rfl, rfl, _, acc ++ enc c, rfl, HI3.out, HF3.out, by omega, HX.out, HAL.out⟩
        case measure => exact HM.out
end Go.Proofs.YtjamkfkbajhefaaGreatDoor.V
/- value.scanBytes at any text: its walk. -/
namespace Go.Proofs.YtjamkfkbajhefaaGreatDoor.V
open Go.RowKit

theorem indexByte_no : ∀ (l : List UInt8) (c : UInt8), c ∉ l → Lib.indexByte l c = -1
  | [], _, _ => rfl
  | b :: t, c, h => by
    have hb : b ≠ c := fun e => h (by simp [e])
    have ht : c ∉ t := fun e => h (by simp [e])
    unfold Lib.indexByte
    rw [indexByte_no t c ht]
    simp [hb]
theorem indexByte_app : ∀ (D R : List UInt8) (c : UInt8), c ∉ D → Lib.indexByte (D ++ c :: R) c = D.length
  | [], R, c, _ => by simp [Lib.indexByte]
  | b :: t, R, c, h => by
    have hb : b ≠ c := fun e => h (by simp [e])
    have ht : c ∉ t := fun e => h (by simp [e])
    rw [List.cons_append]
    unfold Lib.indexByte
    rw [indexByte_app t R c ht]
    have h1 : ((t.length : Int) == -1) = false := by rw [beq_eq_false_iff_ne]; omega
    simp [hb, h1]
theorem split_at : ∀ (l : List UInt8) (c : UInt8), c ∈ l → ∃ D R, l = D ++ c :: R ∧ c ∉ D
  | [], _, h => by cases h
  | b :: t, c, h => by
    by_cases e : b = c
    · exact ⟨[], t, by rw [e]; rfl, by simp⟩
    · obtain ⟨D, R, h1, h2⟩ := split_at t c (by rcases List.mem_cons.1 h with h | h; exact absurd h.symm e; exact h)
      refine ⟨b :: D, R, by rw [h1]; rfl, ?_⟩
      intro h
      rcases List.mem_cons.1 h with h | h
      · exact e h.symm
      · exact h2 h
theorem cut_no {l : List UInt8} {c : UInt8} (h : c ∉ l) : Lib.cut l [c] = (l, [], false) := by
  unfold Lib.cut
  rw [Lib.index_one, indexByte_no l c h]
  rfl
theorem cut_yes {D R : List UInt8} {c : UInt8} (h : c ∉ D) : Lib.cut (D ++ c :: R) [c] = (D, R, true) := by
  unfold Lib.cut
  rw [Lib.index_one, indexByte_app D R c h, if_pos (by omega)]
  have : (D.length : Int).toNat = D.length := rfl
  rw [this, List.take_left, ← List.drop_drop, List.drop_left]
  rfl
theorem cutCall (s : ByteArray) (D R : List UInt8) (C : Bool) (w : World) (hs : s.size ≤ 1000000) (hM : ML w) (h : Lib.cut s.data.toList [39] = (D, R, C)) :
    Calls Tryz.prog 138 #[.string s, .string ⟨#[39]⟩] w fun e w' => e = .returned (.tuple #[.string (str D), .string (str R), .bool C]) ∧ Below w.heap.size w w' := by
  obtain ⟨m, hm⟩ := hM
  refine (Tryz.strings_Cut s ⟨#[39]⟩ m w (by omega) hm).mono ?_
  rintro e w1 ⟨rfl, n, hw1⟩
  have e1 : Lib.cut s.data.toList (⟨#[39]⟩ : ByteArray).data.toList = (D, R, C) := h
  rw [e1]
  exact ⟨rfl, by rw [hw1]; exact ⟨rfl, rfl, rfl, Nat.le_refl _, fun _ _ => rfl⟩⟩
set_option maxRecDepth 100000 in
set_option maxHeartbeats 4000000 in
theorem scanBytes_no (s : ByteArray) (w : World) (hs : s.size ≤ 1000000) (hM : ML w) (h : 39 ∉ s.data.toList) :
    Calls Tryz.prog 120 #[.string s] w fun e w' => e = .returned (scV (scX s.data.toList)) ∧ Below w.heap.size w w' := by
  have HX : Hid (scX s.data.toList = .bad 3) := by show _ = _; unfold scX; rw [hxs_open _ h]
  have HC : Hid (∀ w, ML w → Calls Tryz.prog 138 #[.string s, .string ⟨#[39]⟩] w fun e w' => e = .returned (.tuple #[.string (str s.data.toList), .string (str []), .bool false]) ∧ Below w.heap.size w w') := fun w hM => cutCall s _ _ _ w hs hM (cut_no h)
  clear h
  go_enter Tryz.func120, Tryz.ntmps120
  go_wp2_with fail
  refine (HC.out _ (ML_below hM (wv_below w))).mono ?_
  rintro e w1 ⟨rfl, hb1⟩
  have HF : Hid (Fr w w1) := Fr.of hb1
  obtain ⟨⟨d0, d1, d2, f0, f1, f2⟩, -⟩ := HF.out
  clear hb1
  go_wp2
  try simp only [Exit.inBlock, Exit.then]
  exact bodyPost_ret (results_v3 rfl _ _ w.heap.size rfl (HF.out.z.three.set _ _ _)) rfl ⟨by rw [HX.out]; rfl, set3_below HF.out.b _ _ _⟩
set_option maxRecDepth 100000 in
set_option maxHeartbeats 4000000 in
theorem scanBytes_odd (s : ByteArray) (w : World) (D R : List UInt8) (hs : s.size ≤ 1000000) (hM : ML w) (hl : s.data.toList = D ++ 39 :: R) (h : 39 ∉ D) (ho : D.length % 2 ≠ 0) :
    Calls Tryz.prog 120 #[.string s] w fun e w' => e = .returned (scV (scX s.data.toList)) ∧ Below w.heap.size w w' := by
  have HX : Hid (scX s.data.toList = .bad 3) := by show _ = _; unfold scX; rw [hl, hxs_app _ _ h, hxp_odd _ ho]; rfl
  have HC : Hid (∀ w, ML w → Calls Tryz.prog 138 #[.string s, .string ⟨#[39]⟩] w fun e w' => e = .returned (.tuple #[.string (str D), .string (str R), .bool true]) ∧ Below w.heap.size w w') := fun w hM => cutCall s _ _ _ w hs hM (by rw [hl]; exact cut_yes h)
  have hz : (str D).size = D.length := str_size D
  have h1 : (((str D).size : Int) % 2 != 0) = true := by rw [bne_iff_ne, hz]; omega
  generalize str D = E at *
  clear h ho hl hz
  go_enter Tryz.func120, Tryz.ntmps120
  go_wp2_with fail
  refine (HC.out _ (ML_below hM (wv_below w))).mono ?_
  rintro e w1 ⟨rfl, hb1⟩
  have HF : Hid (Fr w w1) := Fr.of hb1
  obtain ⟨⟨d0, d1, d2, f0, f1, f2⟩, -⟩ := HF.out
  clear hb1
  go_wp2
  all_goals (try simp only [Exit.inBlock, Exit.then])
  exact bodyPost_ret (results_v3 rfl _ _ w.heap.size rfl (HF.out.z.three.set _ _ _)) rfl ⟨by rw [HX.out]; rfl, set3_below HF.out.b _ _ _⟩
end Go.Proofs.YtjamkfkbajhefaaGreatDoor.V
/- value.scanBytes where the digits are even: its walk. -/
namespace Go.Proofs.YtjamkfkbajhefaaGreatDoor.V
open Go.RowKit

/-- Where a byte stands among the digits. -/
def hxI (b : Nat) : Int := Lib.indexByte HX.data.toList b.toUInt8
theorem hxI_d : ∀ n : Fin 256, hxI n.val = match hxd (UInt8.ofNat n.val) with | some x => (x : Int) | none => -1 := by decide +kernel
theorem hxI_some {b : UInt8} {x : Nat} (h : hxd b = some x) : hxI b.toNat = x := by
  have := hxI_d ⟨b.toNat, UInt8.toNat_lt b⟩
  simp only [UInt8.ofNat_toNat, h] at this
  exact this
theorem hxI_none {b : UInt8} (h : hxd b = none) : hxI b.toNat = -1 := by
  have := hxI_d ⟨b.toNat, UInt8.toNat_lt b⟩
  simp only [UInt8.ofNat_toNat, h] at this
  exact this
theorem idx_any (c : Int) (b : Nat) (w : World) (hc : c = (b : Int)) : Calls Tryz.prog 123 #[.string HX, .int .u8 c] w fun e w' => e = .returned (.int .i64 (hxI b)) ∧ w' = w := by
  subst hc
  exact Tryz.strings_IndexByte HX (b : Int) w
theorem mkN (n : Nat) (W : World) (hn : n ≤ 1000000) : (Instr.makeSlice 87 (.int .i64 (n : Int)) (.int .i64 (n : Int))).run Tryz.prog W = .ok (.slice (some ⟨W.heap.size, 0, none⟩) n n) (W.alloc (.cells (madeCells (Value.int .u8 0).cells n) 5)) := by
  obtain ⟨i0, hi, hz0, hz1, hz2⟩ := info_parts info_u8
  have := run_makeSlice (P := Tryz.prog) W 87 5 i0 _ Tryz.underlying87 hi hz0 .i64 .i64 n n (by omega) (by omega) (by rw [hz1]; omega) (by rw [hz2]; omega) (by omega)
  rw [hz1] at this
  simpa using this
theorem mkN_cell (n j : Nat) (W : World) (h : j < n) : (W.alloc (.cells (madeCells (Value.int .u8 0).cells n) 5)).cell? ⟨W.heap.size, j, none⟩ = some (.int .u8 0) := by
  have hs : (madeCells (Value.int .u8 0).cells n).size = n := size_madeCells _ _
  have : (madeCells (Value.int .u8 0).cells n)[j]? = some (.int .u8 0) := by
    rw [Array.getElem?_eq_getElem (by omega)]
    simp [madeCells, Value.cells, Nat.mod_one]
  simp [this]
theorem Three.drew {b : Nat} {W : World} {x y z : Value} (h : Three b W x y z) : Three b W.drew x y z := ⟨h.c0, h.c1, h.c2⟩
theorem orr : ∀ x y : Fin 16, bits BinOp.or IntKind.i64 ((x.val : Int) * 16) (y.val : Int) = ((16 * x.val + y.val : Nat) : Int) := by decide +kernel
/-- What holds of scanBytes' loop at every round. -/
def SbRl (D : List UInt8) (n g : Nat) (w : World) (i : Value) (wr : World) : Prop :=
  ∃ (k : Nat) (acc : List UInt8), k ≤ n ∧ i = .int .i64 k ∧ acc.length = k ∧ (∀ j, j < n → wr.cell? ⟨g, j, none⟩ = some (.int .u8 ((acc.getD j 0).toNat : Int))) ∧ (∀ j, wr.frozen? ⟨g, j, none⟩ = false) ∧ Fr w wr ∧ (hxp (D.drop (2 * k))).map (acc ++ ·) = hxp D
theorem getD_snoc (acc : List UInt8) (b : UInt8) (j : Nat) : (acc ++ [b]).getD j 0 = if j = acc.length then b else acc.getD j 0 := by
  by_cases h : j < acc.length
  · rw [if_neg (by omega), List.getD_eq_getElem?_getD, List.getElem?_append_left h, List.getD_eq_getElem?_getD]
  · by_cases e : j = acc.length
    · rw [if_pos e, List.getD_eq_getElem?_getD, List.getElem?_append_right (by omega), e]
      simp
    · rw [if_neg e, List.getD_eq_getElem?_getD, List.getElem?_append_right (by omega), List.getElem?_eq_none (by simp; omega), List.getD_eq_getElem?_getD, List.getElem?_eq_none (by omega)]
theorem Sb_put {D : List UInt8} {n g k : Nat} {w wr : World} {acc : List UInt8} {x y : Nat} (hg : w.heap.size < g) (hk : k < n) (hl : acc.length = k) (hc : ∀ j, j < n → wr.cell? ⟨g, j, none⟩ = some (.int .u8 ((acc.getD j 0).toNat : Int))) (hf : ∀ j, wr.frozen? ⟨g, j, none⟩ = false) (hF : Fr w wr) (hx : x < 16) (hy : y < 16)
    (hX : (hxp (D.drop (2 * (k + 1)))).map ((acc ++ [UInt8.ofNat (16 * x + y)]) ++ ·) = hxp D) :
    SbRl D n g w (.int .i64 ((k + 1 : Nat) : Int)) (wr.setCell ⟨g, k, none⟩ (.int .u8 ((16 * x + y : Nat) : Int))) := by
  have ht : (UInt8.ofNat (16 * x + y)).toNat = 16 * x + y := toNat_of (by omega)
  refine ⟨k + 1, acc ++ [UInt8.ofNat (16 * x + y)], by omega, rfl, by simp [hl], fun j hj => ?_, fun j => by simpa using hf j, ⟨?_, hF.b.setCell (p := ⟨g, k, none⟩) (Nat.le_of_lt hg) _⟩, hX⟩
  · rw [getD_snoc, hl]
    by_cases e : j = k
    · subst e
      rw [if_pos rfl, ht, World.cell?_setCell_same _ _ _ (hc j hj)]
    · rw [if_neg e, World.cell?_setCell_other _ _ _ _ (fun h => e (congrArg Addr.off h).symm)]
      exact hc j hj
  · obtain ⟨a, b, c, f0, f1, f2⟩ := hF.z
    have o : ∀ j, (⟨g, k, none⟩ : Addr) ≠ ⟨w.heap.size, j, none⟩ := fun j e => by have h1 : g = w.heap.size := congrArg Addr.block e; omega
    exact ⟨by rw [World.cell?_setCell_other _ _ _ _ (o 0)]; exact a, by rw [World.cell?_setCell_other _ _ _ _ (o 1)]; exact b, by rw [World.cell?_setCell_other _ _ _ _ (o 2)]; exact c, by simpa using f0, by simpa using f1, by simpa using f2⟩
theorem Sb_drew {D : List UInt8} {n g : Nat} {w wr : World} {i : Value} (h : SbRl D n g w i wr) : SbRl D n g w i wr.drew := by
  obtain ⟨k, acc, a, b, c, d, e, f, x⟩ := h
  exact ⟨k, acc, a, b, c, d, e, ⟨f.z.below (B := w.heap.size + 1) (Below.drew (Below.refl _ _)) (by omega), f.b.drew⟩, x⟩
theorem nums_str (acc : List UInt8) : strOfNums (acc.map fun b => (b.toNat : Int)) = str acc := by
  unfold strOfNums str
  rw [List.map_map]
  refine congrArg (fun l : List UInt8 => (⟨l.toArray⟩ : ByteArray)) ?_
  conv => rhs; rw [← List.map_id acc]
  apply List.map_congr_left
  intro b _
  simp
theorem conv_bytes (w : World) (g n : Nat) (acc : List UInt8) (hl : acc.length = n) (hc : ∀ j, j < n → w.cell? ⟨g, j, none⟩ = some (.int .u8 ((acc.getD j 0).toNat : Int))) : (convert 87 9 (.slice (some ⟨g, 0, none⟩) n n)).run Tryz.prog w = .ok (.string (str acc)) w := by
  have := run_convert_bytes_arg (P := Tryz.prog) w 87 5 Tryz.underlying87 Tryz.underlying5 g 0 n n (acc.map fun b => (b.toNat : Int)) (by simp [hl]) (fun i hi => by
    rw [Nat.zero_add, hc i hi, List.getD_eq_getElem?_getD, List.getD_eq_getElem?_getD, List.getElem?_map, List.getElem?_eq_getElem (by omega)]
    rfl) 9 Tryz.underlying9
  rw [this]
  rw [nums_str]
set_option maxRecDepth 100000 in
set_option maxHeartbeats 4000000 in
theorem scanBytes_even (s : ByteArray) (w : World) (D R : List UInt8) (n : Nat) (hs : s.size ≤ 1000000) (hM : ML w) (hl : s.data.toList = D ++ 39 :: R) (h : 39 ∉ D) (hn : D.length = 2 * n) :
    Calls Tryz.prog 120 #[.string s] w fun e w' => e = .returned (scV (scX s.data.toList)) ∧ Below w.heap.size w w' := by
  have HX : Hid (scX s.data.toList = match (hxp D).map fun b => (b, R) with | none => .bad 3 | some p => if 200 < p.1.length then .bad 2 else ⟨4, 0, p.1, p.2, 0⟩) := by show _ = _; unfold scX; rw [hl, hxs_app _ _ h]; cases hxp D <;> rfl
  have HC : Hid (∀ w, ML w → Calls Tryz.prog 138 #[.string s, .string ⟨#[39]⟩] w fun e w' => e = .returned (.tuple #[.string (str D), .string (str R), .bool true]) ∧ Below w.heap.size w w') := fun w hM => cutCall s _ _ _ w hs hM (by rw [hl]; exact cut_yes h)
  have hz : (str D).size = 2 * n := by rw [str_size]; exact hn
  have hn1 : n ≤ 1000000 := by have := Lib.size_eq s; rw [hl, List.length_append] at this; omega
  have HG : Hid (∀ j, j < D.length → gN (str D) j = (D.getD j 0).toNat) := fun j hj => gN_str D j hj
  have h1 : (((str D).size : Int) % 2 != 0) = false := by rw [bne_eq_false_iff_eq, hz]; omega
  have h2 : ((str D).size : Int) / 2 = n := by rw [hz]; omega
  have HN : Hid (D.length = 2 * n) := hn
  have HZ : Hid ((str D).size = 2 * n) := hz
  generalize str D = E at *
  clear h hl hz hn
  go_enter Tryz.func120, Tryz.ntmps120
  go_wp2_with fail
  refine (HC.out _ (ML_below hM (wv_below w))).mono ?_
  rintro e w1 ⟨rfl, hb1⟩
  have HF : Hid (Fr w w1) := Fr.of hb1
  have hlt : w.heap.size < w1.heap.size := by have := hb1.size; simp at this; omega
  clear hb1
  go_wp2
  rw [mkN n _ hn1]
  have HA : Hid (SbRl D n w1.heap.size w (.int .i64 ((0 : Nat) : Int)) (w1.alloc (.cells (madeCells (Value.int .u8 0).cells n) 5))) := by
    have hA := (Below.refl w1.heap.size w1).alloc (Nat.le_refl _) (.cells (madeCells (Value.int .u8 0).cells n) 5)
    refine ⟨0, [], Nat.zero_le _, rfl, rfl, fun j hj => by rw [mkN_cell n j w1 hj]; rfl, fun j => by simp, ⟨HF.out.z.below hA hlt, HF.out.b.alloc (by omega) _⟩, ?_⟩
    show (hxp (D.drop 0)).map ([] ++ ·) = hxp D
    rw [List.drop_zero]
    cases hxp D <;> rfl
  generalize w1.alloc (.cells (madeCells (Value.int .u8 0).cells n) 5) = w2 at *
  generalize w1.heap.size = g at *
  go_wp2_with fail
  go_loopw [3, 4, 32] (fun r e i wr => r = .string (str R) ∧ e = .int .i64 0 ∧ SbRl D n g w i wr) (fun _ _ i _ => n - (RowKit.intOf i).toNat)
  case atStart => exact ⟨rfl, rfl, HA.out⟩
  case round =>
    obtain ⟨rfl, rfl, k, acc, hk, rfl, hal, hc, hf, hFr, hck⟩ := hrel
    have HL : Hid (acc.length = k) := hal
    have HCK : Hid ((hxp (D.drop (2 * k))).map (acc ++ ·) = hxp D) := hck
    have HFr : Hid (Fr w wr) := hFr
    have HCC : Hid (∀ j, j < n → wr.cell? ⟨g, j, none⟩ = some (.int .u8 ((acc.getD j 0).toNat : Int))) := hc
    have HFF : Hid (∀ j, wr.frozen? ⟨g, j, none⟩ = false) := hf
    obtain ⟨⟨d0, d1, d2, f0, f1, f2⟩, -⟩ := HFr.out
    clear hal hck hFr hc hf
    by_cases hkn : k < n
    · have hki : (k : Int) < n := by omega
      have hD2 : 2 * k + 1 < D.length := by rw [HN.out]; omega
      have hdrop : D.drop (2 * k) = D.getD (2 * k) 0 :: D.getD (2 * k + 1) 0 :: D.drop (2 * (k + 1)) := by
        rw [List.drop_eq_getElem_cons (by omega), List.drop_eq_getElem_cons hD2, List.getD_eq_getElem?_getD, List.getElem?_eq_getElem (by omega), List.getD_eq_getElem?_getD, List.getElem?_eq_getElem hD2]
        rfl
      have hE2 : 2 * k + 1 < E.size := by rw [HZ.out]; omega
      have g1 := gN_of E (2 * k) (by omega)
      have g2 := gN_of E (2 * k + 1) hE2
      rw [HG.out (2 * k) (by omega)] at g1
      rw [HG.out (2 * k + 1) hD2] at g2
      have e2 : 2 * (k : Int) < E.size := by omega
      have e3 : 2 * (k : Int) + 1 < E.size := by omega
      generalize D.getD (2 * k) 0 = a at *
      generalize D.getD (2 * k + 1) 0 = b at *
      have ha := UInt8.toNat_lt a
      have hb := UInt8.toNat_lt b
      have q1 : IntKind.i64.wrap (2 * (k : Int)) = ((2 * k : Nat) : Int) := by rw [IntKind.wrap_i64]; omega
      have q2 : IntKind.i64.wrap (((2 * k : Nat) : Int) + 1) = ((2 * k + 1 : Nat) : Int) := by rw [IntKind.wrap_i64]; omega
      have q3 : IntKind.i64.wrap (2 * (k : Int) + 1) = ((2 * k + 1 : Nat) : Int) := by rw [IntKind.wrap_i64]; omega
      have HD : Hid (D.drop (2 * k) = a :: b :: D.drop (2 * (k + 1))) := hdrop
      clear hdrop hD2
      have v1 : ∀ p : (2 * (k : Int)).toNat < E.size, hxI (E[(2 * (k : Int)).toNat]'p).toNat = hxI a.toNat := fun p => by
        have e : (2 * (k : Int)).toNat = 2 * k := by omega
        have := g1
        simp only [e]
        rw [this]
      have v2 : ∀ p : (2 * (k : Int) + 1).toNat < E.size, hxI (E[(2 * (k : Int) + 1).toNat]'p).toNat = hxI b.toNat := fun p => by
        have e : (2 * (k : Int) + 1).toNat = 2 * k + 1 := by omega
        have := g2
        simp only [e]
        rw [this]
      clear g1 g2
      have fail3 : hxd a = none ∨ hxd b = none → Hid (scX s.data.toList = .bad 3) := by
        intro h
        have hn : hxp (D.drop (2 * k)) = none := by
          rw [HD.out]
          unfold hxp
          rcases h with h | h
          · rw [h]
          · rw [h]; cases hxd a <;> rfl
        have := HCK.out
        rw [hn] at this
        have h3 : hxp D = none := this.symm
        show _ = _
        rw [HX.out, h3]
        rfl
      cases hxa : hxd a with
      | none =>
        have HX3 := fail3 (.inl hxa)
        rw [hxI_none hxa] at v1
        clear fail3 hxa HD HX
        go_wp2
        go_region_held3 (fun w' => True) (trivial) (first | (go_at_call 123; refine (idx_any _ _ _ rfl).mono ?_; rintro e w' ⟨rfl, rfl⟩))
        all_goals (try simp only [v1, v2])
        all_goals go_wp2
        all_goals (try simp only [Exit.inBlock, Exit.then])
        all_goals exact bodyPost_ret (results_v3 rfl _ _ w.heap.size rfl (Three.drew (HFr.out.z.three.set _ _ _))) rfl ⟨by rw [HX3.out]; rfl, (set3_below HFr.out.b _ _ _).drew⟩
      | some x =>
        have hx16 := hxd_lt hxa
        cases hxb : hxd b with
        | none =>
          have HX3 := fail3 (.inr hxb)
          rw [hxI_some hxa] at v1
          rw [hxI_none hxb] at v2
          clear fail3 hxa hxb HD HX
          go_wp2
          go_region_held3 (fun w' => True) (trivial) (first | (go_at_call 123; refine (idx_any _ _ _ rfl).mono ?_; rintro e w' ⟨rfl, rfl⟩))
          all_goals (try simp only [v1, v2])
          all_goals go_wp2
          all_goals (try simp only [Exit.inBlock, Exit.then])
          all_goals exact bodyPost_ret (results_v3 rfl _ _ w.heap.size rfl (Three.drew (HFr.out.z.three.set _ _ _))) rfl ⟨by rw [HX3.out]; rfl, (set3_below HFr.out.b _ _ _).drew⟩
        | some y =>
          have hy16 := hxd_lt hxb
          have HX2 : Hid ((hxp (D.drop (2 * (k + 1)))).map ((acc ++ [UInt8.ofNat (16 * x + y)]) ++ ·) = hxp D) := by
            show _ = _
            rw [← HCK.out, HD.out]
            conv => rhs; unfold hxp
            rw [hxa, hxb]
            cases hxp (D.drop (2 * (k + 1))) <;> simp
          rw [hxI_some hxa] at v1
          rw [hxI_some hxb] at v2
          have cg := HCC.out k hkn
          have fg := HFF.out k
          have hor := orr ⟨x, hx16⟩ ⟨y, hy16⟩
          simp only at hor
          have HP : Hid (SbRl D n g w (.int .i64 ((k + 1 : Nat) : Int)) (wr.setCell ⟨g, k, none⟩ (.int .u8 ((16 * x + y : Nat) : Int)))) := Sb_put hlt hkn HL.out HCC.out HFF.out HFr.out hx16 hy16 HX2.out
          clear fail3 hxa hxb HD HX
          go_wp2
          go_region_held3 (fun w' => True) (trivial) (first | (go_at_call 123; refine (idx_any _ _ _ rfl).mono ?_; rintro e w' ⟨rfl, rfl⟩))
          all_goals (try simp only [v1, v2])
          all_goals go_wp2
          all_goals
            refine ⟨⟨rfl, rfl, Sb_drew ?_⟩, by simp [RowKit.intOf]; omega⟩
            have hp := HP.out
            push_cast at hp
            exact hp
    · obtain rfl : k = n := by omega
      have hfin : hxp D = some acc := by
        rw [← HCK.out, List.drop_eq_nil_of_le (by rw [HN.out]; exact Nat.le_refl _)]
        simp [hxp]
      have hE2 : scX s.data.toList = if 200 < acc.length then .bad 2 else ⟨4, 0, acc, R, 0⟩ := by
        rw [HX.out, hfin]
        rfl
      rw [HL.out] at hE2
      by_cases h200 : 200 < k
      · have HX3 : Hid (scX s.data.toList = .bad 2) := hE2.trans (if_pos h200)
        have d200 : decide ((200 : Int) < k) = true := by simp; omega
        clear hE2 hfin HX
        go_wp2
        try simp only [Exit.inBlock, Exit.then]
        exact bodyPost_ret (results_v3 rfl _ _ w.heap.size rfl (HFr.out.z.three.set _ _ _)) rfl ⟨by rw [HX3.out]; rfl, set3_below HFr.out.b _ _ _⟩
      · have HX3 : Hid (scX s.data.toList = ⟨4, 0, acc, R, 0⟩) := hE2.trans (if_neg h200)
        have d200 : decide ((200 : Int) < k) = false := by simp; omega
        have hcv := conv_bytes wr g k acc HL.out HCC.out
        clear hE2 hfin HX
        go_wp2
        try simp only [Exit.inBlock, Exit.then]
        exact bodyPost_ret (results_v3 rfl _ _ w.heap.size rfl (HFr.out.z.three.set _ _ _)) rfl ⟨by rw [HX3.out]; rfl, set3_below HFr.out.b _ _ _⟩
theorem scanBytes_any (s : ByteArray) (w : World) (hs : s.size ≤ 1000000) (hM : ML w) :
    Calls Tryz.prog 120 #[.string s] w fun e w' => e = .returned (scV (scX s.data.toList)) ∧ Below w.heap.size w w' := by
  by_cases h : 39 ∈ s.data.toList
  · obtain ⟨D, R, h1, h2⟩ := split_at _ _ h
    by_cases ho : D.length % 2 = 0
    · exact scanBytes_even s w D R (D.length / 2) hs hM h1 h2 (by omega)
    · exact scanBytes_odd s w D R hs hM h1 h2 ho
  · exact scanBytes_no s w hs hM h
end Go.Proofs.YtjamkfkbajhefaaGreatDoor.V
