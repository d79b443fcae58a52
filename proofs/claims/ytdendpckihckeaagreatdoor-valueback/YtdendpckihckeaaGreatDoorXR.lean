/- The reference's text: its walk. -/
import Derived.Test.YtdendpckihckeaaGreatDoorXN
namespace Go.Proofs.YtdendpckihckeaaGreatDoor
open Go.RowKit

theorem fst_list (s : ByteArray) (p : Nat) (h : p < s.size) : fst (s.extract p s.size) = if (Lib.decodeL (s.data.toList.drop p)).1 = 65533 ∧ (Lib.decodeL (s.data.toList.drop p)).2 = 1 then (0, 0) else Lib.decodeL (s.data.toList.drop p) := by
  rw [fst_at s p h, Lib.decodeL_drop]
/-- What holds of text's loop at every round. -/
def TeRel (s : ByteArray) (w : World) (o i : Value) (wr : World) : Prop :=
  ∃ (p : Nat) (acc : List UInt8), o = .string (str acc) ∧ i = .int .i64 (p : Int) ∧ 1 ≤ p ∧ p ≤ s.size ∧ acc.length ≤ p ∧ Zf w.heap.size wr ∧ Below w.heap.size w wr ∧ w.heap.size < wr.heap.size ∧ txs acc (s.data.toList.drop p) = txs [] (s.data.toList.drop 1)
theorem str_app (a b : List UInt8) : str a ++ str b = str (a ++ b) := ba_eq (by rw [ba_append, str_data, str_data, str_data])
set_option maxRecDepth 100000 in
set_option maxHeartbeats 4000000 in
theorem refText_any (s : ByteArray) (w : World) (hs : s.size ≤ 1000000) (h1 : 1 ≤ s.size) :
    Calls Tryz.prog 32 #[.string s] w fun e w' => e = .returned (scS (scT (s.data.toList.drop 1))) ∧ Below w.heap.size w w' := by
  obtain ⟨XX, HXX⟩ : ∃ XX, Hid (scS (scT (s.data.toList.drop 1)) = XX) := ⟨_, rfl⟩
  rw [HXX.out]
  have Z0 : Hid (Zf w.heap.size (wf w)) := Zf.new w
  go_enter Tryz.func32, Tryz.ntmps32
  go_wp2_with fail
  go_loopw [3, 4] (fun o i wr => TeRel s w o i wr) (fun _ i _ => s.size - (RowKit.intOf i).toNat)
  case atStart => exact ⟨1, [], rfl, rfl, Nat.le_refl _, h1, Nat.zero_le _, Z0.out, wf_below w, by simp, rfl⟩
  case round =>
    obtain ⟨p, acc, rfl, rfl, hp1, hps, hal, hZ, hB, hlt, hck⟩ := hrel
    have ZR : Hid (Zf w.heap.size wr) := hZ
    have BR : Hid (Below w.heap.size w wr) := hB
    have HCK : Hid (txs acc (s.data.toList.drop p) = txs [] (s.data.toList.drop 1)) := hck
    clear hZ hB hck Z0
    have hbs := BR.out.size
    by_cases hlp : p < s.size
    · have hpl : p < s.data.toList.length := by rw [← Lib.size_eq]; exact hlp
      have hgp := gN_of s p hlp
      have hgl : gN s p = ((s.data.toList)[p]'hpl).toNat := by rw [gN_list s p hlp, List.getD_eq_getElem?_getD, List.getElem?_eq_getElem hpl]; rfl
      have hdrop : s.data.toList.drop p = (s.data.toList)[p]'hpl :: s.data.toList.drop (p + 1) := List.drop_eq_getElem_cons hpl
      generalize (s.data.toList)[p]'hpl = a at *
      rw [hgl] at hgp
      clear hgl
      have ha := UInt8.toNat_lt a
      have hi : (p : Int) < s.size := by omega
      have hhd : (s.data.toList.drop p).head? = some a := by rw [hdrop]; rfl
      by_cases h34 : a = 34
      · subst h34
        obtain ⟨⟨c0, c1, c2, c3, c4⟩, ff⟩ := ZR.out
        have hE2 : scT (s.data.toList.drop 1) = if 200 < acc.length then .bad 2 else ⟨2, 0, acc, s.data.toList.drop (p + 1), 0⟩ := by
          unfold scT
          rw [← HCK.out, txs_end hhd, List.drop_drop]
        have HR : Hid (s.extract (p + 1) s.size = str (s.data.toList.drop (p + 1))) := ext_from s (p + 1)
        have hp1' : (p : Int) + 1 ≤ s.size := by omega
        have dl : decide ((s.size : Int) ≤ p) = false := by simp; omega
        have hzz : (str acc).size = acc.length := str_size acc
        have HZZ : Hid ((str acc).size = acc.length) := hzz
        by_cases h200 : 200 < acc.length
        · have HX3 : Hid (scT (s.data.toList.drop 1) = .bad 2) := hE2.trans (if_pos h200)
          have d200 : decide ((200 : Int) < (str acc).size) = true := by rw [hzz]; simp; omega
          clear hE2 hzz hdrop hhd HCK
          generalize str acc = Y at *
          go_wp2
          try simp only [Exit.inBlock, Exit.then]
          exact bodyPost_ret (results_s1 rfl _ _ w.heap.size rfl (ZR.out.c.set _ _ _ _ _)) rfl ⟨by rw [← HXX.out, HX3.out]; rfl, set5_below BR.out _ _ _ _ _⟩
        · have HX3 : Hid (scT (s.data.toList.drop 1) = ⟨2, 0, acc, s.data.toList.drop (p + 1), 0⟩) := hE2.trans (if_neg h200)
          have d200 : decide ((200 : Int) < (str acc).size) = false := by rw [hzz]; simp; omega
          have HXY : Hid (XX = vs 2 0 (str acc) (s.extract (p + 1) s.size) 0) := by show _ = _; rw [← HXX.out, HX3.out, scS, HR.out]
          clear hE2 hzz hdrop hhd HCK HX3 HXX HR
          generalize str acc = Y at *
          go_wp2
          try simp only [Exit.inBlock, Exit.then]
          exact bodyPost_ret (results_s1 rfl _ _ w.heap.size rfl (ZR.out.c.set _ _ _ _ _)) rfl ⟨by rw [HXY.out], set5_below BR.out _ _ _ _ _⟩
      · have n34 : ((a.toNat : Int) != 34) = true := by
          rw [bne_iff_ne]
          intro e
          exact h34 (UInt8.toNat_inj.1 (by show _ = 34; omega))
        have hq : (s.data.toList.drop p).head? ≠ some 34 := by rw [hhd]; exact fun e => h34 (Option.some.inj e)
        have bad3 : runeL (s.data.toList.drop p) = none → Hid (XX = vs 0 0 ⟨#[]⟩ ⟨#[]⟩ 3) := fun h => by
          show _ = _
          rw [← HXX.out]
          unfold scT
          rw [← HCK.out, txs_none hq h]
          rfl
        have next : ∀ c d, runeL (s.data.toList.drop p) = some (c, d) → Hid (p + d ≤ s.size ∧ 1 ≤ d ∧ (acc ++ enc c).length ≤ p + d ∧ scal c ∧ txs (acc ++ enc c) (s.data.toList.drop (p + d)) = txs [] (s.data.toList.drop 1)) := fun c d h => by
          obtain ⟨-, r1, r2, r3, r4⟩ := runeL_spec h hq
          rw [List.length_drop, ← Lib.size_eq] at r2
          refine ⟨by omega, r1, by rw [List.length_append]; omega, r3, ?_⟩
          rw [← HCK.out, txs_step hq h, List.drop_drop]
        by_cases h92 : a = 92
        · subst h92
          have hr : runeL (s.data.toList.drop p) = (escL (s.data.toList.drop p)).map fun c => (c, (shR c).length) := by
            unfold runeL
            rw [if_pos hhd]
          have HC : Hid (∀ w, Calls Tryz.prog 64 #[.string (s.extract p s.size)] w fun e w' => e = .returned (.int .i64 (escZ (s.data.toList.drop p))) ∧ Below w.heap.size w w') := fun w => by
            have := control_any (s.extract p s.size) w
            rw [sub_list] at this
            exact this
          unfold escZ at HC
          cases hE : escL (s.data.toList.drop p) with
          | none =>
            rw [hE] at hr HC
            have HX3 := bad3 hr
            have HC2 : Hid (∀ w, Calls Tryz.prog 64 #[.string (s.extract p s.size)] w fun e w' => e = .returned (.int .i64 (-1)) ∧ Below w.heap.size w w') := HC.out
            clear bad3 next hr hE HC HCK hdrop hhd hq h34
            generalize str acc = Y at *
            go_wp2_with fail
            refine (HC2.out _).mono ?_
            rintro e w2 ⟨rfl, hb2⟩
            have ZR2 : Hid (Zf w.heap.size w2) := ZR.out.below hb2 hlt
            have BR2 : Hid (Below w.heap.size w w2) := BR.out.trans (hb2.mono hbs)
            obtain ⟨⟨c0, c1, c2, c3, c4⟩, ff⟩ := ZR2.out
            clear hb2
            go_wp2
            try simp only [Exit.inBlock, Exit.then]
            exact bodyPost_ret (results_s1 rfl _ _ w.heap.size rfl (ZR2.out.c.set _ _ _ _ _)) rfl ⟨by rw [HX3.out], set5_below BR2.out _ _ _ _ _⟩
          | some c =>
            rw [hE] at hr HC
            have HN := next c (shR c).length hr
            obtain ⟨n1, n2, n3, n4, n5⟩ := HN.out
            have HC2 : Hid (∀ w, Calls Tryz.prog 64 #[.string (s.extract p s.size)] w fun e w' => e = .returned (.int .i64 (c : Int)) ∧ Below w.heap.size w w') := HC.out
            have HBy : Hid (∀ w, Calls Tryz.prog 65 #[.int .i64 (c : Int)] w fun e w' => e = .returned (.string (str (enc c))) ∧ Below w.heap.size w w') := fun w => refBytes_any c w n4
            have HEs : Hid (∀ w, Calls Tryz.prog 66 #[.int .i64 (c : Int)] w fun e w' => e = .returned (.string (str (shR c))) ∧ Below w.heap.size w w') := fun w => escape_any c w n4
            have hsz : (str (shR c)).size = (shR c).length := str_size _
            have HSZ : Hid ((str (shR c)).size = (shR c).length) := hsz
            have HAP : Hid (str acc ++ str (enc c) = str (acc ++ enc c)) := str_app acc (enc c)
            have hz1 : (str acc).size ≤ 1000000 := by rw [str_size]; omega
            have hz2 : (str (enc c)).size ≤ 4 := by rw [str_size]; exact enc_len4 c
            have hz3 : p + (str (shR c)).size ≤ s.size := by rw [hsz]; exact n1
            have hz4 : 1 ≤ (str (shR c)).size := by rw [hsz]; exact n2
            clear bad3 next hr hE HC HCK hdrop hhd hq h34 n1 n2 n3 n4 n5 hsz HXX
            generalize str (shR c) = V at *
            generalize str acc = Y at *
            generalize str (enc c) = U at *
            go_wp2_with fail
            refine (HC2.out _).mono ?_
            rintro e w2 ⟨rfl, hb2⟩
            have ZR2 : Hid (Zf w.heap.size w2) := ZR.out.below hb2 hlt
            have BR2 : Hid (Below w.heap.size w w2) := BR.out.trans (hb2.mono hbs)
            have hs2 := hb2.size
            clear hb2
            go_wp2_with fail
            refine (HBy.out _).mono ?_
            rintro e w3 ⟨rfl, hb3⟩
            have ZR3 : Hid (Zf w.heap.size w3) := ZR2.out.below hb3 (by omega)
            have BR3 : Hid (Below w.heap.size w w3) := BR2.out.trans (hb3.mono (by omega))
            have hs3 := hb3.size
            clear hb3
            go_wp2_with fail
            refine (HEs.out _).mono ?_
            rintro e w4 ⟨rfl, hb4⟩
            have ZR4 : Hid (Zf w.heap.size w4) := ZR3.out.below hb4 (by omega)
            have BR4 : Hid (Below w.heap.size w w4) := BR3.out.trans (hb4.mono (by omega))
            have hs4 := hb4.size
            clear hb4
            go_wp2
            go_roundw
            case rel =>
              refine ⟨p + V.size, acc ++ enc c, by rw [HAP.out], by go_num, by omega, hz3, ?_, ZR4.out, BR4.out, by omega, ?_⟩
              · rw [HSZ.out]; exact HN.out.2.2.1
              · rw [HSZ.out]; exact HN.out.2.2.2.2
            case measure => simp [RowKit.intOf]; omega
        · have n92 : ((a.toNat : Int) == 92) = false := by
            rw [beq_eq_false_iff_ne]
            intro e
            exact h92 (UInt8.toNat_inj.1 (by show _ = 92; omega))
          have h92' : (s.data.toList.drop p).head? ≠ some 92 := by rw [hhd]; exact fun e => h92 (Option.some.inj e)
          have HF : Hid (∀ w, Calls Tryz.prog 53 #[.string (s.extract p s.size)] w fun e w' => e = .returned (.agg #[.int .i64 (fst (s.extract p s.size)).1, .int .i64 (fst (s.extract p s.size)).2]) ∧ Below w.heap.size w w') := fun w => first_any (s.extract p s.size) w (by rw [ByteArray.size_extract]; omega)
          rw [fst_list s p hlp] at HF
          have hne : s.data.toList.drop p ≠ [] := by rw [hdrop]; simp
          have hrl := decodeL_scal (s.data.toList.drop p)
          have hwd := Lib.decodeL_width (s.data.toList.drop p)
          have hwl := Lib.decodeL_le _ hne
          rw [List.length_drop, ← Lib.size_eq] at hwl
          by_cases hbad : (Lib.decodeL (s.data.toList.drop p)).1 = 65533 ∧ (Lib.decodeL (s.data.toList.drop p)).2 = 1
          · rw [if_pos hbad] at HF
            have HX3 := bad3 (by unfold runeL; rw [if_neg h92', if_pos (.inr (.inl hbad))])
            have HF2 : Hid (∀ w, Calls Tryz.prog 53 #[.string (s.extract p s.size)] w fun e w' => e = .returned (.agg #[.int .i64 0, .int .i64 0]) ∧ Below w.heap.size w w') := HF.out
            clear bad3 next HF HCK hdrop hhd hq h34 hbad hwd hwl hrl hne
            generalize str acc = Y at *
            go_wp2_with fail
            refine (HF2.out _).mono ?_
            rintro e w2 ⟨rfl, hb2⟩
            have ZR2 : Hid (Zf w.heap.size w2) := ZR.out.below hb2 hlt
            have BR2 : Hid (Below w.heap.size w w2) := BR.out.trans (hb2.mono hbs)
            have hs2 := hb2.size
            have hne2 : w2.heap.size ≠ w.heap.size := by omega
            have hl2 : w.heap.size < w2.heap.size := by omega
            obtain ⟨⟨c0, c1, c2, c3, c4⟩, ff⟩ := ZR2.out
            clear hb2
            go_wp2
            try simp only [Exit.inBlock, Exit.then]
            refine bodyPost_ret (results_s1 rfl _ _ w.heap.size rfl ((ZR2.out.c.set _ _ _ _ _).alloc _)) rfl ⟨by rw [HX3.out], (set5_below BR2.out _ _ _ _ _).alloc ?_ _⟩
            have := BR2.out.size
            simpa using this
          · rw [if_neg hbad] at HF
            have HRL : Hid (runeL (s.data.toList.drop p) = if (Lib.decodeL (s.data.toList.drop p)).1 < 32 ∨ (Lib.decodeL (s.data.toList.drop p)).1 = 127 then none else some (Lib.decodeL (s.data.toList.drop p))) := by
              show _ = _
              unfold runeL
              rw [if_neg h92']
              by_cases hc : (Lib.decodeL (s.data.toList.drop p)).1 < 32 ∨ (Lib.decodeL (s.data.toList.drop p)).1 = 127
              · rw [if_pos (.inr (.inr hc)), if_pos hc]
              · rw [if_neg (fun h => h.elim hne (fun h => h.elim hbad hc)), if_neg hc]
            have HEN : Hid (enc (Lib.decodeL (s.data.toList.drop p)).1 = (s.data.toList.drop p).take (Lib.decodeL (s.data.toList.drop p)).2) := enc_dec hne hbad
            have hcl : (Lib.decodeL (s.data.toList.drop p)).1 ≤ 1114111 := by unfold scal at hrl; omega
            clear hbad
            generalize Lib.decodeL (s.data.toList.drop p) = dc at *
            obtain ⟨c, d⟩ := dc
            simp only at HF HRL HEN hcl hwd hwl
            have hd1 : 1 ≤ d := by omega
            clear hwd hrl
            have hd0 : ((d : Int) == 0) = false := by rw [beq_eq_false_iff_ne]; omega
            by_cases hc : c < 32 ∨ c = 127
            · have HX3 := bad3 (by rw [HRL.out, if_pos hc])
              have cc : decide ((c : Int) < 32) = true ∨ (decide ((c : Int) < 32) = false ∧ c = 127) := by
                by_cases h : c < 32
                · exact .inl (by simp; omega)
                · exact .inr ⟨by simp; omega, by omega⟩
              clear bad3 next HCK hdrop hhd hq h34 HRL HEN hne hc
              generalize str acc = Y at *
              rcases cc with cc | ⟨cc, rfl⟩
              all_goals
                go_wp2_with fail
                refine (HF.out _).mono ?_
                rintro e w2 ⟨rfl, hb2⟩
                have ZR2 : Hid (Zf w.heap.size w2) := ZR.out.below hb2 hlt
                have BR2 : Hid (Below w.heap.size w w2) := BR.out.trans (hb2.mono hbs)
                have hs2 := hb2.size
                have hne2 : w2.heap.size ≠ w.heap.size := by omega
                have hl2 : w.heap.size < w2.heap.size := by omega
                obtain ⟨⟨c0, c1, c2, c3, c4⟩, ff⟩ := ZR2.out
                clear hb2
                go_wp2
                try simp only [Exit.inBlock, Exit.then]
                refine bodyPost_ret (results_s1 rfl _ _ w.heap.size rfl ((ZR2.out.c.set _ _ _ _ _).alloc _)) rfl ⟨by rw [HX3.out], (set5_below BR2.out _ _ _ _ _).alloc ?_ _⟩
                have := BR2.out.size
                simpa using this
            · have d32 : decide ((c : Int) < 32) = false := by simp; omega
              have d127 : ((c : Int) == 127) = false := by rw [beq_eq_false_iff_ne]; omega
              have HN := next c d (by rw [HRL.out, if_neg hc])
              have HSL : Hid (str acc ++ s.extract p (p + d) = str (acc ++ enc c)) := by
                show _ = _
                rw [← str_app]
                refine congrArg (fun z => str acc ++ z) ?_
                refine ba_eq ?_
                rw [Lib.extract_data, str_data, HEN.out, Nat.add_sub_cancel_left]
              have hz1 : (str acc).size ≤ 1000000 := by rw [str_size]; omega
              have hz2 : (s.extract p (p + d)).size ≤ 1000000 := by rw [ByteArray.size_extract]; omega
              have hpd : (p : Int) + d ≤ s.size := by omega
              have hpd2 : p + d ≤ s.size := by omega
              clear bad3 next HCK hdrop hhd hq h34 HRL HEN hne hc HXX
              generalize str acc = Y at *
              go_wp2_with fail
              refine (HF.out _).mono ?_
              rintro e w2 ⟨rfl, hb2⟩
              have ZR2 : Hid (Zf w.heap.size w2) := ZR.out.below hb2 hlt
              have BR2 : Hid (Below w.heap.size w w2) := BR.out.trans (hb2.mono hbs)
              have hs2 := hb2.size
              clear hb2
              go_wp2
              go_roundw
              case rel =>
                have hA := (Below.refl w2.heap.size w2).alloc (Nat.le_refl _) (.cells #[.int .i64 (c : Int), .int .i64 (d : Int)] 82)
                refine ⟨p + d, acc ++ enc c, by rw [← HSL.out], by go_num, by omega, hpd2, HN.out.2.2.1, ZR2.out.below hA (by omega), BR2.out.trans (hA.mono (by omega)), Nat.lt_of_lt_of_le (by omega) hA.size, HN.out.2.2.2.2⟩
              case measure => simp [RowKit.intOf]; omega
    · have HX3 : Hid (XX = vs 0 0 ⟨#[]⟩ ⟨#[]⟩ 3) := by
        show _ = _
        rw [← HXX.out]
        have := HCK.out
        rw [List.drop_of_length_le (by rw [← Lib.size_eq]; omega), txs_none (by simp) (by unfold runeL; simp)] at this
        unfold scT
        rw [← this]
        rfl
      obtain ⟨⟨c0, c1, c2, c3, c4⟩, ff⟩ := ZR.out
      obtain rfl : p = s.size := by omega
      clear HCK
      generalize str acc = Y at *
      go_wp2
      try simp only [Exit.inBlock, Exit.then]
      exact bodyPost_ret (results_s1 rfl _ _ w.heap.size rfl (ZR.out.c.set _ _ _ _ _)) rfl ⟨by rw [HX3.out], set5_below BR.out _ _ _ _ _⟩
end Go.Proofs.YtdendpckihckeaaGreatDoor
