/- The reference's hexes: its walk. -/
import Derived.Test.YtdendpckihckeaaGreatDoorXN
import Derived.Test.YtdendpckihckeaaGreatDoorST
import Derived.Lib.BufferRead
import Derived.Shelf.Abstract
namespace Go.Proofs.YtdendpckihckeaaGreatDoor
open Go.RowKit

/-- The bytes read so far stand as a row of our own. -/
def ucells (l : List UInt8) : List Value := Lib.byteCells l
theorem Five.drew {b : Nat} {W : World} {x y z u v : Value} (h : Five b W x y z u v) : Five b W.drew x y z u v := ⟨h.c0, h.c1, h.c2, h.c3, h.c4⟩
theorem byteCells_get (l : List UInt8) (j : Nat) (h : j < l.length) : (Lib.byteCells l)[j]? = some (.int .u8 ((l.getD j 0).toNat : Int)) := by
  unfold Lib.byteCells
  rw [List.getElem?_map, List.getD_eq_getElem?_getD, List.getElem?_eq_getElem h]
  rfl
/-- A row of bytes of our own, as a text. -/
theorem conv_own {w : World} {base : Nat} {v : Value} {acc : List UInt8} (h : w.ownsRow base 5 1 v acc.length (Lib.byteCells acc)) : (convert 85 9 v).run Tryz.prog w = .ok (.string (str acc)) w := by
  by_cases h0 : acc.length = 0
  · obtain rfl : acc = [] := List.eq_nil_of_length_eq_zero h0
    rcases h.2 with ⟨hv, _⟩ | ⟨g, cap, cur, hv, _⟩
    · rw [hv]
      exact Lib.run_convert_nil_bytes w 85 9 5 0 Tryz.underlying85 Tryz.underlying5 Tryz.underlying9
    · rw [hv]
      exact run_convert_bytes_arg (P := Tryz.prog) w 85 5 Tryz.underlying85 Tryz.underlying5 g 0 0 cap [] rfl (fun i hi => absurd hi (by omega)) 9 Tryz.underlying9
  · obtain ⟨g, cap, rfl, -, -, -, -, hc, -⟩ := own_open h (by omega)
    have := run_convert_bytes_arg (P := Tryz.prog) w 85 5 Tryz.underlying85 Tryz.underlying5 g 0 acc.length cap (acc.map fun b => (b.toNat : Int)) (by simp) (fun i hi => by
      rw [Nat.zero_add, hc i _ (byteCells_get acc i hi), List.getD_eq_getElem?_getD, List.getD_eq_getElem?_getD, List.getElem?_map, List.getElem?_eq_getElem hi]
      rfl) 9 Tryz.underlying9
    rw [this, nums_str]
/-- What holds of hexes' loop at every round. -/
def HxRel (s : ByteArray) (w : World) (t i : Value) (wr : World) : Prop :=
  ∃ (p : Nat) (acc : List UInt8), i = .int .i64 (p : Int) ∧ 2 ≤ p ∧ p ≤ s.size ∧ wr.ownsRow (w.heap.size + 1) 5 1 t acc.length (Lib.byteCells acc) ∧ acc.length ≤ p ∧ Zf w.heap.size wr ∧ Below w.heap.size w wr ∧ w.heap.size < wr.heap.size ∧ (hxs (s.data.toList.drop p)).map (fun q => (acc ++ q.1, q.2)) = hxs (s.data.toList.drop 2)
theorem digit_in : ∀ args w, (callFunc 67 args).run Tryz.prog w = .ok (.enter 67 args) w := enters_of Tryz.func67 (by kernel_rfl) rfl
set_option maxRecDepth 100000 in
set_option maxHeartbeats 4000000 in
theorem refHexes_any (s : ByteArray) (w : World) (hs : s.size ≤ 1000000) (h2 : 2 ≤ s.size) :
    Calls Tryz.prog 34 #[.string s] w fun e w' => e = .returned (scS (scX (s.data.toList.drop 2))) ∧ Below w.heap.size w w' := by
  obtain ⟨i0, hi0, hz0, hz1, hz2⟩ := info_parts info_u8
  have Z0 : Hid (Zf w.heap.size (wf w)) := Zf.new w
  go_enter Tryz.func34, Tryz.ntmps34
  go_wp2_with fail
  go_loopw [3, 4] (fun t i wr => HxRel s w t i wr) (fun _ i _ => s.size - (RowKit.intOf i).toNat)
  case atStart =>
    refine ⟨2, [], rfl, Nat.le_refl _, h2, World.ownsRow_nil _ _ _ _, Nat.zero_le _, Z0.out, wf_below w, by simp, ?_⟩
    cases hxs (s.data.toList.drop 2) <;> rfl
  case round =>
    obtain ⟨p, acc, rfl, hp2, hps, hown, hal, hZ, hB, hlt, hck⟩ := hrel
    have ZR : Hid (Zf w.heap.size wr) := hZ
    have BR : Hid (Below w.heap.size w wr) := hB
    have HCK : Hid ((hxs (s.data.toList.drop p)).map (fun q => (acc ++ q.1, q.2)) = hxs (s.data.toList.drop 2)) := hck
    clear hZ hB hck Z0
    obtain ⟨⟨c0, c1, c2, c3, c4⟩, ff⟩ := ZR.out
    by_cases hlp : p < s.size
    · have hpl : p < s.data.toList.length := by rw [← Lib.size_eq]; exact hlp
      have hgp := gN_of s p hlp
      have hgl : gN s p = ((s.data.toList)[p]'hpl).toNat := by rw [gN_list s p hlp, List.getD_eq_getElem?_getD, List.getElem?_eq_getElem hpl]; rfl
      have hdrop : s.data.toList.drop p = (s.data.toList)[p]'hpl :: s.data.toList.drop (p + 1) := List.drop_eq_getElem_cons hpl
      generalize (s.data.toList)[p]'hpl = a at *
      rw [hgl] at hgp
      clear hgl
      have ha := UInt8.toNat_lt a
      have hi : (p : Int) < s.size := by omega
      by_cases h39 : a = 39
      · subst h39
        have hX : hxs (s.data.toList.drop 2) = some (acc, s.data.toList.drop (p + 1)) := by
          rw [← HCK.out, hdrop]
          cases e : s.data.toList.drop (p + 1) with
          | nil => simp [hxs]
          | cons b t => simp [hxs]
        have hE2 : scX (s.data.toList.drop 2) = if 200 < acc.length then .bad 2 else ⟨4, 0, acc, s.data.toList.drop (p + 1), 0⟩ := by
          unfold scX
          rw [hX]
        have HR : Hid (s.extract (p + 1) s.size = str (s.data.toList.drop (p + 1))) := ext_from s (p + 1)
        have hp1 : (p : Int) + 1 ≤ s.size := by omega
        have hfo : ∃ ao cap, u3 = .slice ao acc.length cap := by
          rcases hown.2 with ⟨hv, h0⟩ | ⟨g, cap, cur, hv, _⟩
          · exact ⟨none, 0, by rw [h0]; exact hv⟩
          · exact ⟨_, _, hv⟩
        have hcv := conv_own hown.drew
        obtain ⟨ao, cap, rfl⟩ := hfo
        clear hown hdrop hX HCK
        by_cases h200 : 200 < acc.length
        · have HX3 : Hid (scX (s.data.toList.drop 2) = .bad 2) := hE2.trans (if_pos h200)
          have d200 : decide ((200 : Int) < acc.length) = true := by simp; omega
          clear hE2 hcv
          go_wp2
          try simp only [Exit.inBlock, Exit.then]
          exact bodyPost_ret (results_s1 rfl _ _ w.heap.size rfl (ZR.out.c.set _ _ _ _ _)) rfl ⟨by rw [HX3.out]; rfl, set5_below BR.out _ _ _ _ _⟩
        · have HX3 : Hid (scX (s.data.toList.drop 2) = ⟨4, 0, acc, s.data.toList.drop (p + 1), 0⟩) := hE2.trans (if_neg h200)
          have d200 : decide ((200 : Int) < acc.length) = false := by simp; omega
          clear hE2
          go_wp2
          go_region
          all_goals go_wp2
          all_goals (try simp only [Exit.inBlock, Exit.then])
          all_goals exact bodyPost_ret (results_s1 rfl _ _ w.heap.size rfl ((ZR.out.c.set _ _ _ _ _).drew)) rfl ⟨by rw [HX3.out, scS, ← HR.out], (set5_below BR.out _ _ _ _ _).drew⟩
      · have n39 : ((a.toNat : Int) != 39) = true := by
          rw [bne_iff_ne]
          intro e
          exact h39 (UInt8.toNat_inj.1 (by show _ = 39; omega))
        have bad3 : hxs (s.data.toList.drop p) = none → Hid (scX (s.data.toList.drop 2) = .bad 3) := fun h => by
          show _ = _
          have := HCK.out
          rw [h] at this
          unfold scX
          rw [← this]
          rfl
        by_cases hl1 : p + 1 < s.size
        · have hpl1 : p + 1 < s.data.toList.length := by rw [← Lib.size_eq]; exact hl1
          have hgp1 := gN_of s (p + 1) hl1
          have hgl1 : gN s (p + 1) = ((s.data.toList)[p + 1]'hpl1).toNat := by rw [gN_list s (p + 1) hl1, List.getD_eq_getElem?_getD, List.getElem?_eq_getElem hpl1]; rfl
          rw [List.drop_eq_getElem_cons hpl1] at hdrop
          generalize (s.data.toList)[p + 1]'hpl1 = b at *
          rw [hgl1] at hgp1
          clear hgl1
          have hb := UInt8.toNat_lt b
          have hi1 : (p : Int) + 1 < s.size := by omega
          have dl : decide ((s.size : Int) ≤ (p : Int) + 1) = false := by simp; omega
          have HD : Hid (s.data.toList.drop p = a :: b :: s.data.toList.drop (p + 2)) := hdrop
          clear hdrop
          cases hxa : hxd a with
          | none =>
            have HX3 := bad3 (by rw [HD.out]; unfold hxs; rw [if_neg h39, hxa])
            have va := hxI_none hxa
            clear bad3 HD hown HCK hxa h39
            go_wp2_with (go_at_call 67; refine (refDigit_any _ _ _ rfl (UInt8.toNat_lt _)).mono ?_; rintro e w' ⟨rfl, rfl⟩)
            all_goals (try simp only [Exit.inBlock, Exit.then])
            all_goals exact bodyPost_ret (results_s1 rfl _ _ w.heap.size rfl (ZR.out.c.set _ _ _ _ _)) rfl ⟨by rw [HX3.out]; rfl, set5_below BR.out _ _ _ _ _⟩
          | some x =>
            have hx16 := hxd_lt hxa
            have va := hxI_some hxa
            cases hxb : hxd b with
            | none =>
              have HX3 := bad3 (by rw [HD.out]; unfold hxs; rw [if_neg h39, hxa, hxb])
              have vb := hxI_none hxb
              clear bad3 HD hown HCK hxa hxb h39
              go_wp2_with (go_at_call 67; refine (refDigit_any _ _ _ rfl (UInt8.toNat_lt _)).mono ?_; rintro e w' ⟨rfl, rfl⟩)
              all_goals (try simp only [Exit.inBlock, Exit.then])
              all_goals exact bodyPost_ret (results_s1 rfl _ _ w.heap.size rfl (ZR.out.c.set _ _ _ _ _)) rfl ⟨by rw [HX3.out]; rfl, set5_below BR.out _ _ _ _ _⟩
            | some y =>
              have hy16 := hxd_lt hxb
              have vb := hxI_some hxb
              have HX2 : Hid ((hxs (s.data.toList.drop (p + 2))).map (fun q => ((acc ++ [UInt8.ofNat (16 * x + y)]) ++ q.1, q.2)) = hxs (s.data.toList.drop 2)) := by
                show _ = _
                rw [← HCK.out, HD.out]
                conv => rhs; unfold hxs
                rw [if_neg h39, hxa, hxb]
                cases hxs (s.data.toList.drop (p + 2)) <;> simp
              have HO : Hid (wr.ownsRow (w.heap.size + 1) 5 1 u3 acc.length (Lib.byteCells acc)) := hown
              have hvR : u3.ownBlock ≠ some w.heap.size := fun e => by have := (hown.lt _ e).1; omega
              have hall : acc.length ≤ 1000000 := by omega
              clear bad3 HD hown HCK hxa hxb h39
              have h1c : ∀ u ∈ [Value.int .u8 (16 * (x : Int) + y)], u.oneCell' = true := by intro u hu; simp at hu; subst hu; rfl
              have hb1 : (acc.length + 1) * 1 ≤ 140737488355328 := by omega
              have hb2 : acc.length + 1 ≤ maxLen := by unfold maxLen; omega
              have hb3 : w.heap.size + 1 ≤ wr.heap.size := by omega
              have HA : Hid (∀ w, Calls Tryz.prog 67 #[.int .u8 (a.toNat : Int)] w fun e w' => e = .returned (.int .i64 (x : Int)) ∧ w' = w) := fun w => by rw [← va]; exact refDigit_any _ _ w rfl ha
              have HBd : Hid (∀ w, Calls Tryz.prog 67 #[.int .u8 (b.toNat : Int)] w fun e w' => e = .returned (.int .i64 (y : Int)) ∧ w' = w) := fun w => by rw [← vb]; exact refDigit_any _ _ w rfl hb
              have HNN : Hid (2 ≤ p ∧ acc.length ≤ p ∧ w.heap.size < wr.heap.size) := ⟨hp2, hal, hlt⟩
              have HCE : Hid (Lib.byteCells acc ++ [Value.int .u8 (16 * (x : Int) + y)] = Lib.byteCells (acc ++ [UInt8.ofNat (16 * x + y)])) := by
                show _ = _
                rw [Lib.byteCells_append]
                show _ = _ ++ [Value.int .u8 ((UInt8.ofNat (16 * x + y)).toNat : Int)]
                rw [toNat_of (by omega)]
                push_cast
                rfl
              have q1 : IntKind.i64.wrap ((p : Int) + 1) = (p : Int) + 1 := by rw [IntKind.wrap_i64]; omega
              have q2 : IntKind.i64.wrap (16 * (x : Int)) = 16 * (x : Int) := by rw [IntKind.wrap_i64]; omega
              have q3 : IntKind.i64.wrap (16 * (x : Int) + y) = 16 * (x : Int) + y := by rw [IntKind.wrap_i64]; omega
              have q4 : IntKind.u8.wrap (16 * (x : Int) + y) = 16 * (x : Int) + y := by rw [IntKind.wrap_u8]; omega
              go_wp2_with (go_at_call 67; refine (refDigit_any _ _ _ rfl (UInt8.toNat_lt _)).mono ?_; rintro e w' ⟨rfl, rfl⟩)
              clear c0 c1 c2 c3 c4 ff n39 dl h2 hal hall hlt hvR hp2
              go_region_law (first | (refine step_fn rfl 67 (.tmp 39) 5 rfl digit_in (.int .u8 (a.toNat : Int)) (.int .i64 (x : Int)) rfl HA.out ?_) | (refine step_fn rfl 67 (.tmp 45) 5 rfl digit_in (.int .u8 (b.toNat : Int)) (.int .i64 (y : Int)) rfl HBd.out ?_) | (refine step_appd rfl (.tmp 36) (.tmp 49) 85 5 rfl i0 _ 1 1 Tryz.underlying85 hi0 hz0 hz1 hz2 rfl (by decide) (w.heap.size + 1) u3 acc.length (Lib.byteCells acc) rfl HO.out [.int .u8 (16 * (x : Int) + y)] rfl _ rfl rfl h1c hb1 hb2 hb3 ?_; intro v3 w3 hown3 hbw3 hst3 hform; obtain ⟨g3, c3, rfl⟩ := hform))
              all_goals go_wp2
              all_goals
                go_roundw
                case rel =>
                  obtain ⟨e1, e2, e3⟩ := HNN.out
                  refine ⟨p + 2, acc ++ [UInt8.ofNat (16 * x + y)], by go_num, by omega, by omega, ?_, by simp; omega, ZR.out.below hbw3 (by omega), BR.out.trans (hbw3.mono (by omega)), Nat.lt_of_lt_of_le e3 hbw3.size, HX2.out⟩
                  rw [← HCE.out, List.length_append]
                  exact hown3
                case measure => simp [RowKit.intOf]; omega
        · have dl : decide ((s.size : Int) ≤ (p : Int) + 1) = true := by simp; omega
          have HX3 := bad3 (by
            rw [hdrop, List.drop_of_length_le (by rw [← Lib.size_eq]; omega)]
            simp [hxs, h39])
          clear bad3 hown HCK hdrop
          go_wp2
          try simp only [Exit.inBlock, Exit.then]
          exact bodyPost_ret (results_s1 rfl _ _ w.heap.size rfl (ZR.out.c.set _ _ _ _ _)) rfl ⟨by rw [HX3.out]; rfl, set5_below BR.out _ _ _ _ _⟩
    · have HX3 : Hid (scX (s.data.toList.drop 2) = .bad 3) := by
        show _ = _
        have := HCK.out
        rw [List.drop_of_length_le (by rw [← Lib.size_eq]; omega)] at this
        unfold scX
        rw [← this]
        rfl
      have dl : decide ((s.size : Int) ≤ p) = true := by simp; omega
      clear hown HCK
      go_wp2
      try simp only [Exit.inBlock, Exit.then]
      exact bodyPost_ret (results_s1 rfl _ _ w.heap.size rfl (ZR.out.c.set _ _ _ _ _)) rfl ⟨by rw [HX3.out]; rfl, set5_below BR.out _ _ _ _ _⟩
end Go.Proofs.YtdendpckihckeaaGreatDoor
