/- caduceusref04.Parse: its walk. -/
import Derived.Test.YtnmfonpchbjeoaaGreatDoorLD3
import Derived.Deep.DeepCutAuto
import Derived.Deep.RegionWith
namespace Go.Proofs.YtnmfonpchbjeoaaGreatDoor
open Go.RowKit

def RpPost (s : ByteArray) (w : World) (e : Ending) (w' : World) : Prop :=
  ∃ v, e = .returned (.tuple #[v, .int .i64 (rparse s).2]) ∧ IsRow w' 3 v (rparse s).1.length (fCells (rparse s).1) ∧ Below w.heap.size w w'
theorem lit_eq (s : ByteArray) (l : List UInt8) : (s.toList == l) = decide (s.data.toList = l) := by
  rw [ByteArray.toList_eq, Bool.eq_iff_iff]; simp
set_option maxRecDepth 100000 in
set_option maxHeartbeats 8000000 in
theorem refParse_any (s : ByteArray) (w : World) (hs : s.size ≤ 2000) :
    Calls Tryz.prog 23 #[.string s] w fun e w' => RpPost s w e w' := by
  by_cases h45 : s.data.toList = [45]
  · have d1 : (s.toList == [45]) = true := by rw [lit_eq]; exact decide_eq_true h45
    have HE : Hid (rparse s = ([], 0)) := by show _ = _; unfold rparse; rw [if_pos h45]
    clear h45
    go_enter Tryz.func23, Tryz.ntmps23
    go_wp2
    go_ret2
    exact ⟨_, by rw [HE.out]; rfl, by rw [HE.out]; exact IsRow.nil _ _, Below.refl _ _⟩
  have d1 : (s.toList == [45]) = false := by rw [lit_eq]; exact decide_eq_false h45
  have HE : Hid (rparse s = if s.data.toList = [] ∨ showL (flds (pcs s.data.toList)) ≠ s.data.toList then ([], 3) else (flds (pcs s.data.toList), 0)) := by show _ = _; unfold rparse; rw [if_neg h45]
  clear h45
  have HN : Hid (s.data.toList.length = s.size) := by show _ = _; simp
  obtain ⟨i0, hi0, hz0, hz1, hz2⟩ := info_parts info_rf
  go_enter Tryz.func23, Tryz.ntmps23
  go_wp2_with fail
  go_loopw [4, 5, 6] (fun o f n wr => ∃ (i fr : Nat) (D : List (List UInt8)), i ≤ s.size + 1 ∧ fr ≤ i ∧ n = .int .i64 (i : Int) ∧ f = .int .i64 (fr : Int) ∧ wr.ownsRow w.heap.size 64 3 o D.length (fCells (flds D)) ∧ Hid (PInv s.data.toList D fr i) ∧ Below w.heap.size w wr) (fun _ _ n _ => s.size + 1 - (intOf n).toNat)
  case atStart => exact ⟨0, 0, [], by omega, Nat.le_refl _, rfl, rfl, World.ownsRow_nil _ _ _ _, pinv_start _, Below.refl _ _⟩
  case round =>
    obtain ⟨i, fr, D, hi1, hfi, rfl, rfl, hown, HI, hB⟩ := hrel
    obtain ⟨wa, rfl⟩ : ∃ wa, wa = wr := ⟨_, rfl⟩
    have HO : Hid (wa.ownsRow w.heap.size 64 3 u4 D.length (fCells (flds D))) := hown
    have HB : Hid (Below w.heap.size w wa) := hB
    have hsz := hB.size
    clear hown hB
    by_cases hle : i ≤ s.size
    · by_cases hgo : i < s.size ∧ s.data.toList[i]? ≠ some 44
      · obtain ⟨hlt, hc⟩ := hgo
        have HI2 : Hid (PInv s.data.toList D fr (i + 1)) := pinv_go HI.out (by rw [HN.out]; exact hlt) hc
        obtain ⟨c, hc1, hc2⟩ := byte_at s hlt
        have d2 : (((c.toNat : Nat) : Int) != 44) = true := byte_ne (d := 44) (fun e => hc (by rw [hc1, e]))
        clear hc1 hc HI
        generalize c.toNat = x at *
        go_wp2
        go_roundw
        case rel => exact ⟨i + 1, fr, D, by omega, by omega, by simp, rfl, HO.out, HI2, HB.out⟩
        case measure => simp [intOf]; omega
      · have hend : i < s.data.toList.length → s.data.toList[i]? = some 44 := fun h => by
          rcases Classical.em (s.data.toList[i]? = some 44) with q | q
          · exact q
          · exact absurd ⟨by rw [HN.out] at h; exact h, q⟩ hgo
        have HI2 : Hid (PInv s.data.toList (D ++ [(s.data.toList.drop fr).take (i - fr)]) (i + 1) (i + 1)) := pinv_cut HI.out hfi (by rw [HN.out]; exact hle) hend
        have HF := pinv_fld HI.out ((s.data.toList.drop fr).take (i - fr))
        have HDl : Hid (D.length ≤ i) := HI.out.2.2.2
        have HX : Hid ((s.extract fr i).data.toList = (s.data.toList.drop fr).take (i - fr)) := ext_mid s fr i
        rw [← HX.out] at HI2 HF
        have HXs : (s.extract fr i).size ≤ 2000 := by rw [ByteArray.size_extract]; omega
        have HXl : Hid ((s.extract fr i).data.toList.length = (s.extract fr i).size) := sz_list _
        generalize hp : s.extract fr i = p at *
        have g0 : Hid (i < s.size → ∃ x : Nat, ∃ h : i < s.size, (s[i]'h).toNat = x ∧ ((x : Int) != 44) = false) := fun h => by
          obtain ⟨c, c1, c2⟩ := byte_at s h
          have := hend (by rw [HN.out]; exact h)
          rw [c1] at this
          refine ⟨44, h, ?_, rfl⟩
          rw [c2, Option.some.inj this]
          rfl
        clear hgo hend HX HI
        go_upto_region 8 with fail
        go_cut [29] (fun b wx => b = .bool false ∧ wa = wx)
        case first =>
          by_cases hlt : i < s.size
          · obtain ⟨x, _, hx1, hx2⟩ := g0.out hlt
            go_wp2
            go_meet
            exact ⟨by first | rfl | exact congrArg Value.bool (by rw [hx1]; exact hx2), rfl⟩
          · go_wp2
            go_meet
            exact ⟨rfl, rfl⟩
        case rest =>
        obtain ⟨rfl, rfl⟩ := hcut
        obtain ⟨tr, tt, htr, ht1, ht2, htt, hts⟩ := trim_any p fr HXs
        rw [← htt] at HF
        have HT1 : Hid (tr = true → p.extract 1 p.size = tt ∧ 0 < p.size) := ht1
        have HT2 : Hid (tr = false → p = tt) := ht2
        have HTr : Hid (tr = decide (p.data.toList.head? = some 32 ∧ 0 < fr)) := htr
        have HFh : Hid (fCells (flds (D ++ [p.data.toList])) = fCells (flds D) ++ enF (parseF tt.data.toList)) := HF
        clear htt ht1 ht2 htr HF g0
        go_upto_region 10 with fail
        go_cut [45] (fun b wx => b = .bool tr ∧ wa = wx)
        case first =>
          by_cases h0 : 0 < p.size
          · obtain ⟨x, hx, hx2⟩ := head_of p h0
            by_cases h32 : x = 32
            · have e1 : ((x : Int) == 32) = true := by rw [h32]; rfl
              by_cases hf : 0 < fr
              · have e2 : tr = true := by rw [HTr.out]; exact decide_eq_true ⟨hx2.2 h32, hf⟩
                clear hx2 h32
                go_wp2
                go_meet
                exact ⟨by rw [e2], rfl⟩
              · have e2 : tr = false := by rw [HTr.out]; exact decide_eq_false fun h => hf h.2
                clear hx2 h32
                go_wp2
                go_meet
                exact ⟨by rw [e2], rfl⟩
            · have e1 : ((x : Int) == 32) = false := by rw [beq_eq_false_iff_ne]; omega
              have e2 : tr = false := by rw [HTr.out]; exact decide_eq_false fun h => h32 (hx2.1 h.1)
              clear hx2 h32
              go_wp2
              go_meet
              exact ⟨by rw [e2], rfl⟩
          · have e2 : tr = false := by
              rw [HTr.out]
              refine decide_eq_false fun h => h0 ?_
              rw [← sz_list]
              cases hp2 : p.data.toList with
              | nil => rw [hp2] at h; simp at h
              | cons a b => simp
            have e0 : p.size = 0 := by omega
            clear h0
            go_wp2
            go_meet
            exact ⟨by rw [e2], rfl⟩
        case rest =>
        obtain ⟨rfl, rfl⟩ := hcut
        go_upto_if 45 with fail
        go_cut [7] (fun t wx => t = .string tt ∧ wa = wx)
        case first =>
          cases tr with
          | true =>
            obtain ⟨e1, e2⟩ := HT1.out rfl
            have e3 : 1 ≤ p.size := e2
            go_wp2
            go_meet
            exact ⟨by rw [← e1], rfl⟩
          | false =>
            have e1 := HT2.out rfl
            go_wp2
            go_meet
            exact ⟨by first | rfl | rw [e1], rfl⟩
        case rest =>
        obtain ⟨rfl, rfl⟩ := hcut
        clear HT1 HT2 HTr
        cases piece2_any tt with
        | none n nm hf hnm h e =>
          rw [e] at HFh
          have HBl : Hid (∀ j, j < n → ∃ h : j < tt.size, ∃ x : Nat, (tt[j]'h).toNat = x ∧ ((x : Int) != 32) = true) := fun j hj => blank_before tt (by rw [hf]; exact hj)
          clear e hf
          go_wp2_with fail
          go_loopw [9] (fun k wr => ∃ j : Nat, j ≤ n ∧ k = .int .i64 (j : Int) ∧ wa.alloc (.cells #[.string ⟨#[]⟩, .int .i64 0, .bool false] 64) = wr) (fun k _ => n - (intOf k).toNat)
          case atStart => exact ⟨0, by omega, rfl, rfl⟩
          case round =>
            obtain ⟨j, hj, rfl, rfl⟩ := hrel
            by_cases hjn : j < n
            · obtain ⟨hjt, y, hy1, hy2⟩ := HBl.out j hjn
              go_wp2
              go_roundw
              case rel => exact ⟨j + 1, by omega, by simp, trivial⟩
              case measure => simp [intOf]; omega
            obtain rfl : j = n := by omega
            clear hjn hj HBl
            have hjn : ¬ j < tt.size := by omega
            have hjl : j ≤ tt.size := by omega
            clear h
            go_wp2_with fail
            go_loopw [11] (fun k wr => ∃ c : Nat, 1 ≤ c ∧ c ≤ 5 ∧ k = .int .i64 (c : Int) ∧ wr.heap[wa.heap.size]? = some (.cells #[.string nm, .int .i64 (kp (⟨#[]⟩ : ByteArray).data.toList c), .bool false] 64) ∧ Hid (Below wa.heap.size wa wr)) (fun k _ => 5 - (intOf k).toNat)
            case atStart => exact ⟨1, by omega, by omega, rfl, by rw [kp_one]; exact new_at _ _, al_b _ _⟩
            case round =>
              obtain ⟨c, hc1, hc5, rfl, hh, HBq⟩ := hrel
              obtain ⟨y0, y1, y2, f0, f1, f2⟩ := z3 hh
              have hsq := HBq.out.size
              by_cases hlk : c ≤ 4
              · have HWd : Hid (Calls Tryz.prog 45 #[.int .i64 (c : Int)] wr fun e w' => e = .returned (.string (str (wordK c))) ∧ w' = wr) := by have := refWord_any (c : Int) wr; rw [Int.toNat_natCast] at this; exact this
                by_cases hv : (⟨#[]⟩ : ByteArray).data.toList = wordK c
                · exact absurd hv.symm (by unfold wordK; split <;> simp)
                · have HK : Hid (kp (⟨#[]⟩ : ByteArray).data.toList (c + 1) = kp (⟨#[]⟩ : ByteArray).data.toList c) := kp_no hc1 (by omega) hv
                  have e2 : ((str (wordK c)).toList == (⟨#[]⟩ : ByteArray).toList) = false := by rw [beq_eq_false_iff_ne, ByteArray.toList_eq, ByteArray.toList_eq, str_data]; exact fun e => hv e.symm
                  have e3 : ((str (wordK c)).toList == []) = false := by rw [lit_eq, str_data]; exact decide_eq_false (fun e => hv e.symm)
                  generalize str (wordK c) = WW at *
                  have HH := (show Hid _ from hh)
                  clear hv hh y0 y1 y2 f0 f1 f2
                  go_wp2_with fail
                  refine HWd.out.mono ?_
                  rintro e w5 ⟨rfl, hw5⟩
                  subst hw5
                  go_wp2
                  go_roundw
                  case rel => exact ⟨c + 1, by omega, by omega, by simp, by rw [HK.out]; exact HH.out, HBq⟩
                  case measure => simp [intOf]; omega
              obtain rfl : c = 5 := by omega
              rw [kp_five] at y1
              generalize kindW (⟨#[]⟩ : ByteArray).data.toList = kd at *
              have HOq : Hid (wr.ownsRow w.heap.size 64 3 u4 D.length (fCells (flds D))) := own_belowE HO.out HBq.out
              have HBw : Hid (Below w.heap.size w wr) := HB.out.trans (HBq.out.mono hsz)
              have hdl := HDl.out
              clear hh HO hlk hc1 hc5
              go_wp2_with (at_builtin; go_loud (refine wpl_appE wr rfl (.tmp 99) (.tmp 101) 28 64 rfl i0 _ 3 32 Tryz.underlying28 hi0 hz0 hz1 hz2 rfl (by decide) w.heap.size u4 D.length _ rfl HOq.out [.string nm, .int .i64 kd, .bool false] rfl _ rfl rfl (by intro u hu; simp at hu; rcases hu with rfl | rfl | rfl <;> rfl) (by omega) (by unfold maxLen; omega) (by omega) ?_); intro v4 w4 hown4 hb4)
              have HO4 : Hid (w4.ownsRow w.heap.size 64 3 v4 (D ++ [p.data.toList]).length (fCells (flds (D ++ [p.data.toList])))) := by show World.ownsRow _ _ _ _ _ _ _; rw [HFh.out, List.length_append]; exact hown4
              have HB4 : Hid (Below w.heap.size w w4) := HBw.out.trans hb4
              clear hown4 hb4 HFh HOq HBw
              go_wp2
              go_roundw
              case rel => exact ⟨i + 1, i + 1, _, by omega, by omega, by simp, by simp, HO4.out, HI2, HB4.out⟩
              case measure => simp [intOf]; omega
        | bare n nm ww hf hnm hww h hb hz e =>
          rw [e] at HFh
          have HBl : Hid (∀ j, j < n → ∃ h : j < tt.size, ∃ x : Nat, (tt[j]'h).toNat = x ∧ ((x : Int) != 32) = true) := fun j hj => blank_before tt (by rw [hf]; exact hj)
          clear e hf
          have hn1 : n + 1 ≤ tt.size := h
          go_wp2_with fail
          go_loopw [9] (fun k wr => ∃ j : Nat, j ≤ n ∧ k = .int .i64 (j : Int) ∧ wa.alloc (.cells #[.string ⟨#[]⟩, .int .i64 0, .bool false] 64) = wr) (fun k _ => n - (intOf k).toNat)
          case atStart => exact ⟨0, by omega, rfl, rfl⟩
          case round =>
            obtain ⟨j, hj, rfl, rfl⟩ := hrel
            by_cases hjn : j < n
            · obtain ⟨hjt, y, hy1, hy2⟩ := HBl.out j hjn
              go_wp2
              go_roundw
              case rel => exact ⟨j + 1, by omega, by simp, trivial⟩
              case measure => simp [intOf]; omega
            obtain rfl : j = n := by omega
            clear hjn hj HBl
            have hjl : j ≤ tt.size := by omega
            have b32 : ((32 : Int) != 32) = false := rfl
            go_wp2_with fail
            go_loopw [11] (fun k wr => ∃ c : Nat, 1 ≤ c ∧ c ≤ 5 ∧ k = .int .i64 (c : Int) ∧ wr.heap[wa.heap.size]? = some (.cells #[.string nm, .int .i64 (kp ww.data.toList c), .bool false] 64) ∧ Hid (Below wa.heap.size wa wr)) (fun k _ => 5 - (intOf k).toNat)
            case atStart => exact ⟨1, by omega, by omega, rfl, by rw [kp_one]; exact new_at _ _, al_b _ _⟩
            case round =>
              obtain ⟨c, hc1, hc5, rfl, hh, HBq⟩ := hrel
              obtain ⟨y0, y1, y2, f0, f1, f2⟩ := z3 hh
              have hsq := HBq.out.size
              by_cases hlk : c ≤ 4
              · have HWd : Hid (Calls Tryz.prog 45 #[.int .i64 (c : Int)] wr fun e w' => e = .returned (.string (str (wordK c))) ∧ w' = wr) := by have := refWord_any (c : Int) wr; rw [Int.toNat_natCast] at this; exact this
                by_cases hv : ww.data.toList = wordK c
                · have HK : Hid (kp ww.data.toList (c + 1) = (c : Int)) := kp_yes hc1 (by omega) hv
                  have e2 : ((str (wordK c)).toList == ww.toList) = true := by rw [ByteArray.toList_eq, ByteArray.toList_eq, str_data, hv]; exact beq_self_eq_true _
                  have HS : Hid (∀ v, (wr.setCell ⟨wa.heap.size, 1, none⟩ v).heap[wa.heap.size]? = some (.cells #[.string nm, v, .bool false] 64)) := fun v => set_1 hh v
                  generalize str (wordK c) = WW at *
                  clear hv hh
                  go_wp2_with fail
                  refine HWd.out.mono ?_
                  rintro e w5 ⟨rfl, hw5⟩
                  subst hw5
                  go_wp2
                  go_roundw
                  case rel => exact ⟨c + 1, by omega, by omega, by simp, by rw [HK.out]; exact HS.out _, HBq.out.setCell (p := ⟨wa.heap.size, 1, none⟩) (Nat.le_refl _) _⟩
                  case measure => simp [intOf]; omega
                · have HK : Hid (kp ww.data.toList (c + 1) = kp ww.data.toList c) := kp_no hc1 (by omega) hv
                  have e2 : ((str (wordK c)).toList == ww.toList) = false := by rw [beq_eq_false_iff_ne, ByteArray.toList_eq, ByteArray.toList_eq, str_data]; exact fun e => hv e.symm
                  generalize str (wordK c) = WW at *
                  have HH := (show Hid _ from hh)
                  clear hv hh y0 y1 y2 f0 f1 f2
                  go_wp2_with fail
                  refine HWd.out.mono ?_
                  rintro e w5 ⟨rfl, hw5⟩
                  subst hw5
                  go_wp2
                  go_roundw
                  case rel => exact ⟨c + 1, by omega, by omega, by simp, by rw [HK.out]; exact HH.out, HBq⟩
                  case measure => simp [intOf]; omega
              obtain rfl : c = 5 := by omega
              rw [kp_five] at y1
              generalize kindW ww.data.toList = kd at *
              have HOq : Hid (wr.ownsRow w.heap.size 64 3 u4 D.length (fCells (flds D))) := own_belowE HO.out HBq.out
              have HBw : Hid (Below w.heap.size w wr) := HB.out.trans (HBq.out.mono hsz)
              have hdl := HDl.out
              clear hh HO hlk hc1 hc5
              go_wp2_with (at_builtin; go_loud (refine wpl_appE wr rfl (.tmp 99) (.tmp 101) 28 64 rfl i0 _ 3 32 Tryz.underlying28 hi0 hz0 hz1 hz2 rfl (by decide) w.heap.size u4 D.length _ rfl HOq.out [.string nm, .int .i64 kd, .bool false] rfl _ rfl rfl (by intro u hu; simp at hu; rcases hu with rfl | rfl | rfl <;> rfl) (by omega) (by unfold maxLen; omega) (by omega) ?_); intro v4 w4 hown4 hb4)
              have HO4 : Hid (w4.ownsRow w.heap.size 64 3 v4 (D ++ [p.data.toList]).length (fCells (flds (D ++ [p.data.toList])))) := by show World.ownsRow _ _ _ _ _ _ _; rw [HFh.out, List.length_append]; exact hown4
              have HB4 : Hid (Below w.heap.size w w4) := HBw.out.trans hb4
              clear hown4 hb4 HFh HOq HBw
              go_wp2
              go_roundw
              case rel => exact ⟨i + 1, i + 1, _, by omega, by omega, by simp, by simp, HO4.out, HI2, HB4.out⟩
              case measure => simp [intOf]; omega
        | may n nm ww m x hf hnm hww h hb hz hx hn e =>
          rw [e] at HFh
          have HBl : Hid (∀ j, j < n → ∃ h : j < tt.size, ∃ x : Nat, (tt[j]'h).toNat = x ∧ ((x : Int) != 32) = true) := fun j hj => blank_before tt (by rw [hf]; exact hj)
          clear e hf
          have hn1 : n + 1 ≤ tt.size := h
          go_wp2_with fail
          go_loopw [9] (fun k wr => ∃ j : Nat, j ≤ n ∧ k = .int .i64 (j : Int) ∧ wa.alloc (.cells #[.string ⟨#[]⟩, .int .i64 0, .bool false] 64) = wr) (fun k _ => n - (intOf k).toNat)
          case atStart => exact ⟨0, by omega, rfl, rfl⟩
          case round =>
            obtain ⟨j, hj, rfl, rfl⟩ := hrel
            by_cases hjn : j < n
            · obtain ⟨hjt, y, hy1, hy2⟩ := HBl.out j hjn
              go_wp2
              go_roundw
              case rel => exact ⟨j + 1, by omega, by simp, trivial⟩
              case measure => simp [intOf]; omega
            obtain rfl : j = n := by omega
            clear hjn hj HBl
            have hjl : j ≤ tt.size := by omega
            have b32 : ((32 : Int) != 32) = false := rfl
            have zp : 0 < ww.size := by omega
            have zm : m < ww.size := by omega
            have zm2 : m ≤ ww.size := by omega
            have hwl : ww.size ≤ 2000 := by rw [← hww, ByteArray.size_extract]; omega
            have zw : wrap64 ((ww.size : Int) - 1) = (m : Int) := by unfold wrap64; omega
            have hem : m = ww.size - 1 := by omega
            have hx2 : ∀ h : ww.size - 1 < ww.size, (ww[ww.size - 1]'h).toNat = x := fun h => by subst hem; exact hx
            have zk : ww.size - 1 < ww.size := by omega
            clear hem
            clear hx hz
            go_wp2_with fail
            go_loopw [11] (fun k wr => ∃ c : Nat, 1 ≤ c ∧ c ≤ 5 ∧ k = .int .i64 (c : Int) ∧ wr.heap[wa.heap.size]? = some (.cells #[.string nm, .int .i64 (kp ww.data.toList c), .bool false] 64) ∧ Hid (Below wa.heap.size wa wr)) (fun k _ => 5 - (intOf k).toNat)
            case atStart => exact ⟨1, by omega, by omega, rfl, by rw [kp_one]; exact new_at _ _, al_b _ _⟩
            case round =>
              obtain ⟨c, hc1, hc5, rfl, hh, HBq⟩ := hrel
              obtain ⟨y0, y1, y2, f0, f1, f2⟩ := z3 hh
              have hsq := HBq.out.size
              by_cases hlk : c ≤ 4
              · have HWd : Hid (Calls Tryz.prog 45 #[.int .i64 (c : Int)] wr fun e w' => e = .returned (.string (str (wordK c))) ∧ w' = wr) := by have := refWord_any (c : Int) wr; rw [Int.toNat_natCast] at this; exact this
                by_cases hv : ww.data.toList = wordK c
                · have HK : Hid (kp ww.data.toList (c + 1) = (c : Int)) := kp_yes hc1 (by omega) hv
                  have e2 : ((str (wordK c)).toList == ww.toList) = true := by rw [ByteArray.toList_eq, ByteArray.toList_eq, str_data, hv]; exact beq_self_eq_true _
                  have HS : Hid (∀ v, (wr.setCell ⟨wa.heap.size, 1, none⟩ v).heap[wa.heap.size]? = some (.cells #[.string nm, v, .bool false] 64)) := fun v => set_1 hh v
                  generalize str (wordK c) = WW at *
                  clear hv hh
                  go_wp2_with fail
                  refine HWd.out.mono ?_
                  rintro e w5 ⟨rfl, hw5⟩
                  subst hw5
                  go_wp2
                  go_roundw
                  case rel => exact ⟨c + 1, by omega, by omega, by simp, by rw [HK.out]; exact HS.out _, HBq.out.setCell (p := ⟨wa.heap.size, 1, none⟩) (Nat.le_refl _) _⟩
                  case measure => simp [intOf]; omega
                · have HK : Hid (kp ww.data.toList (c + 1) = kp ww.data.toList c) := kp_no hc1 (by omega) hv
                  have e2 : ((str (wordK c)).toList == ww.toList) = false := by rw [beq_eq_false_iff_ne, ByteArray.toList_eq, ByteArray.toList_eq, str_data]; exact fun e => hv e.symm
                  generalize str (wordK c) = WW at *
                  have HH := (show Hid _ from hh)
                  clear hv hh y0 y1 y2 f0 f1 f2
                  go_wp2_with fail
                  refine HWd.out.mono ?_
                  rintro e w5 ⟨rfl, hw5⟩
                  subst hw5
                  go_wp2
                  go_roundw
                  case rel => exact ⟨c + 1, by omega, by omega, by simp, by rw [HK.out]; exact HH.out, HBq⟩
                  case measure => simp [intOf]; omega
              obtain rfl : c = 5 := by omega
              rw [kp_five] at y1
              generalize kindW ww.data.toList = kd at *
              have HOq : Hid (wr.ownsRow w.heap.size 64 3 u4 D.length (fCells (flds D))) := own_belowE HO.out HBq.out
              have HBw : Hid (Below w.heap.size w wr) := HB.out.trans (HBq.out.mono hsz)
              have hdl := HDl.out
              clear hh HO hlk hc1 hc5
              go_wp2_with (at_builtin; go_loud (refine wpl_appE wr rfl (.tmp 99) (.tmp 101) 28 64 rfl i0 _ 3 32 Tryz.underlying28 hi0 hz0 hz1 hz2 rfl (by decide) w.heap.size u4 D.length _ rfl HOq.out [.string nm, .int .i64 kd, .bool false] rfl _ rfl rfl (by intro u hu; simp at hu; rcases hu with rfl | rfl | rfl <;> rfl) (by omega) (by unfold maxLen; omega) (by omega) ?_); intro v4 w4 hown4 hb4)
              have HO4 : Hid (w4.ownsRow w.heap.size 64 3 v4 (D ++ [p.data.toList]).length (fCells (flds (D ++ [p.data.toList])))) := by show World.ownsRow _ _ _ _ _ _ _; rw [HFh.out, List.length_append]; exact hown4
              have HB4 : Hid (Below w.heap.size w w4) := HBw.out.trans hb4
              clear hown4 hb4 HFh HOq HBw
              go_wp2
              go_roundw
              case rel => exact ⟨i + 1, i + 1, _, by omega, by omega, by simp, by simp, HO4.out, HI2, HB4.out⟩
              case measure => simp [intOf]; omega
        | must n nm ww vv m hf hnm hww h hb hz hx hvv e =>
          rw [e] at HFh
          have HBl : Hid (∀ j, j < n → ∃ h : j < tt.size, ∃ x : Nat, (tt[j]'h).toNat = x ∧ ((x : Int) != 32) = true) := fun j hj => blank_before tt (by rw [hf]; exact hj)
          clear e hf
          have hn1 : n + 1 ≤ tt.size := h
          go_wp2_with fail
          go_loopw [9] (fun k wr => ∃ j : Nat, j ≤ n ∧ k = .int .i64 (j : Int) ∧ wa.alloc (.cells #[.string ⟨#[]⟩, .int .i64 0, .bool false] 64) = wr) (fun k _ => n - (intOf k).toNat)
          case atStart => exact ⟨0, by omega, rfl, rfl⟩
          case round =>
            obtain ⟨j, hj, rfl, rfl⟩ := hrel
            by_cases hjn : j < n
            · obtain ⟨hjt, y, hy1, hy2⟩ := HBl.out j hjn
              go_wp2
              go_roundw
              case rel => exact ⟨j + 1, by omega, by simp, trivial⟩
              case measure => simp [intOf]; omega
            obtain rfl : j = n := by omega
            clear hjn hj HBl
            have hjl : j ≤ tt.size := by omega
            have b32 : ((32 : Int) != 32) = false := rfl
            have zp : 0 < ww.size := by omega
            have zm : m < ww.size := by omega
            have zm2 : m ≤ ww.size := by omega
            have hwl : ww.size ≤ 2000 := by rw [← hww, ByteArray.size_extract]; omega
            have zw : wrap64 ((ww.size : Int) - 1) = (m : Int) := by unfold wrap64; omega
            have hem : m = ww.size - 1 := by omega
            have hx2 : ∀ h : ww.size - 1 < ww.size, (ww[ww.size - 1]'h).toNat = 33 := fun h => by subst hem; exact hx
            have hvv2 : ww.extract 0 (ww.size - 1) = vv := by rw [← hem]; exact hvv
            have zk : ww.size - 1 < ww.size := by omega
            clear hem
            clear hx hz
            have b33 : ((33 : Int) == 33) = true := rfl
            go_wp2_with fail
            go_loopw [11] (fun k wr => ∃ c : Nat, 1 ≤ c ∧ c ≤ 5 ∧ k = .int .i64 (c : Int) ∧ wr.heap[wa.heap.size]? = some (.cells #[.string nm, .int .i64 (kp vv.data.toList c), .bool true] 64) ∧ Hid (Below wa.heap.size wa wr)) (fun k _ => 5 - (intOf k).toNat)
            case atStart => exact ⟨1, by omega, by omega, rfl, by rw [kp_one]; exact new_at _ _, al_b _ _⟩
            case round =>
              obtain ⟨c, hc1, hc5, rfl, hh, HBq⟩ := hrel
              obtain ⟨y0, y1, y2, f0, f1, f2⟩ := z3 hh
              have hsq := HBq.out.size
              by_cases hlk : c ≤ 4
              · have HWd : Hid (Calls Tryz.prog 45 #[.int .i64 (c : Int)] wr fun e w' => e = .returned (.string (str (wordK c))) ∧ w' = wr) := by have := refWord_any (c : Int) wr; rw [Int.toNat_natCast] at this; exact this
                by_cases hv : vv.data.toList = wordK c
                · have HK : Hid (kp vv.data.toList (c + 1) = (c : Int)) := kp_yes hc1 (by omega) hv
                  have e2 : ((str (wordK c)).toList == vv.toList) = true := by rw [ByteArray.toList_eq, ByteArray.toList_eq, str_data, hv]; exact beq_self_eq_true _
                  have HS : Hid (∀ v, (wr.setCell ⟨wa.heap.size, 1, none⟩ v).heap[wa.heap.size]? = some (.cells #[.string nm, v, .bool true] 64)) := fun v => set_1 hh v
                  generalize str (wordK c) = WW at *
                  clear hv hh
                  go_wp2_with fail
                  refine HWd.out.mono ?_
                  rintro e w5 ⟨rfl, hw5⟩
                  subst hw5
                  go_wp2
                  go_roundw
                  case rel => exact ⟨c + 1, by omega, by omega, by simp, by rw [HK.out]; exact HS.out _, HBq.out.setCell (p := ⟨wa.heap.size, 1, none⟩) (Nat.le_refl _) _⟩
                  case measure => simp [intOf]; omega
                · have HK : Hid (kp vv.data.toList (c + 1) = kp vv.data.toList c) := kp_no hc1 (by omega) hv
                  have e2 : ((str (wordK c)).toList == vv.toList) = false := by rw [beq_eq_false_iff_ne, ByteArray.toList_eq, ByteArray.toList_eq, str_data]; exact fun e => hv e.symm
                  generalize str (wordK c) = WW at *
                  have HH := (show Hid _ from hh)
                  clear hv hh y0 y1 y2 f0 f1 f2
                  go_wp2_with fail
                  refine HWd.out.mono ?_
                  rintro e w5 ⟨rfl, hw5⟩
                  subst hw5
                  go_wp2
                  go_roundw
                  case rel => exact ⟨c + 1, by omega, by omega, by simp, by rw [HK.out]; exact HH.out, HBq⟩
                  case measure => simp [intOf]; omega
              obtain rfl : c = 5 := by omega
              rw [kp_five] at y1
              generalize kindW vv.data.toList = kd at *
              have HOq : Hid (wr.ownsRow w.heap.size 64 3 u4 D.length (fCells (flds D))) := own_belowE HO.out HBq.out
              have HBw : Hid (Below w.heap.size w wr) := HB.out.trans (HBq.out.mono hsz)
              have hdl := HDl.out
              clear hh HO hlk hc1 hc5
              go_wp2_with (at_builtin; go_loud (refine wpl_appE wr rfl (.tmp 99) (.tmp 101) 28 64 rfl i0 _ 3 32 Tryz.underlying28 hi0 hz0 hz1 hz2 rfl (by decide) w.heap.size u4 D.length _ rfl HOq.out [.string nm, .int .i64 kd, .bool true] rfl _ rfl rfl (by intro u hu; simp at hu; rcases hu with rfl | rfl | rfl <;> rfl) (by omega) (by unfold maxLen; omega) (by omega) ?_); intro v4 w4 hown4 hb4)
              have HO4 : Hid (w4.ownsRow w.heap.size 64 3 v4 (D ++ [p.data.toList]).length (fCells (flds (D ++ [p.data.toList])))) := by show World.ownsRow _ _ _ _ _ _ _; rw [HFh.out, List.length_append]; exact hown4
              have HB4 : Hid (Below w.heap.size w w4) := HBw.out.trans hb4
              clear hown4 hb4 HFh HOq HBw
              go_wp2
              go_roundw
              case rel => exact ⟨i + 1, i + 1, _, by omega, by omega, by simp, by simp, HO4.out, HI2, HB4.out⟩
              case measure => simp [intOf]; omega
    · obtain rfl : i = s.size + 1 := by omega
      have HP : Hid (pcs s.data.toList = D) := by
        have := HI.out
        rw [← HN.out] at this
        exact pinv_end this
      have HE2 : Hid (rparse s = if s.data.toList = [] ∨ showL (flds D) ≠ s.data.toList then ([], 3) else (flds D, 0)) := by show _ = _; rw [← HP.out]; exact HE.out
      have hDl : D.length ≤ s.size + 1 := HI.out.2.2.2
      have HRow : Hid (IsRow wa 3 u4 (flds D).length (fCells (flds D))) := by rw [flds_len]; exact IsRow.own HO.out
      have HSh : Hid (Calls Tryz.prog 25 #[u4] wa fun e w' => e = .returned (.string (str (showL (flds D)))) ∧ Below wa.heap.size wa w') := refShow_any u4 (flds D) wa HRow.out (by rw [flds_len]; omega) (fun x hx => by
        have := flds_n s.data.toList x (by rw [HP.out]; exact hx)
        rw [HN.out] at this
        omega)
      clear HE HP HI HO hDl
      by_cases h0 : s.data.toList = []
      · have d2 : (s.toList == []) = true := by rw [lit_eq]; exact decide_eq_true h0
        have HE3 : Hid (rparse s = ([], 3)) := by show _ = _; rw [HE2.out, if_pos (.inl h0)]
        clear h0 HE2
        go_wp2
        go_ret2
        exact ⟨_, by rw [HE3.out]; rfl, by rw [HE3.out]; exact IsRow.nil _ _, HB.out⟩
      have d2 : (s.toList == []) = false := by rw [lit_eq]; exact decide_eq_false h0
      by_cases hq : showL (flds D) = s.data.toList
      · have d3 : ((str (showL (flds D))).toList == s.toList) = true := by
          rw [ByteArray.toList_eq, ByteArray.toList_eq, str_data, hq]; exact beq_self_eq_true _
        have HE3 : Hid (rparse s = (flds D, 0)) := by show _ = _; rw [HE2.out, if_neg (fun h => h.elim h0 (fun h => h hq))]
        clear h0 HE2 hq
        generalize str (showL (flds D)) = Z at *
        go_wp2_with fail
        refine HSh.out.mono ?_
        rintro e w2 ⟨rfl, hb2⟩
        have HRow2 : Hid (IsRow w2 3 u4 (flds D).length (fCells (flds D))) := HRow.out.below hb2
        have HB2 : Hid (Below w.heap.size w w2) := HB.out.trans (hb2.mono hsz)
        clear hb2
        go_wp2
        go_ret2
        exact ⟨_, by rw [HE3.out]; rfl, by rw [HE3.out]; exact HRow2.out, HB2.out⟩
      · have d3 : ((str (showL (flds D))).toList == s.toList) = false := by
          rw [beq_eq_false_iff_ne, ByteArray.toList_eq, ByteArray.toList_eq, str_data]; exact hq
        have HE3 : Hid (rparse s = ([], 3)) := by show _ = _; rw [HE2.out, if_pos (.inr hq)]
        clear h0 HE2 hq
        generalize str (showL (flds D)) = Z at *
        go_wp2_with fail
        refine HSh.out.mono ?_
        rintro e w2 ⟨rfl, hb2⟩
        have HB2 : Hid (Below w.heap.size w w2) := HB.out.trans (hb2.mono hsz)
        clear hb2
        go_wp2
        go_ret2
        exact ⟨_, by rw [HE3.out]; rfl, by rw [HE3.out]; exact IsRow.nil _ _, HB2.out⟩
end Go.Proofs.YtnmfonpchbjeoaaGreatDoor
