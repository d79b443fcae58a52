/- The reference's Compare and Under: walks. -/
import Derived.Test.YtbekpemidpngaaaGreatDoorZk27
import Derived.Test.YtbekpemidpngaaaGreatDoorZk3
import Derived.Test.YtbekpemidpngaaaGreatDoorZk26
namespace Go.Proofs.YtbekpemidpngaaaGreatDoor
open Go.RowKit

def nums (l : List UInt8) : List Nat := l.map (·.toNat)
theorem cmp_nums : ∀ (a b : List UInt8), cmpR (nums a) (nums b) = Lib.compareBytes a b
  | [], [] => rfl
  | [], b :: l => rfl
  | a :: k, [] => rfl
  | a :: k, b :: l => by
    have ih := cmp_nums k l
    unfold nums at ih ⊢
    simp only [List.map_cons, cmpR, Lib.compareBytes, ih, UInt8.lt_iff_toNat_lt]
theorem cmpR_nil_left (m : List Nat) (h : 0 < m.length) : cmpR [] m = -1 := by
  cases m with
  | nil => simp at h
  | cons => rfl
theorem cmpR_nil_right (m : List Nat) (h : 0 < m.length) : cmpR m [] = 1 := by
  cases m with
  | nil => simp at h
  | cons => rfl
theorem nums_take (s : ByteArray) (k : Nat) (h : k < s.size) : icells (nums (s.data.toList.take k)) ++ [Value.int .i64 ((s[k].toNat : Nat) : Int)] = icells (nums (s.data.toList.take (k + 1))) := by
  rw [take_byte s k h]
  simp [icells, nums]
theorem row_read {w : World} {a : Option Addr} {cap : Nat} {l : List Nat} (h : IsRow w 1 (.slice a l.length cap) l.length (icells l)) (i : Nat) (hi : i < l.length) :
    ∃ b off, a = some ⟨b, off, none⟩ ∧ b < w.heap.size ∧ w.cell? ⟨b, off + i, none⟩ = some (.int .i64 ((l[i]'hi : Nat) : Int)) := by
  obtain ⟨b, off, cap', hv, hlt, hc⟩ := ints_row h i hi
  simp only [Value.slice.injEq] at hv
  exact ⟨b, off, hv.1, hlt, hc⟩

theorem conv_u8 (b : UInt8) : IntKind.i64.wrap (b.toNat : Int) = ((b.toNat : Nat) : Int) := by
  have := b.toNat_lt
  rw [IntKind.wrap_i64]
  omega
theorem nums_all (s : ByteArray) : (nums s.data.toList).length = s.size := by
  unfold nums
  rw [List.length_map, Array.length_toList]
  rfl
set_option maxRecDepth 100000 in
set_option maxHeartbeats 4000000 in
theorem refCompare_valid (a b : ByteArray) (w : World) (ha : a.size ≤ 200000) (hb : b.size ≤ 200000) (va : Lib.validD a.data.toList = true) (vb : Lib.validD b.data.toList = true) :
    Calls Tryz.prog 59 #[.string a, .string b] w fun e w' => e = .returned (.int .i64 (cmpL a.data.toList b.data.toList)) ∧ Below w.heap.size w w' := by
  have hza := fold_size a
  have hzb := fold_size b
  have HV1 : Lib.validD (str (foldL a.data.toList)).data.toList = true := by rw [str_data, foldL_valid]; exact va
  have HV2 : Lib.validD (str (foldL b.data.toList)).data.toList = true := by rw [str_data, foldL_valid]; exact vb
  have hl1 := rns_le (str (foldL a.data.toList))
  have hl2 := rns_le (str (foldL b.data.toList))
  have HC : Hid (cmpR (rns (str (foldL a.data.toList)).data.toList) (rns (str (foldL b.data.toList)).data.toList) = cmpL a.data.toList b.data.toList) := by
    show _ = _
    rw [str_data, str_data, foldL_rns va, foldL_rns vb]
    exact cmpL_runes va vb
  have HFa : Hid (∀ w, Calls Tryz.prog 90 #[.string a] w fun e w' => e = .returned (.string (str (foldL a.data.toList))) ∧ Below w.heap.size w w') := fun w => refFold_any a w (by omega)
  have HFb : Hid (∀ w, Calls Tryz.prog 90 #[.string b] w fun e w' => e = .returned (.string (str (foldL b.data.toList))) ∧ Below w.heap.size w w') := fun w => refFold_any b w (by omega)
  generalize cmpL a.data.toList b.data.toList = C at *
  generalize str (foldL a.data.toList) = x at *
  generalize str (foldL b.data.toList) = y at *
  go_enter Tryz.func59, Tryz.ntmps59
  go_wp2_with fail
  refine (HFa.out _).mono ?_
  rintro e w1 ⟨rfl, hb1⟩
  go_wp2_with fail
  refine (HFb.out _).mono ?_
  rintro e w2 ⟨rfl, hb2'⟩
  have hb2 := hb1.trans (hb2'.mono hb1.size)
  clear hb1 hb2'
  go_wp2_with fail
  refine (refValid_any x _ (by omega)).mono ?_
  rintro e w3 ⟨rfl, hb3'⟩
  rw [HV1]
  have hb3 := hb2.trans (hb3'.mono hb2.size)
  clear hb2 hb3'
  go_wp2_with fail
  refine (refValid_any y _ (by omega)).mono ?_
  rintro e w4 ⟨rfl, hb4'⟩
  rw [HV2]
  have hb4 := hb3.trans (hb4'.mono hb3.size)
  clear hb3 hb4'
  go_wp2_with fail
  refine (refRunes_any x _ (by omega) HV1).mono ?_
  rintro e w5 ⟨v5, rfl, hv5, hb5'⟩
  have hb5 := hb4.trans (hb5'.mono hb4.size)
  clear hb4 hb5'
  go_wp2_with fail
  refine (refRunes_any y _ (by omega) HV2).mono ?_
  rintro e w6 ⟨v6, rfl, hv6, hb6'⟩
  have hb6 := hb5.trans (hb6'.mono hb5.size)
  have hv5' := hv5.below hb6'
  clear hb5 hb6' hv5 HFa HFb HV1 HV2
  generalize rns x.data.toList = l at *
  generalize rns y.data.toList = m at *
  obtain ⟨a1, cap1, rfl⟩ := hv5'.form
  obtain ⟨a2, cap2, rfl⟩ := hv6.form
  have h1 : Hid (IsRow w6 1 (.slice a1 l.length cap1) l.length (icells l)) := hv5'
  have h2 : Hid (IsRow w6 1 (.slice a2 m.length cap2) m.length (icells m)) := hv6
  clear hv5' hv6
  have hs6 := hb6.size
  go_wp2_with fail
  go_loopw [11] (fun i wr => ∃ k : Nat, k ≤ l.length ∧ k ≤ m.length ∧ i = .int .i64 k ∧ Hid (cmpR (l.drop k) (m.drop k) = C) ∧ Below w6.heap.size w6 wr) (fun i _ => l.length - (RowKit.intOf i).toNat)
  case atStart => exact ⟨0, Nat.zero_le _, Nat.zero_le _, rfl, HC, Below.refl _ _⟩
  case round =>
    obtain ⟨k, hk1, hk2, rfl, hck, hbk⟩ := hrel
    by_cases hlt1 : k < l.length
    · have hd1 : decide ((k : Int) < l.length) = true := by simp; omega
      by_cases hlt2 : k < m.length
      · have hd2 : decide ((k : Int) < m.length) = true := by simp; omega
        obtain ⟨b1, off1, rfl, hbl1, c1⟩ := row_read (h1.out.below hbk) k hlt1
        obtain ⟨b2, off2, rfl, hbl2, c2⟩ := row_read (h2.out.below hbk) k hlt2
        have hi1 : (k : Int) < l.length := by omega
        have hi2 : (k : Int) < m.length := by omega
        have HK : Hid (cmpR (l[k] :: l.drop (k + 1)) (m[k] :: m.drop (k + 1)) = C) := by show _ = _; rw [← drop_at hlt1, ← drop_at hlt2]; exact hck.out
        clear hck
        by_cases hc1 : l[k] < m[k]
        · have hc1' : decide ((l[k] : Int) < (m[k] : Int)) = true := by simp; omega
          have HR : Hid (-1 = C) := by show _ = _; rw [← HK.out, cmpR, if_pos hc1]
          clear HK
          go_wp2
          go_region
          all_goals go_wp2
          all_goals go_ret
          all_goals exact ⟨by rw [← HR.out]; rfl, hb6.trans ((hbk.drew).mono hs6)⟩
        · have hc1' : decide ((l[k] : Int) < (m[k] : Int)) = false := by simp; omega
          by_cases hc2 : m[k] < l[k]
          · have hc2' : decide ((m[k] : Int) < (l[k] : Int)) = true := by simp; omega
            have HR : Hid (1 = C) := by show _ = _; rw [← HK.out, cmpR, if_neg hc1, if_pos hc2]
            clear HK
            go_wp2
            go_region
            all_goals go_wp2
            all_goals go_region
            all_goals go_wp2
            all_goals go_ret
            all_goals exact ⟨by rw [← HR.out]; rfl, hb6.trans ((hbk.drew.drew).mono hs6)⟩
          · have hc2' : decide ((m[k] : Int) < (l[k] : Int)) = false := by simp; omega
            have HR : Hid (cmpR (l.drop (k + 1)) (m.drop (k + 1)) = C) := by show _ = _; rw [← HK.out, cmpR, if_neg hc1, if_neg hc2]
            clear HK
            go_wp2
            go_region
            all_goals go_wp2
            all_goals go_region
            all_goals go_wp2
            all_goals go_roundw
            case rel => exact ⟨k + 1, hlt1, hlt2, by go_num, HR, hbk.drew.drew⟩
            case measure => simp [RowKit.intOf]; omega
      · have hd2 : decide ((k : Int) < m.length) = false := by simp; omega
        have hk' : k = m.length := by omega
        have hm1 : ¬ (l.length : Int) < m.length := by omega
        have hm2 : (m.length : Int) < l.length := by omega
        have HR : Hid (1 = C) := by
          show _ = _
          rw [← hck.out, List.drop_of_length_le (l := m) (by omega), cmpR_nil_right _ (by rw [List.length_drop]; omega)]
        clear hck
        go_wp2
        go_ret
        exact ⟨by rw [← HR.out]; rfl, hb6.trans (hbk.mono hs6)⟩
    · have hd1 : decide ((k : Int) < l.length) = false := by simp; omega
      have hk' : k = l.length := by omega
      by_cases hlt2 : k < m.length
      · have hm1 : (l.length : Int) < m.length := by omega
        have HR : Hid (-1 = C) := by
          show _ = _
          rw [← hck.out, List.drop_of_length_le (l := l) (by omega), cmpR_nil_left _ (by rw [List.length_drop]; omega)]
        clear hck
        go_wp2
        go_ret
        exact ⟨by rw [← HR.out]; rfl, hb6.trans (hbk.mono hs6)⟩
      · have hm1 : ¬ (l.length : Int) < m.length := by omega
        have hm2 : ¬ (m.length : Int) < l.length := by omega
        have HR : Hid (0 = C) := by
          show _ = _
          rw [← hck.out, List.drop_of_length_le (l := l) (by omega), List.drop_of_length_le (l := m) (by omega)]
          rfl
        clear hck
        go_wp2
        go_ret
        exact ⟨by rw [← HR.out]; rfl, hb6.trans (hbk.mono hs6)⟩
end Go.Proofs.YtbekpemidpngaaaGreatDoor
/- The reference's Compare where one text is not UTF-8: its walk. -/
namespace Go.Proofs.YtbekpemidpngaaaGreatDoor
open Go.RowKit

set_option maxRecDepth 100000 in
set_option maxHeartbeats 4000000 in
theorem refCompare_a (a b : ByteArray) (w : World) (ha : a.size ≤ 200000) (hb : b.size ≤ 200000) (va : Lib.validD a.data.toList = false) :
    Calls Tryz.prog 59 #[.string a, .string b] w fun e w' => e = .returned (.int .i64 (cmpL a.data.toList b.data.toList)) ∧ Below w.heap.size w w' := by
  have hza := fold_size a
  have hzb := fold_size b
  have HV1 : Lib.validD (str (foldL a.data.toList)).data.toList = false := by rw [str_data, foldL_valid]; exact va
  have HC : Hid (cmpR (nums (str (foldL a.data.toList)).data.toList) (nums (str (foldL b.data.toList)).data.toList) = cmpL a.data.toList b.data.toList) := by
    show _ = _
    rw [str_data, str_data, cmp_nums]
    rfl
  have HFa : Hid (∀ w, Calls Tryz.prog 90 #[.string a] w fun e w' => e = .returned (.string (str (foldL a.data.toList))) ∧ Below w.heap.size w w') := fun w => refFold_any a w (by omega)
  have HFb : Hid (∀ w, Calls Tryz.prog 90 #[.string b] w fun e w' => e = .returned (.string (str (foldL b.data.toList))) ∧ Below w.heap.size w w') := fun w => refFold_any b w (by omega)
  generalize cmpL a.data.toList b.data.toList = C at *
  generalize str (foldL a.data.toList) = x at *
  generalize str (foldL b.data.toList) = y at *
  go_enter Tryz.func59, Tryz.ntmps59
  go_wp2_with fail
  refine (HFa.out _).mono ?_
  rintro e w1 ⟨rfl, hb1⟩
  go_wp2_with fail
  refine (HFb.out _).mono ?_
  rintro e w2 ⟨rfl, hb2'⟩
  have hb2 := hb1.trans (hb2'.mono hb1.size)
  clear hb1 hb2' HFa HFb
  go_wp2_with fail
  refine (refValid_any x _ (by omega)).mono ?_
  rintro e w4 ⟨rfl, hb4'⟩
  rw [HV1]
  have hb4 := hb2.trans (hb4'.mono hb2.size)
  clear hb2 hb4' HV1
  obtain ⟨i0, hi0, hz0, hz1, hz2⟩ := info_parts info_int
  have hs4 := hb4.size
  go_wp2_with fail
  go_loopw [7, 9] (fun t i wr => ∃ k : Nat, k ≤ x.size ∧ i = .int .i64 k ∧ wr.ownsRow w4.heap.size 3 1 t k (icells (nums (x.data.toList.take k))) ∧ Below w4.heap.size w4 wr) (fun _ i _ => x.size - (RowKit.intOf i).toNat)
  case atStart => exact ⟨0, Nat.zero_le _, rfl, World.ownsRow_nil _ _ _ _, Below.refl _ _⟩
  case round =>
    obtain ⟨k, hk, rfl, ho, hbk⟩ := hrel
    have hbks := hbk.size
    by_cases hlt : k < x.size
    · have hi : (k : Int) < x.size := by omega
      have HX : Hid _ := nums_take x k hlt
      have h8 := x[k].toNat_lt
      have hcv := conv_u8 x[k]
      go_wp2_with (at_builtin; refine wpl_apps _ rfl (.tmp 32) (.tmp 37) 138 3 rfl i0 _ 8 Tryz.underlying138 hi0 hz0 hz1 hz2 rfl _ _ _ _ rfl ho (.int .i64 ((x[k].toNat : Nat) : Int)) _ rfl rfl rfl (by omega) (by unfold maxLen; omega) (by omega) ?_; intro v5 w5 hown5 hb5 hst5)
      have HO : Hid (w5.ownsRow w4.heap.size 3 1 v5 (k + 1) (icells (nums (x.data.toList.take (k + 1))))) := by
        show World.ownsRow _ _ _ _ _ _ _
        rw [← HX.out]
        exact hown5
      have HB : Hid (Below w4.heap.size w4 w5) := hbk.trans hb5
      clear hst5 hown5 hb5 ho
      go_wp2
      go_roundw
      case rel => exact ⟨k + 1, hlt, by go_num, HO.out, HB.out⟩
      case measure => simp [RowKit.intOf]; omega
    · have hk' : k = x.size := by omega
      subst hk'
      have hv5 : Hid (IsRow wr 1 u7 (nums x.data.toList).length (icells (nums x.data.toList))) := by
        have := IsRow.own ho
        rw [take_bytes] at this
        rw [nums_all]
        exact this
      have hb5 := hb4.trans (hbk.mono hs4)
      have hs5 := hb5.size
      clear ho hbk hbks hb4
      rename World => wo
      go_wp2_with fail
      go_loopw [8, 10] (fun t i wx => ∃ k : Nat, k ≤ y.size ∧ i = .int .i64 k ∧ wx.ownsRow wo.heap.size 3 1 t k (icells (nums (y.data.toList.take k))) ∧ Below wo.heap.size wo wx) (fun _ i _ => y.size - (RowKit.intOf i).toNat)
      case atStart => exact ⟨0, Nat.zero_le _, rfl, World.ownsRow_nil _ _ _ _, Below.refl _ _⟩
      case round =>
        obtain ⟨k, hk, rfl, ho, hbk⟩ := hrel
        have hbks := hbk.size
        by_cases hlt : k < y.size
        · have hi : (k : Int) < y.size := by omega
          have HX : Hid _ := nums_take y k hlt
          have h8 := y[k].toNat_lt
          have hcv := conv_u8 y[k]
          go_wp2_with (at_builtin; refine wpl_apps _ rfl (.tmp 45) (.tmp 50) 138 3 rfl i0 _ 8 Tryz.underlying138 hi0 hz0 hz1 hz2 rfl _ _ _ _ rfl ho (.int .i64 ((y[k].toNat : Nat) : Int)) _ rfl rfl rfl (by omega) (by unfold maxLen; omega) (by omega) ?_; intro v6 w6 hown6 hb6 hst6)
          have HO : Hid (w6.ownsRow wo.heap.size 3 1 v6 (k + 1) (icells (nums (y.data.toList.take (k + 1))))) := by
            show World.ownsRow _ _ _ _ _ _ _
            rw [← HX.out]
            exact hown6
          have HB : Hid (Below wo.heap.size wo w6) := hbk.trans hb6
          clear hst6 hown6 hb6 ho
          go_wp2
          go_roundw
          case rel => exact ⟨k + 1, hlt, by go_num, HO.out, HB.out⟩
          case measure => simp [RowKit.intOf]; omega
        · have hk' : k = y.size := by omega
          subst hk'
          have hv6 : IsRow wr 1 u8 (nums y.data.toList).length (icells (nums y.data.toList)) := by
            have := IsRow.own ho
            rw [take_bytes] at this
            rw [nums_all]
            exact this
          have hv5' := hv5.out.below hbk
          have hb6 := hb5.trans (hbk.mono hs5)
          have hll : (nums x.data.toList).length ≤ 1000000 := by rw [nums_all]; omega
          have hmm : (nums y.data.toList).length ≤ 1000000 := by rw [nums_all]; omega
          clear ho hbk hbks hb5 hv5
          generalize nums x.data.toList = l at *
          generalize nums y.data.toList = m at *
          obtain ⟨a1, cap1, rfl⟩ := hv5'.form
          obtain ⟨a2, cap2, rfl⟩ := hv6.form
          have h1 : Hid (IsRow wr 1 (.slice a1 l.length cap1) l.length (icells l)) := hv5'
          have h2 : Hid (IsRow wr 1 (.slice a2 m.length cap2) m.length (icells m)) := hv6
          clear hv5' hv6
          have hs6 := hb6.size
          rename World => wx
          go_wp2_with fail
          go_loopw [11] (fun i wr => ∃ k : Nat, k ≤ l.length ∧ k ≤ m.length ∧ i = .int .i64 k ∧ Hid (cmpR (l.drop k) (m.drop k) = C) ∧ Below wx.heap.size wx wr) (fun i _ => l.length - (RowKit.intOf i).toNat)
          case atStart => exact ⟨0, Nat.zero_le _, Nat.zero_le _, rfl, HC, Below.refl _ _⟩
          case round =>
            obtain ⟨k, hk1, hk2, rfl, hck, hbk⟩ := hrel
            by_cases hlt1 : k < l.length
            · have hd1 : decide ((k : Int) < l.length) = true := by simp; omega
              by_cases hlt2 : k < m.length
              · have hd2 : decide ((k : Int) < m.length) = true := by simp; omega
                obtain ⟨b1, off1, rfl, hbl1, c1⟩ := row_read (h1.out.below hbk) k hlt1
                obtain ⟨b2, off2, rfl, hbl2, c2⟩ := row_read (h2.out.below hbk) k hlt2
                have hi1 : (k : Int) < l.length := by omega
                have hi2 : (k : Int) < m.length := by omega
                have HK : Hid (cmpR (l[k] :: l.drop (k + 1)) (m[k] :: m.drop (k + 1)) = C) := by show _ = _; rw [← drop_at hlt1, ← drop_at hlt2]; exact hck.out
                clear hck
                by_cases hc1 : l[k] < m[k]
                · have hc1' : decide ((l[k] : Int) < (m[k] : Int)) = true := by simp; omega
                  have HR : Hid (-1 = C) := by show _ = _; rw [← HK.out, cmpR, if_pos hc1]
                  clear HK
                  go_wp2
                  go_region
                  all_goals go_wp2
                  all_goals go_ret
                  all_goals exact ⟨by rw [← HR.out]; rfl, hb6.trans ((hbk.drew).mono hs6)⟩
                · have hc1' : decide ((l[k] : Int) < (m[k] : Int)) = false := by simp; omega
                  by_cases hc2 : m[k] < l[k]
                  · have hc2' : decide ((m[k] : Int) < (l[k] : Int)) = true := by simp; omega
                    have HR : Hid (1 = C) := by show _ = _; rw [← HK.out, cmpR, if_neg hc1, if_pos hc2]
                    clear HK
                    go_wp2
                    go_region
                    all_goals go_wp2
                    all_goals go_region
                    all_goals go_wp2
                    all_goals go_ret
                    all_goals exact ⟨by rw [← HR.out]; rfl, hb6.trans ((hbk.drew.drew).mono hs6)⟩
                  · have hc2' : decide ((m[k] : Int) < (l[k] : Int)) = false := by simp; omega
                    have HR : Hid (cmpR (l.drop (k + 1)) (m.drop (k + 1)) = C) := by show _ = _; rw [← HK.out, cmpR, if_neg hc1, if_neg hc2]
                    clear HK
                    go_wp2
                    go_region
                    all_goals go_wp2
                    all_goals go_region
                    all_goals go_wp2
                    all_goals go_roundw
                    case rel => exact ⟨k + 1, hlt1, hlt2, by go_num, HR, hbk.drew.drew⟩
                    case measure => simp [RowKit.intOf]; omega
              · have hd2 : decide ((k : Int) < m.length) = false := by simp; omega
                have hk' : k = m.length := by omega
                have hm1 : ¬ (l.length : Int) < m.length := by omega
                have hm2 : (m.length : Int) < l.length := by omega
                have HR : Hid (1 = C) := by
                  show _ = _
                  rw [← hck.out, List.drop_of_length_le (l := m) (by omega), cmpR_nil_right _ (by rw [List.length_drop]; omega)]
                clear hck
                go_wp2
                go_ret
                exact ⟨by rw [← HR.out]; rfl, hb6.trans (hbk.mono hs6)⟩
            · have hd1 : decide ((k : Int) < l.length) = false := by simp; omega
              have hk' : k = l.length := by omega
              by_cases hlt2 : k < m.length
              · have hm1 : (l.length : Int) < m.length := by omega
                have HR : Hid (-1 = C) := by
                  show _ = _
                  rw [← hck.out, List.drop_of_length_le (l := l) (by omega), cmpR_nil_left _ (by rw [List.length_drop]; omega)]
                clear hck
                go_wp2
                go_ret
                exact ⟨by rw [← HR.out]; rfl, hb6.trans (hbk.mono hs6)⟩
              · have hm1 : ¬ (l.length : Int) < m.length := by omega
                have hm2 : ¬ (m.length : Int) < l.length := by omega
                have HR : Hid (0 = C) := by
                  show _ = _
                  rw [← hck.out, List.drop_of_length_le (l := l) (by omega), List.drop_of_length_le (l := m) (by omega)]
                  rfl
                clear hck
                go_wp2
                go_ret
                exact ⟨by rw [← HR.out]; rfl, hb6.trans (hbk.mono hs6)⟩

set_option maxRecDepth 100000 in
set_option maxHeartbeats 4000000 in
theorem refCompare_b (a b : ByteArray) (w : World) (ha : a.size ≤ 200000) (hb : b.size ≤ 200000) (va : Lib.validD a.data.toList = true) (vb : Lib.validD b.data.toList = false) :
    Calls Tryz.prog 59 #[.string a, .string b] w fun e w' => e = .returned (.int .i64 (cmpL a.data.toList b.data.toList)) ∧ Below w.heap.size w w' := by
  have hza := fold_size a
  have hzb := fold_size b
  have HV1 : Lib.validD (str (foldL a.data.toList)).data.toList = true := by rw [str_data, foldL_valid]; exact va
  have HV2 : Lib.validD (str (foldL b.data.toList)).data.toList = false := by rw [str_data, foldL_valid]; exact vb
  have HC : Hid (cmpR (nums (str (foldL a.data.toList)).data.toList) (nums (str (foldL b.data.toList)).data.toList) = cmpL a.data.toList b.data.toList) := by
    show _ = _
    rw [str_data, str_data, cmp_nums]
    rfl
  have HFa : Hid (∀ w, Calls Tryz.prog 90 #[.string a] w fun e w' => e = .returned (.string (str (foldL a.data.toList))) ∧ Below w.heap.size w w') := fun w => refFold_any a w (by omega)
  have HFb : Hid (∀ w, Calls Tryz.prog 90 #[.string b] w fun e w' => e = .returned (.string (str (foldL b.data.toList))) ∧ Below w.heap.size w w') := fun w => refFold_any b w (by omega)
  generalize cmpL a.data.toList b.data.toList = C at *
  generalize str (foldL a.data.toList) = x at *
  generalize str (foldL b.data.toList) = y at *
  go_enter Tryz.func59, Tryz.ntmps59
  go_wp2_with fail
  refine (HFa.out _).mono ?_
  rintro e w1 ⟨rfl, hb1⟩
  go_wp2_with fail
  refine (HFb.out _).mono ?_
  rintro e w2 ⟨rfl, hb2'⟩
  have hb2 := hb1.trans (hb2'.mono hb1.size)
  clear hb1 hb2' HFa HFb
  go_wp2_with fail
  refine (refValid_any x _ (by omega)).mono ?_
  rintro e w3 ⟨rfl, hb3'⟩
  rw [HV1]
  have hb3 := hb2.trans (hb3'.mono hb2.size)
  clear hb2 hb3'
  go_wp2_with fail
  refine (refValid_any y _ (by omega)).mono ?_
  rintro e w4 ⟨rfl, hb4'⟩
  rw [HV2]
  have hb4 := hb3.trans (hb4'.mono hb3.size)
  clear hb3 hb4' HV1 HV2
  obtain ⟨i0, hi0, hz0, hz1, hz2⟩ := info_parts info_int
  have hs4 := hb4.size
  go_wp2_with fail
  go_loopw [7, 9] (fun t i wr => ∃ k : Nat, k ≤ x.size ∧ i = .int .i64 k ∧ wr.ownsRow w4.heap.size 3 1 t k (icells (nums (x.data.toList.take k))) ∧ Below w4.heap.size w4 wr) (fun _ i _ => x.size - (RowKit.intOf i).toNat)
  case atStart => exact ⟨0, Nat.zero_le _, rfl, World.ownsRow_nil _ _ _ _, Below.refl _ _⟩
  case round =>
    obtain ⟨k, hk, rfl, ho, hbk⟩ := hrel
    have hbks := hbk.size
    by_cases hlt : k < x.size
    · have hi : (k : Int) < x.size := by omega
      have HX : Hid _ := nums_take x k hlt
      have h8 := x[k].toNat_lt
      have hcv := conv_u8 x[k]
      go_wp2_with (at_builtin; refine wpl_apps _ rfl (.tmp 32) (.tmp 37) 138 3 rfl i0 _ 8 Tryz.underlying138 hi0 hz0 hz1 hz2 rfl _ _ _ _ rfl ho (.int .i64 ((x[k].toNat : Nat) : Int)) _ rfl rfl rfl (by omega) (by unfold maxLen; omega) (by omega) ?_; intro v5 w5 hown5 hb5 hst5)
      have HO : Hid (w5.ownsRow w4.heap.size 3 1 v5 (k + 1) (icells (nums (x.data.toList.take (k + 1))))) := by
        show World.ownsRow _ _ _ _ _ _ _
        rw [← HX.out]
        exact hown5
      have HB : Hid (Below w4.heap.size w4 w5) := hbk.trans hb5
      clear hst5 hown5 hb5 ho
      go_wp2
      go_roundw
      case rel => exact ⟨k + 1, hlt, by go_num, HO.out, HB.out⟩
      case measure => simp [RowKit.intOf]; omega
    · have hk' : k = x.size := by omega
      subst hk'
      have hv5 : Hid (IsRow wr 1 u7 (nums x.data.toList).length (icells (nums x.data.toList))) := by
        have := IsRow.own ho
        rw [take_bytes] at this
        rw [nums_all]
        exact this
      have hb5 := hb4.trans (hbk.mono hs4)
      have hs5 := hb5.size
      clear ho hbk hbks hb4
      rename World => wo
      go_wp2_with fail
      go_loopw [8, 10] (fun t i wx => ∃ k : Nat, k ≤ y.size ∧ i = .int .i64 k ∧ wx.ownsRow wo.heap.size 3 1 t k (icells (nums (y.data.toList.take k))) ∧ Below wo.heap.size wo wx) (fun _ i _ => y.size - (RowKit.intOf i).toNat)
      case atStart => exact ⟨0, Nat.zero_le _, rfl, World.ownsRow_nil _ _ _ _, Below.refl _ _⟩
      case round =>
        obtain ⟨k, hk, rfl, ho, hbk⟩ := hrel
        have hbks := hbk.size
        by_cases hlt : k < y.size
        · have hi : (k : Int) < y.size := by omega
          have HX : Hid _ := nums_take y k hlt
          have h8 := y[k].toNat_lt
          have hcv := conv_u8 y[k]
          go_wp2_with (at_builtin; refine wpl_apps _ rfl (.tmp 45) (.tmp 50) 138 3 rfl i0 _ 8 Tryz.underlying138 hi0 hz0 hz1 hz2 rfl _ _ _ _ rfl ho (.int .i64 ((y[k].toNat : Nat) : Int)) _ rfl rfl rfl (by omega) (by unfold maxLen; omega) (by omega) ?_; intro v6 w6 hown6 hb6 hst6)
          have HO : Hid (w6.ownsRow wo.heap.size 3 1 v6 (k + 1) (icells (nums (y.data.toList.take (k + 1))))) := by
            show World.ownsRow _ _ _ _ _ _ _
            rw [← HX.out]
            exact hown6
          have HB : Hid (Below wo.heap.size wo w6) := hbk.trans hb6
          clear hst6 hown6 hb6 ho
          go_wp2
          go_roundw
          case rel => exact ⟨k + 1, hlt, by go_num, HO.out, HB.out⟩
          case measure => simp [RowKit.intOf]; omega
        · have hk' : k = y.size := by omega
          subst hk'
          have hv6 : IsRow wr 1 u8 (nums y.data.toList).length (icells (nums y.data.toList)) := by
            have := IsRow.own ho
            rw [take_bytes] at this
            rw [nums_all]
            exact this
          have hv5' := hv5.out.below hbk
          have hb6 := hb5.trans (hbk.mono hs5)
          have hll : (nums x.data.toList).length ≤ 1000000 := by rw [nums_all]; omega
          have hmm : (nums y.data.toList).length ≤ 1000000 := by rw [nums_all]; omega
          clear ho hbk hbks hb5 hv5
          generalize nums x.data.toList = l at *
          generalize nums y.data.toList = m at *
          obtain ⟨a1, cap1, rfl⟩ := hv5'.form
          obtain ⟨a2, cap2, rfl⟩ := hv6.form
          have h1 : Hid (IsRow wr 1 (.slice a1 l.length cap1) l.length (icells l)) := hv5'
          have h2 : Hid (IsRow wr 1 (.slice a2 m.length cap2) m.length (icells m)) := hv6
          clear hv5' hv6
          have hs6 := hb6.size
          rename World => wx
          go_wp2_with fail
          go_loopw [11] (fun i wr => ∃ k : Nat, k ≤ l.length ∧ k ≤ m.length ∧ i = .int .i64 k ∧ Hid (cmpR (l.drop k) (m.drop k) = C) ∧ Below wx.heap.size wx wr) (fun i _ => l.length - (RowKit.intOf i).toNat)
          case atStart => exact ⟨0, Nat.zero_le _, Nat.zero_le _, rfl, HC, Below.refl _ _⟩
          case round =>
            obtain ⟨k, hk1, hk2, rfl, hck, hbk⟩ := hrel
            by_cases hlt1 : k < l.length
            · have hd1 : decide ((k : Int) < l.length) = true := by simp; omega
              by_cases hlt2 : k < m.length
              · have hd2 : decide ((k : Int) < m.length) = true := by simp; omega
                obtain ⟨b1, off1, rfl, hbl1, c1⟩ := row_read (h1.out.below hbk) k hlt1
                obtain ⟨b2, off2, rfl, hbl2, c2⟩ := row_read (h2.out.below hbk) k hlt2
                have hi1 : (k : Int) < l.length := by omega
                have hi2 : (k : Int) < m.length := by omega
                have HK : Hid (cmpR (l[k] :: l.drop (k + 1)) (m[k] :: m.drop (k + 1)) = C) := by show _ = _; rw [← drop_at hlt1, ← drop_at hlt2]; exact hck.out
                clear hck
                by_cases hc1 : l[k] < m[k]
                · have hc1' : decide ((l[k] : Int) < (m[k] : Int)) = true := by simp; omega
                  have HR : Hid (-1 = C) := by show _ = _; rw [← HK.out, cmpR, if_pos hc1]
                  clear HK
                  go_wp2
                  go_region
                  all_goals go_wp2
                  all_goals go_ret
                  all_goals exact ⟨by rw [← HR.out]; rfl, hb6.trans ((hbk.drew).mono hs6)⟩
                · have hc1' : decide ((l[k] : Int) < (m[k] : Int)) = false := by simp; omega
                  by_cases hc2 : m[k] < l[k]
                  · have hc2' : decide ((m[k] : Int) < (l[k] : Int)) = true := by simp; omega
                    have HR : Hid (1 = C) := by show _ = _; rw [← HK.out, cmpR, if_neg hc1, if_pos hc2]
                    clear HK
                    go_wp2
                    go_region
                    all_goals go_wp2
                    all_goals go_region
                    all_goals go_wp2
                    all_goals go_ret
                    all_goals exact ⟨by rw [← HR.out]; rfl, hb6.trans ((hbk.drew.drew).mono hs6)⟩
                  · have hc2' : decide ((m[k] : Int) < (l[k] : Int)) = false := by simp; omega
                    have HR : Hid (cmpR (l.drop (k + 1)) (m.drop (k + 1)) = C) := by show _ = _; rw [← HK.out, cmpR, if_neg hc1, if_neg hc2]
                    clear HK
                    go_wp2
                    go_region
                    all_goals go_wp2
                    all_goals go_region
                    all_goals go_wp2
                    all_goals go_roundw
                    case rel => exact ⟨k + 1, hlt1, hlt2, by go_num, HR, hbk.drew.drew⟩
                    case measure => simp [RowKit.intOf]; omega
              · have hd2 : decide ((k : Int) < m.length) = false := by simp; omega
                have hk' : k = m.length := by omega
                have hm1 : ¬ (l.length : Int) < m.length := by omega
                have hm2 : (m.length : Int) < l.length := by omega
                have HR : Hid (1 = C) := by
                  show _ = _
                  rw [← hck.out, List.drop_of_length_le (l := m) (by omega), cmpR_nil_right _ (by rw [List.length_drop]; omega)]
                clear hck
                go_wp2
                go_ret
                exact ⟨by rw [← HR.out]; rfl, hb6.trans (hbk.mono hs6)⟩
            · have hd1 : decide ((k : Int) < l.length) = false := by simp; omega
              have hk' : k = l.length := by omega
              by_cases hlt2 : k < m.length
              · have hm1 : (l.length : Int) < m.length := by omega
                have HR : Hid (-1 = C) := by
                  show _ = _
                  rw [← hck.out, List.drop_of_length_le (l := l) (by omega), cmpR_nil_left _ (by rw [List.length_drop]; omega)]
                clear hck
                go_wp2
                go_ret
                exact ⟨by rw [← HR.out]; rfl, hb6.trans (hbk.mono hs6)⟩
              · have hm1 : ¬ (l.length : Int) < m.length := by omega
                have hm2 : ¬ (m.length : Int) < l.length := by omega
                have HR : Hid (0 = C) := by
                  show _ = _
                  rw [← hck.out, List.drop_of_length_le (l := l) (by omega), List.drop_of_length_le (l := m) (by omega)]
                  rfl
                clear hck
                go_wp2
                go_ret
                exact ⟨by rw [← HR.out]; rfl, hb6.trans (hbk.mono hs6)⟩

theorem refCompare_any (a b : ByteArray) (w : World) (ha : a.size ≤ 200000) (hb : b.size ≤ 200000) :
    Calls Tryz.prog 59 #[.string a, .string b] w fun e w' => e = .returned (.int .i64 (cmpL a.data.toList b.data.toList)) ∧ Below w.heap.size w w' := by
  by_cases va : Lib.validD a.data.toList = true
  · by_cases vb : Lib.validD b.data.toList = true
    · exact refCompare_valid a b w ha hb va vb
    · exact refCompare_b a b w ha hb va (by simpa using vb)
  · exact refCompare_a a b w ha hb (by simpa using va)
end Go.Proofs.YtbekpemidpngaaaGreatDoor
/- The reference's Check of a value (VS over again beside the names), its Simple, same, may: walks. -/
namespace Go.Proofs.YtbekpemidpngaaaGreatDoor
open Go.RowKit

set_option maxRecDepth 100000 in
set_option maxHeartbeats 2000000 in
theorem refVCheck_any (k n : Int) (s : ByteArray) (w : World) (hs : s.size ≤ 140737488355328) :
    Calls Tryz.prog 54 #[vv k n s] w fun e w' => e = .returned (.bool (chkV k n s)) ∧ Below w.heap.size w w' := by
  obtain ⟨C, HC⟩ : ∃ C, Hid (chkV k n s = C) := ⟨_, rfl⟩
  rw [HC.out]
  have hb1 : Below w.heap.size w (w.alloc (.cells #[.int .i64 k, .int .i64 n, .string s] 67)) := (Below.refl _ _).alloc (Nat.le_refl _) _
  by_cases e1 : k = 1
  · subst e1
    have hc := HC.out
    simp only [chkV, if_true] at hc
    by_cases ha : -9007199254740991 ≤ n
    · have ha' : decide (-9007199254740991 ≤ n) = true := by simpa using ha
      by_cases hb : n ≤ 9007199254740991
      · have hb' : decide (n ≤ 9007199254740991) = true := by simpa using hb
        by_cases h0 : s.size = 0
        · have he := empty_is s h0
          have HR : Hid (true = C) := by show _ = _; rw [← hc, h0]; simp [ha, hb]
          clear hc HC
          go_enter Tryz.func54, Tryz.ntmps54
          go_wp2
          go_ret
          exact ⟨by rw [← HR.out]; rfl, hb1⟩
        · have he := empty_not s h0
          have HR : Hid (false = C) := by show _ = _; rw [← hc]; simp [h0]
          clear hc HC
          go_enter Tryz.func54, Tryz.ntmps54
          go_wp2
          go_ret
          exact ⟨by rw [← HR.out]; rfl, hb1⟩
      · have hb' : decide (n ≤ 9007199254740991) = false := by simpa using hb
        have HR : Hid (false = C) := by show _ = _; rw [← hc]; simp [hb]
        clear hc HC
        go_enter Tryz.func54, Tryz.ntmps54
        go_wp2
        go_ret
        exact ⟨by rw [← HR.out]; rfl, hb1⟩
    · have ha' : decide (-9007199254740991 ≤ n) = false := by simpa using ha
      have HR : Hid (false = C) := by show _ = _; rw [← hc]; simp [ha]
      clear hc HC
      go_enter Tryz.func54, Tryz.ntmps54
      go_wp2
      go_ret
      exact ⟨by rw [← HR.out]; rfl, hb1⟩
  have f1 : (k == 1) = false := by rw [beq_eq_false_iff_ne]; exact e1
  by_cases e2 : k = 2
  · subst e2
    have hc := HC.out
    simp only [chkV, e1, if_false, if_true] at hc
    by_cases h0 : n = 0
    · subst h0
      by_cases h2 : s.size ≤ 200
      · have h2' : decide ((s.size : Int) ≤ 200) = true := by simp; omega
        have HR : Hid (Lib.validD s.data.toList = C) := by show _ = _; rw [← hc]; simp [h2]
        clear hc HC e1
        go_enter Tryz.func54, Tryz.ntmps54
        go_wp2_with fail
        refine (refValid_any s _ (by omega)).mono ?_
        rintro e w1 ⟨rfl, hb2⟩
        rw [HR.out]
        have hb3 : Hid (Below w.heap.size w w1) := hb1.trans (hb2.mono hb1.size)
        clear hb1 hb2
        go_wp2
        go_ret
        exact ⟨rfl, hb3.out⟩
      · have h2' : decide ((s.size : Int) ≤ 200) = false := by simp; omega
        have HR : Hid (false = C) := by show _ = _; rw [← hc]; simp [h2]
        clear hc HC e1
        go_enter Tryz.func54, Tryz.ntmps54
        go_wp2
        go_ret
        exact ⟨by rw [← HR.out]; rfl, hb1⟩
    · have h0' : (n == 0) = false := by rw [beq_eq_false_iff_ne]; exact h0
      have HR : Hid (false = C) := by show _ = _; rw [← hc]; simp [h0]
      clear hc HC e1
      go_enter Tryz.func54, Tryz.ntmps54
      go_wp2
      go_ret
      exact ⟨by rw [← HR.out]; rfl, hb1⟩
  have f2 : (k == 2) = false := by rw [beq_eq_false_iff_ne]; exact e2
  by_cases e3 : k = 3
  · subst e3
    have hc := HC.out
    simp only [chkV, e1, e2, if_false, if_true] at hc
    by_cases hn : n = 0
    · subst hn
      by_cases h0 : s.size = 0
      · have he := empty_is s h0
        have HR : Hid (true = C) := by show _ = _; rw [← hc, h0]; simp
        clear hc HC e1 e2
        go_enter Tryz.func54, Tryz.ntmps54
        go_wp2
        go_ret
        exact ⟨by rw [← HR.out]; rfl, hb1⟩
      · have he := empty_not s h0
        have HR : Hid (false = C) := by show _ = _; rw [← hc]; simp [h0]
        clear hc HC e1 e2
        go_enter Tryz.func54, Tryz.ntmps54
        go_wp2
        go_ret
        exact ⟨by rw [← HR.out]; rfl, hb1⟩
    · have hn' : (n == 0) = false := by rw [beq_eq_false_iff_ne]; exact hn
      by_cases h1 : n = 1
      · subst h1
        by_cases h0 : s.size = 0
        · have he := empty_is s h0
          have HR : Hid (true = C) := by show _ = _; rw [← hc, h0]; simp
          clear hc HC e1 e2
          go_enter Tryz.func54, Tryz.ntmps54
          go_wp2
          go_ret
          exact ⟨by rw [← HR.out]; rfl, hb1⟩
        · have he := empty_not s h0
          have HR : Hid (false = C) := by show _ = _; rw [← hc]; simp [h0]
          clear hc HC e1 e2
          go_enter Tryz.func54, Tryz.ntmps54
          go_wp2
          go_ret
          exact ⟨by rw [← HR.out]; rfl, hb1⟩
      · have h1' : (n == 1) = false := by rw [beq_eq_false_iff_ne]; exact h1
        have HR : Hid (false = C) := by show _ = _; rw [← hc]; simp [hn, h1]
        clear hc HC e1 e2
        go_enter Tryz.func54, Tryz.ntmps54
        go_wp2
        go_ret
        exact ⟨by rw [← HR.out]; rfl, hb1⟩
  have f3 : (k == 3) = false := by rw [beq_eq_false_iff_ne]; exact e3
  by_cases e4 : k = 4
  · subst e4
    have hc := HC.out
    simp only [chkV, e1, e2, e3, if_false, if_true] at hc
    by_cases h0 : n = 0
    · subst h0
      have HR : Hid (decide (s.size ≤ 200) = C) := by show _ = _; rw [← hc]; simp
      have HQ : Hid (decide ((s.size : Int) ≤ 200) = decide (s.size ≤ 200)) := by show _ = _; rw [Bool.eq_iff_iff]; simp; omega
      clear hc HC e1 e2 e3
      go_enter Tryz.func54, Tryz.ntmps54
      go_wp2
      go_ret
      exact ⟨by rw [← HR.out]; first | rfl | (rw [← HQ.out]; rfl), hb1⟩
    · have h0' : (n == 0) = false := by rw [beq_eq_false_iff_ne]; exact h0
      have HR : Hid (false = C) := by show _ = _; rw [← hc]; simp [h0]
      clear hc HC e1 e2 e3
      go_enter Tryz.func54, Tryz.ntmps54
      go_wp2
      go_ret
      exact ⟨by rw [← HR.out]; rfl, hb1⟩
  have f4 : (k == 4) = false := by rw [beq_eq_false_iff_ne]; exact e4
  have HR : Hid (false = C) := by show _ = _; rw [← HC.out, chkV, if_neg e1, if_neg e2, if_neg e3, if_neg e4]
  clear HC e1 e2 e3 e4
  go_enter Tryz.func54, Tryz.ntmps54
  go_wp2
  go_ret
  exact ⟨by rw [← HR.out]; rfl, hb1⟩

set_option maxRecDepth 100000 in
theorem refSimple_any (s : ByteArray) (w : World) (hs : s.size ≤ 900000) :
    Calls Tryz.prog 52 #[.string s] w fun e w' => e = .returned (.bool (oneP s)) ∧ Below w.heap.size w w' := by
  have HC : Hid (Calls Tryz.prog 86 #[.string s] w fun e w' => e = .returned (.int .i64 (checkL s.data.toList)) ∧ Below w.heap.size w w') := refCheck_any s w hs
  by_cases hc : checkL s.data.toList = 0
  · have e0 : oneP s = decide ((cutB s.data.toList).length = 1) := by unfold oneP; rw [decide_eq_true hc, Bool.true_and]
    rw [e0]
    have HP : Hid (∀ w', Calls Tryz.prog 87 #[.string s] w' fun e w'' => PaPost (cutB s.data.toList) w' e w'') := fun w' => refParts_ok s w' hs hc
    rw [hc] at HC
    clear e0 hc
    generalize cutB s.data.toList = L at *
    go_enter Tryz.func52, Tryz.ntmps52
    go_wp2_with fail
    refine HC.out.mono ?_
    rintro e w1 ⟨rfl, hb⟩
    have HB : Hid (Below w.heap.size w w1) := hb
    clear hb
    go_wp2_with fail
    refine (HP.out w1).mono ?_
    rintro e w2 ⟨v, rfl, hr, hb⟩
    obtain ⟨a, cap, rfl⟩ := hr.form
    have HB2 : Hid (Below w.heap.size w w2) := HB.out.trans (hb.mono HB.out.size)
    have HE : Hid (((L.length : Int) == 1) = decide (L.length = 1)) := by show _ = _; rw [Bool.eq_iff_iff]; simp; omega
    clear hr hb
    go_wp2
    go_ret
    exact ⟨by rw [← HE.out]; rfl, HB2.out⟩
  · have e0 : oneP s = false := by unfold oneP; rw [decide_eq_false hc, Bool.false_and]
    rw [e0]
    have dn : (checkL s.data.toList == 0) = false := by rw [beq_eq_false_iff_ne]; exact hc
    generalize checkL s.data.toList = c at *
    clear hc e0
    go_enter Tryz.func52, Tryz.ntmps52
    go_wp2_with fail
    refine HC.out.mono ?_
    rintro e w1 ⟨rfl, hb⟩
    have HB : Hid (Below w.heap.size w w1) := hb
    clear hb
    go_wp2
    go_ret
    exact ⟨rfl, HB.out⟩
theorem eq_str (A B : List UInt8) : ((str A).toList == (str B).toList) = decide (A = B) := by
  rw [ByteArray.toList_eq, ByteArray.toList_eq, str_data, str_data, Bool.eq_iff_iff]; simp
set_option maxRecDepth 100000 in
theorem refSameN_any (a b : ByteArray) (w : World) (ha : a.size ≤ 1000000) (hb : b.size ≤ 1000000) :
    Calls Tryz.prog 60 #[.string a, .string b] w fun e w' => e = .returned (.bool (sameL a.data.toList b.data.toList)) ∧ Below w.heap.size w w' := by
  have HE : Hid (((str (foldL a.data.toList)).toList == (str (foldL b.data.toList)).toList) = sameL a.data.toList b.data.toList) := eq_str _ _
  have HA : Hid (Calls Tryz.prog 90 #[.string a] w fun e w' => e = .returned (.string (str (foldL a.data.toList))) ∧ Below w.heap.size w w') := refFold_any a w ha
  have HB : Hid (∀ w', Calls Tryz.prog 90 #[.string b] w' fun e w'' => e = .returned (.string (str (foldL b.data.toList))) ∧ Below w'.heap.size w' w'') := fun w' => refFold_any b w' hb
  generalize str (foldL a.data.toList) = A at *
  generalize str (foldL b.data.toList) = B at *
  generalize sameL a.data.toList b.data.toList = r at *
  go_enter Tryz.func60, Tryz.ntmps60
  go_wp2_with fail
  refine HA.out.mono ?_
  rintro e w1 ⟨rfl, h1⟩
  have H1 : Hid (Below w.heap.size w w1) := h1
  clear h1
  go_wp2_with fail
  refine (HB.out w1).mono ?_
  rintro e w2 ⟨rfl, h2⟩
  have H2 : Hid (Below w.heap.size w w2) := H1.out.trans (h2.mono H1.out.size)
  clear h2
  go_wp2
  go_ret
  exact ⟨by rw [← HE.out]; rfl, H2.out⟩
set_option maxRecDepth 100000 in
theorem refMay_any (x : Fd) (w : World) (hs : x.n.size ≤ 900000) :
    Calls Tryz.prog 58 #[fV x] w fun e w' => e = .returned (.bool (mayF x)) ∧ Below w.heap.size w w' := by
  obtain ⟨s, k, m⟩ := x
  have hA := al_b w (.cells #[.string s, .int .i64 k, .bool m] 72)
  have HS : Hid (Calls Tryz.prog 52 #[.string s] (w.alloc (.cells #[.string s, .int .i64 k, .bool m] 72)) fun e w' => e = .returned (.bool (oneP s)) ∧ Below (w.alloc (.cells #[.string s, .int .i64 k, .bool m] 72)).heap.size (w.alloc (.cells #[.string s, .int .i64 k, .bool m] 72)) w') := refSimple_any s _ hs
  have HA : Hid (Below w.heap.size w (w.alloc (.cells #[.string s, .int .i64 k, .bool m] 72))) := hA
  have HZ : Hid (∀ w', Below (w.alloc (.cells #[.string s, .int .i64 k, .bool m] 72)).heap.size (w.alloc (.cells #[.string s, .int .i64 k, .bool m] 72)) w' → w'.cell? ⟨w.heap.size, 1, none⟩ = some (.int .i64 k)) := fun w' h => (h.cell (p := ⟨w.heap.size, 1, none⟩) (by simp)).trans (by simp)
  clear hA
  have HE : Hid (mayF ⟨s, k, m⟩ = (oneP s && (decide (1 ≤ k) && decide (k ≤ 4)))) := by
    show (decide (1 ≤ k) && (decide (k < 5) && oneP s)) = _
    rw [show decide (k < 5) = decide (k ≤ 4) by rw [Bool.eq_iff_iff]; simp; omega]
    cases oneP s <;> cases decide (1 ≤ k) <;> cases decide (k ≤ 4) <;> rfl
  rw [HE.out]
  clear HE
  generalize oneP s = p at *
  cases p with
  | false =>
    rw [Bool.false_and]
    go_enter Tryz.func58, Tryz.ntmps58
    go_wp2_with fail
    refine HS.out.mono ?_
    rintro e w1 ⟨rfl, hb⟩
    have HB : Hid (Below w.heap.size w w1) := HA.out.trans (hb.mono HA.out.size)
    clear hb
    go_wp2
    go_ret
    exact ⟨rfl, HB.out⟩
  | true =>
    rw [Bool.true_and]
    by_cases h1 : 1 ≤ k
    · rw [decide_eq_true h1, Bool.true_and]
      go_enter Tryz.func58, Tryz.ntmps58
      go_wp2_with fail
      refine HS.out.mono ?_
      rintro e w1 ⟨rfl, hb⟩
      have HB : Hid (Below w.heap.size w w1) := HA.out.trans (hb.mono HA.out.size)
      have z1 := HZ.out w1 hb
      clear hb
      go_wp2
      go_ret
      exact ⟨rfl, HB.out⟩
    · rw [decide_eq_false h1, Bool.false_and]
      go_enter Tryz.func58, Tryz.ntmps58
      go_wp2_with fail
      refine HS.out.mono ?_
      rintro e w1 ⟨rfl, hb⟩
      have HB : Hid (Below w.heap.size w w1) := HA.out.trans (hb.mono HA.out.size)
      have z1 := HZ.out w1 hb
      clear hb
      go_wp2
      go_ret
      exact ⟨rfl, HB.out⟩
end Go.Proofs.YtbekpemidpngaaaGreatDoor
