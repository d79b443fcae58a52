/- The reference's Compare where one text is not UTF-8: its walk. -/
import Derived.Test.YtlndgepoekllkaaGreatDoorZk19
namespace Go.Proofs.YtlndgepoekllkaaGreatDoor
open Go.RowKit

set_option maxRecDepth 100000 in
set_option maxHeartbeats 4000000 in
theorem refCompare_a (a b : ByteArray) (w : World) (ha : a.size ≤ 200000) (hb : b.size ≤ 200000) (va : Lib.validD a.data.toList = false) :
    Calls Tryz.prog 76 #[.string a, .string b] w fun e w' => e = .returned (.int .i64 (cmpL a.data.toList b.data.toList)) ∧ Below w.heap.size w w' := by
  have hza := fold_size a
  have hzb := fold_size b
  have HV1 : Lib.validD (str (foldL a.data.toList)).data.toList = false := by rw [str_data, foldL_valid]; exact va
  have HC : Hid (cmpR (nums (str (foldL a.data.toList)).data.toList) (nums (str (foldL b.data.toList)).data.toList) = cmpL a.data.toList b.data.toList) := by
    show _ = _
    rw [str_data, str_data, cmp_nums]
    rfl
  have HFa : Hid (∀ w, Calls Tryz.prog 85 #[.string a] w fun e w' => e = .returned (.string (str (foldL a.data.toList))) ∧ Below w.heap.size w w') := fun w => refFold_any a w (by omega)
  have HFb : Hid (∀ w, Calls Tryz.prog 85 #[.string b] w fun e w' => e = .returned (.string (str (foldL b.data.toList))) ∧ Below w.heap.size w w') := fun w => refFold_any b w (by omega)
  generalize cmpL a.data.toList b.data.toList = C at *
  generalize str (foldL a.data.toList) = x at *
  generalize str (foldL b.data.toList) = y at *
  go_enter Tryz.func76, Tryz.ntmps76
  go_wp2_with fail
  refine (HFa.out _).mono ?_
  rintro e w1 ⟨rfl, hb1⟩
  go_wp2_with fail
  refine (HFb.out _).mono ?_
  rintro e w2 ⟨rfl, hb2'⟩
  have hb2 := hb1.trans (hb2'.mono hb1.size)
  clear hb1 hb2' HFa HFb
  go_wp2_with fail
  refine (refValid_any x _ (by omega)).mono ?_
  rintro e w4 ⟨rfl, hb4'⟩
  rw [HV1]
  have hb4 := hb2.trans (hb4'.mono hb2.size)
  clear hb2 hb4' HV1
  obtain ⟨i0, hi0, hz0, hz1, hz2⟩ := info_parts info_int
  have hs4 := hb4.size
  go_wp2_with fail
  go_loopw [7, 9] (fun t i wr => ∃ k : Nat, k ≤ x.size ∧ i = .int .i64 k ∧ wr.ownsRow w4.heap.size 3 1 t k (icells (nums (x.data.toList.take k))) ∧ Below w4.heap.size w4 wr) (fun _ i _ => x.size - (RowKit.intOf i).toNat)
  case atStart => exact ⟨0, Nat.zero_le _, rfl, World.ownsRow_nil _ _ _ _, Below.refl _ _⟩
  case round =>
    obtain ⟨k, hk, rfl, ho, hbk⟩ := hrel
    have hbks := hbk.size
    by_cases hlt : k < x.size
    · have hi : (k : Int) < x.size := by omega
      have HX : Hid _ := nums_take x k hlt
      have h8 := x[k].toNat_lt
      have hcv := conv_u8 x[k]
      go_wp2_with (at_builtin; refine wpl_apps _ rfl (.tmp 32) (.tmp 37) 36 3 rfl i0 _ 8 Tryz.underlying36 hi0 hz0 hz1 hz2 rfl _ _ _ _ rfl ho (.int .i64 ((x[k].toNat : Nat) : Int)) _ rfl rfl rfl (by omega) (by unfold maxLen; omega) (by omega) ?_; intro v5 w5 hown5 hb5 hst5)
      have HO : Hid (w5.ownsRow w4.heap.size 3 1 v5 (k + 1) (icells (nums (x.data.toList.take (k + 1))))) := by
        show World.ownsRow _ _ _ _ _ _ _
        rw [← HX.out]
        exact hown5
      have HB : Hid (Below w4.heap.size w4 w5) := hbk.trans hb5
      clear hst5 hown5 hb5 ho
      go_wp2
      go_roundw
      case rel => exact ⟨k + 1, hlt, by go_num, HO.out, HB.out⟩
      case measure => simp [RowKit.intOf]; omega
    · have hk' : k = x.size := by omega
      subst hk'
      have hv5 : Hid (IsRow wr 1 u7 (nums x.data.toList).length (icells (nums x.data.toList))) := by
        have := IsRow.own ho
        rw [take_bytes] at this
        rw [nums_all]
        exact this
      have hb5 := hb4.trans (hbk.mono hs4)
      have hs5 := hb5.size
      clear ho hbk hbks hb4
      rename World => wo
      go_wp2_with fail
      go_loopw [8, 10] (fun t i wx => ∃ k : Nat, k ≤ y.size ∧ i = .int .i64 k ∧ wx.ownsRow wo.heap.size 3 1 t k (icells (nums (y.data.toList.take k))) ∧ Below wo.heap.size wo wx) (fun _ i _ => y.size - (RowKit.intOf i).toNat)
      case atStart => exact ⟨0, Nat.zero_le _, rfl, World.ownsRow_nil _ _ _ _, Below.refl _ _⟩
      case round =>
        obtain ⟨k, hk, rfl, ho, hbk⟩ := hrel
        have hbks := hbk.size
        by_cases hlt : k < y.size
        · have hi : (k : Int) < y.size := by omega
          have HX : Hid _ := nums_take y k hlt
          have h8 := y[k].toNat_lt
          have hcv := conv_u8 y[k]
          go_wp2_with (at_builtin; refine wpl_apps _ rfl (.tmp 45) (.tmp 50) 36 3 rfl i0 _ 8 Tryz.underlying36 hi0 hz0 hz1 hz2 rfl _ _ _ _ rfl ho (.int .i64 ((y[k].toNat : Nat) : Int)) _ rfl rfl rfl (by omega) (by unfold maxLen; omega) (by omega) ?_; intro v6 w6 hown6 hb6 hst6)
          have HO : Hid (w6.ownsRow wo.heap.size 3 1 v6 (k + 1) (icells (nums (y.data.toList.take (k + 1))))) := by
            show World.ownsRow _ _ _ _ _ _ _
            rw [← HX.out]
            exact hown6
          have HB : Hid (Below wo.heap.size wo w6) := hbk.trans hb6
          clear hst6 hown6 hb6 ho
          go_wp2
          go_roundw
          case rel => exact ⟨k + 1, hlt, by go_num, HO.out, HB.out⟩
          case measure => simp [RowKit.intOf]; omega
        · have hk' : k = y.size := by omega
          subst hk'
          have hv6 : IsRow wr 1 u8 (nums y.data.toList).length (icells (nums y.data.toList)) := by
            have := IsRow.own ho
            rw [take_bytes] at this
            rw [nums_all]
            exact this
          have hv5' := hv5.out.below hbk
          have hb6 := hb5.trans (hbk.mono hs5)
          have hll : (nums x.data.toList).length ≤ 1000000 := by rw [nums_all]; omega
          have hmm : (nums y.data.toList).length ≤ 1000000 := by rw [nums_all]; omega
          clear ho hbk hbks hb5 hv5
          generalize nums x.data.toList = l at *
          generalize nums y.data.toList = m at *
          obtain ⟨a1, cap1, rfl⟩ := hv5'.form
          obtain ⟨a2, cap2, rfl⟩ := hv6.form
          have h1 : Hid (IsRow wr 1 (.slice a1 l.length cap1) l.length (icells l)) := hv5'
          have h2 : Hid (IsRow wr 1 (.slice a2 m.length cap2) m.length (icells m)) := hv6
          clear hv5' hv6
          have hs6 := hb6.size
          rename World => wx
          go_wp2_with fail
          go_loopw [11] (fun i wr => ∃ k : Nat, k ≤ l.length ∧ k ≤ m.length ∧ i = .int .i64 k ∧ Hid (cmpR (l.drop k) (m.drop k) = C) ∧ Below wx.heap.size wx wr) (fun i _ => l.length - (RowKit.intOf i).toNat)
          case atStart => exact ⟨0, Nat.zero_le _, Nat.zero_le _, rfl, HC, Below.refl _ _⟩
          case round =>
            obtain ⟨k, hk1, hk2, rfl, hck, hbk⟩ := hrel
            by_cases hlt1 : k < l.length
            · have hd1 : decide ((k : Int) < l.length) = true := by simp; omega
              by_cases hlt2 : k < m.length
              · have hd2 : decide ((k : Int) < m.length) = true := by simp; omega
                obtain ⟨b1, off1, rfl, hbl1, c1⟩ := row_read (h1.out.below hbk) k hlt1
                obtain ⟨b2, off2, rfl, hbl2, c2⟩ := row_read (h2.out.below hbk) k hlt2
                have hi1 : (k : Int) < l.length := by omega
                have hi2 : (k : Int) < m.length := by omega
                have HK : Hid (cmpR (l[k] :: l.drop (k + 1)) (m[k] :: m.drop (k + 1)) = C) := by show _ = _; rw [← drop_at hlt1, ← drop_at hlt2]; exact hck.out
                clear hck
                by_cases hc1 : l[k] < m[k]
                · have hc1' : decide ((l[k] : Int) < (m[k] : Int)) = true := by simp; omega
                  have HR : Hid (-1 = C) := by show _ = _; rw [← HK.out, cmpR, if_pos hc1]
                  clear HK
                  go_wp2
                  go_region
                  all_goals go_wp2
                  all_goals go_ret
                  all_goals exact ⟨by rw [← HR.out]; rfl, hb6.trans ((hbk.drew).mono hs6)⟩
                · have hc1' : decide ((l[k] : Int) < (m[k] : Int)) = false := by simp; omega
                  by_cases hc2 : m[k] < l[k]
                  · have hc2' : decide ((m[k] : Int) < (l[k] : Int)) = true := by simp; omega
                    have HR : Hid (1 = C) := by show _ = _; rw [← HK.out, cmpR, if_neg hc1, if_pos hc2]
                    clear HK
                    go_wp2
                    go_region
                    all_goals go_wp2
                    all_goals go_region
                    all_goals go_wp2
                    all_goals go_ret
                    all_goals exact ⟨by rw [← HR.out]; rfl, hb6.trans ((hbk.drew.drew).mono hs6)⟩
                  · have hc2' : decide ((m[k] : Int) < (l[k] : Int)) = false := by simp; omega
                    have HR : Hid (cmpR (l.drop (k + 1)) (m.drop (k + 1)) = C) := by show _ = _; rw [← HK.out, cmpR, if_neg hc1, if_neg hc2]
                    clear HK
                    go_wp2
                    go_region
                    all_goals go_wp2
                    all_goals go_region
                    all_goals go_wp2
                    all_goals go_roundw
                    case rel => exact ⟨k + 1, hlt1, hlt2, by go_num, HR, hbk.drew.drew⟩
                    case measure => simp [RowKit.intOf]; omega
              · have hd2 : decide ((k : Int) < m.length) = false := by simp; omega
                have hk' : k = m.length := by omega
                have hm1 : ¬ (l.length : Int) < m.length := by omega
                have hm2 : (m.length : Int) < l.length := by omega
                have HR : Hid (1 = C) := by
                  show _ = _
                  rw [← hck.out, List.drop_of_length_le (l := m) (by omega), cmpR_nil_right _ (by rw [List.length_drop]; omega)]
                clear hck
                go_wp2
                go_ret
                exact ⟨by rw [← HR.out]; rfl, hb6.trans (hbk.mono hs6)⟩
            · have hd1 : decide ((k : Int) < l.length) = false := by simp; omega
              have hk' : k = l.length := by omega
              by_cases hlt2 : k < m.length
              · have hm1 : (l.length : Int) < m.length := by omega
                have HR : Hid (-1 = C) := by
                  show _ = _
                  rw [← hck.out, List.drop_of_length_le (l := l) (by omega), cmpR_nil_left _ (by rw [List.length_drop]; omega)]
                clear hck
                go_wp2
                go_ret
                exact ⟨by rw [← HR.out]; rfl, hb6.trans (hbk.mono hs6)⟩
              · have hm1 : ¬ (l.length : Int) < m.length := by omega
                have hm2 : ¬ (m.length : Int) < l.length := by omega
                have HR : Hid (0 = C) := by
                  show _ = _
                  rw [← hck.out, List.drop_of_length_le (l := l) (by omega), List.drop_of_length_le (l := m) (by omega)]
                  rfl
                clear hck
                go_wp2
                go_ret
                exact ⟨by rw [← HR.out]; rfl, hb6.trans (hbk.mono hs6)⟩

set_option maxRecDepth 100000 in
set_option maxHeartbeats 4000000 in
theorem refCompare_b (a b : ByteArray) (w : World) (ha : a.size ≤ 200000) (hb : b.size ≤ 200000) (va : Lib.validD a.data.toList = true) (vb : Lib.validD b.data.toList = false) :
    Calls Tryz.prog 76 #[.string a, .string b] w fun e w' => e = .returned (.int .i64 (cmpL a.data.toList b.data.toList)) ∧ Below w.heap.size w w' := by
  have hza := fold_size a
  have hzb := fold_size b
  have HV1 : Lib.validD (str (foldL a.data.toList)).data.toList = true := by rw [str_data, foldL_valid]; exact va
  have HV2 : Lib.validD (str (foldL b.data.toList)).data.toList = false := by rw [str_data, foldL_valid]; exact vb
  have HC : Hid (cmpR (nums (str (foldL a.data.toList)).data.toList) (nums (str (foldL b.data.toList)).data.toList) = cmpL a.data.toList b.data.toList) := by
    show _ = _
    rw [str_data, str_data, cmp_nums]
    rfl
  have HFa : Hid (∀ w, Calls Tryz.prog 85 #[.string a] w fun e w' => e = .returned (.string (str (foldL a.data.toList))) ∧ Below w.heap.size w w') := fun w => refFold_any a w (by omega)
  have HFb : Hid (∀ w, Calls Tryz.prog 85 #[.string b] w fun e w' => e = .returned (.string (str (foldL b.data.toList))) ∧ Below w.heap.size w w') := fun w => refFold_any b w (by omega)
  generalize cmpL a.data.toList b.data.toList = C at *
  generalize str (foldL a.data.toList) = x at *
  generalize str (foldL b.data.toList) = y at *
  go_enter Tryz.func76, Tryz.ntmps76
  go_wp2_with fail
  refine (HFa.out _).mono ?_
  rintro e w1 ⟨rfl, hb1⟩
  go_wp2_with fail
  refine (HFb.out _).mono ?_
  rintro e w2 ⟨rfl, hb2'⟩
  have hb2 := hb1.trans (hb2'.mono hb1.size)
  clear hb1 hb2' HFa HFb
  go_wp2_with fail
  refine (refValid_any x _ (by omega)).mono ?_
  rintro e w3 ⟨rfl, hb3'⟩
  rw [HV1]
  have hb3 := hb2.trans (hb3'.mono hb2.size)
  clear hb2 hb3'
  go_wp2_with fail
  refine (refValid_any y _ (by omega)).mono ?_
  rintro e w4 ⟨rfl, hb4'⟩
  rw [HV2]
  have hb4 := hb3.trans (hb4'.mono hb3.size)
  clear hb3 hb4' HV1 HV2
  obtain ⟨i0, hi0, hz0, hz1, hz2⟩ := info_parts info_int
  have hs4 := hb4.size
  go_wp2_with fail
  go_loopw [7, 9] (fun t i wr => ∃ k : Nat, k ≤ x.size ∧ i = .int .i64 k ∧ wr.ownsRow w4.heap.size 3 1 t k (icells (nums (x.data.toList.take k))) ∧ Below w4.heap.size w4 wr) (fun _ i _ => x.size - (RowKit.intOf i).toNat)
  case atStart => exact ⟨0, Nat.zero_le _, rfl, World.ownsRow_nil _ _ _ _, Below.refl _ _⟩
  case round =>
    obtain ⟨k, hk, rfl, ho, hbk⟩ := hrel
    have hbks := hbk.size
    by_cases hlt : k < x.size
    · have hi : (k : Int) < x.size := by omega
      have HX : Hid _ := nums_take x k hlt
      have h8 := x[k].toNat_lt
      have hcv := conv_u8 x[k]
      go_wp2_with (at_builtin; refine wpl_apps _ rfl (.tmp 32) (.tmp 37) 36 3 rfl i0 _ 8 Tryz.underlying36 hi0 hz0 hz1 hz2 rfl _ _ _ _ rfl ho (.int .i64 ((x[k].toNat : Nat) : Int)) _ rfl rfl rfl (by omega) (by unfold maxLen; omega) (by omega) ?_; intro v5 w5 hown5 hb5 hst5)
      have HO : Hid (w5.ownsRow w4.heap.size 3 1 v5 (k + 1) (icells (nums (x.data.toList.take (k + 1))))) := by
        show World.ownsRow _ _ _ _ _ _ _
        rw [← HX.out]
        exact hown5
      have HB : Hid (Below w4.heap.size w4 w5) := hbk.trans hb5
      clear hst5 hown5 hb5 ho
      go_wp2
      go_roundw
      case rel => exact ⟨k + 1, hlt, by go_num, HO.out, HB.out⟩
      case measure => simp [RowKit.intOf]; omega
    · have hk' : k = x.size := by omega
      subst hk'
      have hv5 : Hid (IsRow wr 1 u7 (nums x.data.toList).length (icells (nums x.data.toList))) := by
        have := IsRow.own ho
        rw [take_bytes] at this
        rw [nums_all]
        exact this
      have hb5 := hb4.trans (hbk.mono hs4)
      have hs5 := hb5.size
      clear ho hbk hbks hb4
      rename World => wo
      go_wp2_with fail
      go_loopw [8, 10] (fun t i wx => ∃ k : Nat, k ≤ y.size ∧ i = .int .i64 k ∧ wx.ownsRow wo.heap.size 3 1 t k (icells (nums (y.data.toList.take k))) ∧ Below wo.heap.size wo wx) (fun _ i _ => y.size - (RowKit.intOf i).toNat)
      case atStart => exact ⟨0, Nat.zero_le _, rfl, World.ownsRow_nil _ _ _ _, Below.refl _ _⟩
      case round =>
        obtain ⟨k, hk, rfl, ho, hbk⟩ := hrel
        have hbks := hbk.size
        by_cases hlt : k < y.size
        · have hi : (k : Int) < y.size := by omega
          have HX : Hid _ := nums_take y k hlt
          have h8 := y[k].toNat_lt
          have hcv := conv_u8 y[k]
          go_wp2_with (at_builtin; refine wpl_apps _ rfl (.tmp 45) (.tmp 50) 36 3 rfl i0 _ 8 Tryz.underlying36 hi0 hz0 hz1 hz2 rfl _ _ _ _ rfl ho (.int .i64 ((y[k].toNat : Nat) : Int)) _ rfl rfl rfl (by omega) (by unfold maxLen; omega) (by omega) ?_; intro v6 w6 hown6 hb6 hst6)
          have HO : Hid (w6.ownsRow wo.heap.size 3 1 v6 (k + 1) (icells (nums (y.data.toList.take (k + 1))))) := by
            show World.ownsRow _ _ _ _ _ _ _
            rw [← HX.out]
            exact hown6
          have HB : Hid (Below wo.heap.size wo w6) := hbk.trans hb6
          clear hst6 hown6 hb6 ho
          go_wp2
          go_roundw
          case rel => exact ⟨k + 1, hlt, by go_num, HO.out, HB.out⟩
          case measure => simp [RowKit.intOf]; omega
        · have hk' : k = y.size := by omega
          subst hk'
          have hv6 : IsRow wr 1 u8 (nums y.data.toList).length (icells (nums y.data.toList)) := by
            have := IsRow.own ho
            rw [take_bytes] at this
            rw [nums_all]
            exact this
          have hv5' := hv5.out.below hbk
          have hb6 := hb5.trans (hbk.mono hs5)
          have hll : (nums x.data.toList).length ≤ 1000000 := by rw [nums_all]; omega
          have hmm : (nums y.data.toList).length ≤ 1000000 := by rw [nums_all]; omega
          clear ho hbk hbks hb5 hv5
          generalize nums x.data.toList = l at *
          generalize nums y.data.toList = m at *
          obtain ⟨a1, cap1, rfl⟩ := hv5'.form
          obtain ⟨a2, cap2, rfl⟩ := hv6.form
          have h1 : Hid (IsRow wr 1 (.slice a1 l.length cap1) l.length (icells l)) := hv5'
          have h2 : Hid (IsRow wr 1 (.slice a2 m.length cap2) m.length (icells m)) := hv6
          clear hv5' hv6
          have hs6 := hb6.size
          rename World => wx
          go_wp2_with fail
          go_loopw [11] (fun i wr => ∃ k : Nat, k ≤ l.length ∧ k ≤ m.length ∧ i = .int .i64 k ∧ Hid (cmpR (l.drop k) (m.drop k) = C) ∧ Below wx.heap.size wx wr) (fun i _ => l.length - (RowKit.intOf i).toNat)
          case atStart => exact ⟨0, Nat.zero_le _, Nat.zero_le _, rfl, HC, Below.refl _ _⟩
          case round =>
            obtain ⟨k, hk1, hk2, rfl, hck, hbk⟩ := hrel
            by_cases hlt1 : k < l.length
            · have hd1 : decide ((k : Int) < l.length) = true := by simp; omega
              by_cases hlt2 : k < m.length
              · have hd2 : decide ((k : Int) < m.length) = true := by simp; omega
                obtain ⟨b1, off1, rfl, hbl1, c1⟩ := row_read (h1.out.below hbk) k hlt1
                obtain ⟨b2, off2, rfl, hbl2, c2⟩ := row_read (h2.out.below hbk) k hlt2
                have hi1 : (k : Int) < l.length := by omega
                have hi2 : (k : Int) < m.length := by omega
                have HK : Hid (cmpR (l[k] :: l.drop (k + 1)) (m[k] :: m.drop (k + 1)) = C) := by show _ = _; rw [← drop_at hlt1, ← drop_at hlt2]; exact hck.out
                clear hck
                by_cases hc1 : l[k] < m[k]
                · have hc1' : decide ((l[k] : Int) < (m[k] : Int)) = true := by simp; omega
                  have HR : Hid (-1 = C) := by show _ = _; rw [← HK.out, cmpR, if_pos hc1]
                  clear HK
                  go_wp2
                  go_region
                  all_goals go_wp2
                  all_goals go_ret
                  all_goals exact ⟨by rw [← HR.out]; rfl, hb6.trans ((hbk.drew).mono hs6)⟩
                · have hc1' : decide ((l[k] : Int) < (m[k] : Int)) = false := by simp; omega
                  by_cases hc2 : m[k] < l[k]
                  · have hc2' : decide ((m[k] : Int) < (l[k] : Int)) = true := by simp; omega
                    have HR : Hid (1 = C) := by show _ = _; rw [← HK.out, cmpR, if_neg hc1, if_pos hc2]
                    clear HK
                    go_wp2
                    go_region
                    all_goals go_wp2
                    all_goals go_region
                    all_goals go_wp2
                    all_goals go_ret
                    all_goals exact ⟨by rw [← HR.out]; rfl, hb6.trans ((hbk.drew.drew).mono hs6)⟩
                  · have hc2' : decide ((m[k] : Int) < (l[k] : Int)) = false := by simp; omega
                    have HR : Hid (cmpR (l.drop (k + 1)) (m.drop (k + 1)) = C) := by show _ = _; rw [← HK.out, cmpR, if_neg hc1, if_neg hc2]
                    clear HK
                    go_wp2
                    go_region
                    all_goals go_wp2
                    all_goals go_region
                    all_goals go_wp2
                    all_goals go_roundw
                    case rel => exact ⟨k + 1, hlt1, hlt2, by go_num, HR, hbk.drew.drew⟩
                    case measure => simp [RowKit.intOf]; omega
              · have hd2 : decide ((k : Int) < m.length) = false := by simp; omega
                have hk' : k = m.length := by omega
                have hm1 : ¬ (l.length : Int) < m.length := by omega
                have hm2 : (m.length : Int) < l.length := by omega
                have HR : Hid (1 = C) := by
                  show _ = _
                  rw [← hck.out, List.drop_of_length_le (l := m) (by omega), cmpR_nil_right _ (by rw [List.length_drop]; omega)]
                clear hck
                go_wp2
                go_ret
                exact ⟨by rw [← HR.out]; rfl, hb6.trans (hbk.mono hs6)⟩
            · have hd1 : decide ((k : Int) < l.length) = false := by simp; omega
              have hk' : k = l.length := by omega
              by_cases hlt2 : k < m.length
              · have hm1 : (l.length : Int) < m.length := by omega
                have HR : Hid (-1 = C) := by
                  show _ = _
                  rw [← hck.out, List.drop_of_length_le (l := l) (by omega), cmpR_nil_left _ (by rw [List.length_drop]; omega)]
                clear hck
                go_wp2
                go_ret
                exact ⟨by rw [← HR.out]; rfl, hb6.trans (hbk.mono hs6)⟩
              · have hm1 : ¬ (l.length : Int) < m.length := by omega
                have hm2 : ¬ (m.length : Int) < l.length := by omega
                have HR : Hid (0 = C) := by
                  show _ = _
                  rw [← hck.out, List.drop_of_length_le (l := l) (by omega), List.drop_of_length_le (l := m) (by omega)]
                  rfl
                clear hck
                go_wp2
                go_ret
                exact ⟨by rw [← HR.out]; rfl, hb6.trans (hbk.mono hs6)⟩

theorem refCompare_any (a b : ByteArray) (w : World) (ha : a.size ≤ 200000) (hb : b.size ≤ 200000) :
    Calls Tryz.prog 76 #[.string a, .string b] w fun e w' => e = .returned (.int .i64 (cmpL a.data.toList b.data.toList)) ∧ Below w.heap.size w w' := by
  by_cases va : Lib.validD a.data.toList = true
  · by_cases vb : Lib.validD b.data.toList = true
    · exact refCompare_valid a b w ha hb va vb
    · exact refCompare_b a b w ha hb va (by simpa using vb)
  · exact refCompare_a a b w ha hb (by simpa using va)
end Go.Proofs.YtlndgepoekllkaaGreatDoor
