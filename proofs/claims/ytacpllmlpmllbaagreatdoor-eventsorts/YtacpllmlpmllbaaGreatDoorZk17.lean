/- The reference's Compare where one text is not UTF-8: its walk. -/
import Derived.Test.YtacpllmlpmllbaaGreatDoorZk16
import Derived.Test.YtacpllmlpmllbaaGreatDoorZk7
import Derived.Test.YtacpllmlpmllbaaGreatDoorZk9
import Derived.Test.YtacpllmlpmllbaaGreatDoorZk15
namespace Go.Proofs.YtacpllmlpmllbaaGreatDoor
open Go.RowKit

set_option maxRecDepth 100000 in
set_option maxHeartbeats 4000000 in
theorem refCompare_a (a b : ByteArray) (w : World) (ha : a.size ≤ 200000) (hb : b.size ≤ 200000) (va : Lib.validD a.data.toList = false) :
    Calls Tryz.prog 68 #[.string a, .string b] w fun e w' => e = .returned (.int .i64 (cmpL a.data.toList b.data.toList)) ∧ Below w.heap.size w w' := by
  have hza := fold_size a
  have hzb := fold_size b
  have HV1 : Lib.validD (str (foldL a.data.toList)).data.toList = false := by rw [str_data, foldL_valid]; exact va
  have HC : Hid (cmpR (nums (str (foldL a.data.toList)).data.toList) (nums (str (foldL b.data.toList)).data.toList) = cmpL a.data.toList b.data.toList) := by
    show _ = _
    rw [str_data, str_data, cmp_nums]
    rfl
  have HFa : Hid (∀ w, Calls Tryz.prog 94 #[.string a] w fun e w' => e = .returned (.string (str (foldL a.data.toList))) ∧ Below w.heap.size w w') := fun w => refFold_any a w (by omega)
  have HFb : Hid (∀ w, Calls Tryz.prog 94 #[.string b] w fun e w' => e = .returned (.string (str (foldL b.data.toList))) ∧ Below w.heap.size w w') := fun w => refFold_any b w (by omega)
  generalize cmpL a.data.toList b.data.toList = C at *
  generalize str (foldL a.data.toList) = x at *
  generalize str (foldL b.data.toList) = y at *
  go_enter Tryz.func68, Tryz.ntmps68
  go_wp2_with fail
  refine (HFa.out _).mono ?_
  rintro e w1 ⟨rfl, hb1⟩
  go_wp2_with fail
  refine (HFb.out _).mono ?_
  rintro e w2 ⟨rfl, hb2'⟩
  have hb2 := hb1.trans (hb2'.mono hb1.size)
  clear hb1 hb2' HFa HFb
  go_wp2_with fail
  refine (refValid_any x _ (by omega)).mono ?_
  rintro e w4 ⟨rfl, hb4'⟩
  rw [HV1]
  have hb4 := hb2.trans (hb4'.mono hb2.size)
  clear hb2 hb4' HV1
  obtain ⟨i0, hi0, hz0, hz1, hz2⟩ := info_parts info_int
  have hs4 := hb4.size
  go_wp2_with fail
  go_loopw [7, 9] (fun t i wr => ∃ k : Nat, k ≤ x.size ∧ i = .int .i64 k ∧ wr.ownsRow w4.heap.size 3 1 t k (icells (nums (x.data.toList.take k))) ∧ Below w4.heap.size w4 wr) (fun _ i _ => x.size - (RowKit.intOf i).toNat)
  case atStart => exact ⟨0, Nat.zero_le _, rfl, World.ownsRow_nil _ _ _ _, Below.refl _ _⟩
  case round =>
    obtain ⟨k, hk, rfl, ho, hbk⟩ := hrel
    have hbks := hbk.size
    by_cases hlt : k < x.size
    · have hi : (k : Int) < x.size := by omega
      have HX : Hid _ := nums_take x k hlt
      have h8 := x[k].toNat_lt
      have hcv := conv_u8 x[k]
      go_wp2_with (at_builtin; refine wpl_apps _ rfl (.tmp 32) (.tmp 37) 124 3 rfl i0 _ 8 Tryz.underlying124 hi0 hz0 hz1 hz2 rfl _ _ _ _ rfl ho (.int .i64 ((x[k].toNat : Nat) : Int)) _ rfl rfl rfl (by omega) (by unfold maxLen; omega) (by omega) ?_; intro v5 w5 hown5 hb5 hst5)
      have HO : Hid (w5.ownsRow w4.heap.size 3 1 v5 (k + 1) (icells (nums (x.data.toList.take (k + 1))))) := by
        show World.ownsRow _ _ _ _ _ _ _
        rw [← HX.out]
        exact hown5
      have HB : Hid (Below w4.heap.size w4 w5) := hbk.trans hb5
      clear hst5 hown5 hb5 ho
      go_wp2
      go_roundw
      case rel => exact ⟨k + 1, hlt, by go_num, HO.out, HB.out⟩
      case measure => simp [RowKit.intOf]; omega
    · have hk' : k = x.size := by omega
      subst hk'
      have hv5 : Hid (IsRow wr 1 u7 (nums x.data.toList).length (icells (nums x.data.toList))) := by
        have := IsRow.own ho
        rw [take_bytes] at this
        rw [nums_all]
        exact this
      have hb5 := hb4.trans (hbk.mono hs4)
      have hs5 := hb5.size
      clear ho hbk hbks hb4
      rename World => wo
      go_wp2_with fail
      go_loopw [8, 10] (fun t i wx => ∃ k : Nat, k ≤ y.size ∧ i = .int .i64 k ∧ wx.ownsRow wo.heap.size 3 1 t k (icells (nums (y.data.toList.take k))) ∧ Below wo.heap.size wo wx) (fun _ i _ => y.size - (RowKit.intOf i).toNat)
      case atStart => exact ⟨0, Nat.zero_le _, rfl, World.ownsRow_nil _ _ _ _, Below.refl _ _⟩
      case round =>
        obtain ⟨k, hk, rfl, ho, hbk⟩ := hrel
        have hbks := hbk.size
        by_cases hlt : k < y.size
        · have hi : (k : Int) < y.size := by omega
          have HX : Hid _ := nums_take y k hlt
          have h8 := y[k].toNat_lt
          have hcv := conv_u8 y[k]
          go_wp2_with (at_builtin; refine wpl_apps _ rfl (.tmp 45) (.tmp 50) 124 3 rfl i0 _ 8 Tryz.underlying124 hi0 hz0 hz1 hz2 rfl _ _ _ _ rfl ho (.int .i64 ((y[k].toNat : Nat) : Int)) _ rfl rfl rfl (by omega) (by unfold maxLen; omega) (by omega) ?_; intro v6 w6 hown6 hb6 hst6)
          have HO : Hid (w6.ownsRow wo.heap.size 3 1 v6 (k + 1) (icells (nums (y.data.toList.take (k + 1))))) := by
            show World.ownsRow _ _ _ _ _ _ _
            rw [← HX.out]
            exact hown6
          have HB : Hid (Below wo.heap.size wo w6) := hbk.trans hb6
          clear hst6 hown6 hb6 ho
          go_wp2
          go_roundw
          case rel => exact ⟨k + 1, hlt, by go_num, HO.out, HB.out⟩
          case measure => simp [RowKit.intOf]; omega
        · have hk' : k = y.size := by omega
          subst hk'
          have hv6 : IsRow wr 1 u8 (nums y.data.toList).length (icells (nums y.data.toList)) := by
            have := IsRow.own ho
            rw [take_bytes] at this
            rw [nums_all]
            exact this
          have hv5' := hv5.out.below hbk
          have hb6 := hb5.trans (hbk.mono hs5)
          have hll : (nums x.data.toList).length ≤ 1000000 := by rw [nums_all]; omega
          have hmm : (nums y.data.toList).length ≤ 1000000 := by rw [nums_all]; omega
          clear ho hbk hbks hb5 hv5
          generalize nums x.data.toList = l at *
          generalize nums y.data.toList = m at *
          obtain ⟨a1, cap1, rfl⟩ := hv5'.form
          obtain ⟨a2, cap2, rfl⟩ := hv6.form
          have h1 : Hid (IsRow wr 1 (.slice a1 l.length cap1) l.length (icells l)) := hv5'
          have h2 : Hid (IsRow wr 1 (.slice a2 m.length cap2) m.length (icells m)) := hv6
          clear hv5' hv6
          have hs6 := hb6.size
          rename World => wx
          go_wp2_with fail
          go_loopw [11] (fun i wr => ∃ k : Nat, k ≤ l.length ∧ k ≤ m.length ∧ i = .int .i64 k ∧ Hid (cmpR (l.drop k) (m.drop k) = C) ∧ Below wx.heap.size wx wr) (fun i _ => l.length - (RowKit.intOf i).toNat)
          case atStart => exact ⟨0, Nat.zero_le _, Nat.zero_le _, rfl, HC, Below.refl _ _⟩
          case round =>
            obtain ⟨k, hk1, hk2, rfl, hck, hbk⟩ := hrel
            by_cases hlt1 : k < l.length
            · have hd1 : decide ((k : Int) < l.length) = true := by simp; omega
              by_cases hlt2 : k < m.length
              · have hd2 : decide ((k : Int) < m.length) = true := by simp; omega
                obtain ⟨b1, off1, rfl, hbl1, c1⟩ := row_read (h1.out.below hbk) k hlt1
                obtain ⟨b2, off2, rfl, hbl2, c2⟩ := row_read (h2.out.below hbk) k hlt2
                have hi1 : (k : Int) < l.length := by omega
                have hi2 : (k : Int) < m.length := by omega
                have HK : Hid (cmpR (l[k] :: l.drop (k + 1)) (m[k] :: m.drop (k + 1)) = C) := by show _ = _; rw [← drop_at hlt1, ← drop_at hlt2]; exact hck.out
                clear hck
                by_cases hc1 : l[k] < m[k]
                · have hc1' : decide ((l[k] : Int) < (m[k] : Int)) = true := by simp; omega
                  have HR : Hid (-1 = C) := by show _ = _; rw [← HK.out, cmpR, if_pos hc1]
                  clear HK
                  go_wp2
                  go_region
                  all_goals go_wp2
                  all_goals go_ret
                  all_goals exact ⟨by rw [← HR.out]; rfl, hb6.trans ((hbk.drew).mono hs6)⟩
                · have hc1' : decide ((l[k] : Int) < (m[k] : Int)) = false := by simp; omega
                  by_cases hc2 : m[k] < l[k]
                  · have hc2' : decide ((m[k] : Int) < (l[k] : Int)) = true := by simp; omega
                    have HR : Hid (1 = C) := by show _ = _; rw [← HK.out, cmpR, if_neg hc1, if_pos hc2]
                    clear HK
                    go_wp2
                    go_region
                    all_goals go_wp2
                    all_goals go_region
                    all_goals go_wp2
                    all_goals go_ret
                    all_goals exact ⟨by rw [← HR.out]; rfl, hb6.trans ((hbk.drew.drew).mono hs6)⟩
                  · have hc2' : decide ((m[k] : Int) < (l[k] : Int)) = false := by simp; omega
                    have HR : Hid (cmpR (l.drop (k + 1)) (m.drop (k + 1)) = C) := by show _ = _; rw [← HK.out, cmpR, if_neg hc1, if_neg hc2]
                    clear HK
                    go_wp2
                    go_region
                    all_goals go_wp2
                    all_goals go_region
                    all_goals go_wp2
                    all_goals go_roundw
                    case rel => exact ⟨k + 1, hlt1, hlt2, by go_num, HR, hbk.drew.drew⟩
                    case measure => simp [RowKit.intOf]; omega
              · have hd2 : decide ((k : Int) < m.length) = false := by simp; omega
                have hk' : k = m.length := by omega
                have hm1 : ¬ (l.length : Int) < m.length := by omega
                have hm2 : (m.length : Int) < l.length := by omega
                have HR : Hid (1 = C) := by
                  show _ = _
                  rw [← hck.out, List.drop_of_length_le (l := m) (by omega), cmpR_nil_right _ (by rw [List.length_drop]; omega)]
                clear hck
                go_wp2
                go_ret
                exact ⟨by rw [← HR.out]; rfl, hb6.trans (hbk.mono hs6)⟩
            · have hd1 : decide ((k : Int) < l.length) = false := by simp; omega
              have hk' : k = l.length := by omega
              by_cases hlt2 : k < m.length
              · have hm1 : (l.length : Int) < m.length := by omega
                have HR : Hid (-1 = C) := by
                  show _ = _
                  rw [← hck.out, List.drop_of_length_le (l := l) (by omega), cmpR_nil_left _ (by rw [List.length_drop]; omega)]
                clear hck
                go_wp2
                go_ret
                exact ⟨by rw [← HR.out]; rfl, hb6.trans (hbk.mono hs6)⟩
              · have hm1 : ¬ (l.length : Int) < m.length := by omega
                have hm2 : ¬ (m.length : Int) < l.length := by omega
                have HR : Hid (0 = C) := by
                  show _ = _
                  rw [← hck.out, List.drop_of_length_le (l := l) (by omega), List.drop_of_length_le (l := m) (by omega)]
                  rfl
                clear hck
                go_wp2
                go_ret
                exact ⟨by rw [← HR.out]; rfl, hb6.trans (hbk.mono hs6)⟩

set_option maxRecDepth 100000 in
set_option maxHeartbeats 4000000 in
theorem refCompare_b (a b : ByteArray) (w : World) (ha : a.size ≤ 200000) (hb : b.size ≤ 200000) (va : Lib.validD a.data.toList = true) (vb : Lib.validD b.data.toList = false) :
    Calls Tryz.prog 68 #[.string a, .string b] w fun e w' => e = .returned (.int .i64 (cmpL a.data.toList b.data.toList)) ∧ Below w.heap.size w w' := by
  have hza := fold_size a
  have hzb := fold_size b
  have HV1 : Lib.validD (str (foldL a.data.toList)).data.toList = true := by rw [str_data, foldL_valid]; exact va
  have HV2 : Lib.validD (str (foldL b.data.toList)).data.toList = false := by rw [str_data, foldL_valid]; exact vb
  have HC : Hid (cmpR (nums (str (foldL a.data.toList)).data.toList) (nums (str (foldL b.data.toList)).data.toList) = cmpL a.data.toList b.data.toList) := by
    show _ = _
    rw [str_data, str_data, cmp_nums]
    rfl
  have HFa : Hid (∀ w, Calls Tryz.prog 94 #[.string a] w fun e w' => e = .returned (.string (str (foldL a.data.toList))) ∧ Below w.heap.size w w') := fun w => refFold_any a w (by omega)
  have HFb : Hid (∀ w, Calls Tryz.prog 94 #[.string b] w fun e w' => e = .returned (.string (str (foldL b.data.toList))) ∧ Below w.heap.size w w') := fun w => refFold_any b w (by omega)
  generalize cmpL a.data.toList b.data.toList = C at *
  generalize str (foldL a.data.toList) = x at *
  generalize str (foldL b.data.toList) = y at *
  go_enter Tryz.func68, Tryz.ntmps68
  go_wp2_with fail
  refine (HFa.out _).mono ?_
  rintro e w1 ⟨rfl, hb1⟩
  go_wp2_with fail
  refine (HFb.out _).mono ?_
  rintro e w2 ⟨rfl, hb2'⟩
  have hb2 := hb1.trans (hb2'.mono hb1.size)
  clear hb1 hb2' HFa HFb
  go_wp2_with fail
  refine (refValid_any x _ (by omega)).mono ?_
  rintro e w3 ⟨rfl, hb3'⟩
  rw [HV1]
  have hb3 := hb2.trans (hb3'.mono hb2.size)
  clear hb2 hb3'
  go_wp2_with fail
  refine (refValid_any y _ (by omega)).mono ?_
  rintro e w4 ⟨rfl, hb4'⟩
  rw [HV2]
  have hb4 := hb3.trans (hb4'.mono hb3.size)
  clear hb3 hb4' HV1 HV2
  obtain ⟨i0, hi0, hz0, hz1, hz2⟩ := info_parts info_int
  have hs4 := hb4.size
  go_wp2_with fail
  go_loopw [7, 9] (fun t i wr => ∃ k : Nat, k ≤ x.size ∧ i = .int .i64 k ∧ wr.ownsRow w4.heap.size 3 1 t k (icells (nums (x.data.toList.take k))) ∧ Below w4.heap.size w4 wr) (fun _ i _ => x.size - (RowKit.intOf i).toNat)
  case atStart => exact ⟨0, Nat.zero_le _, rfl, World.ownsRow_nil _ _ _ _, Below.refl _ _⟩
  case round =>
    obtain ⟨k, hk, rfl, ho, hbk⟩ := hrel
    have hbks := hbk.size
    by_cases hlt : k < x.size
    · have hi : (k : Int) < x.size := by omega
      have HX : Hid _ := nums_take x k hlt
      have h8 := x[k].toNat_lt
      have hcv := conv_u8 x[k]
      go_wp2_with (at_builtin; refine wpl_apps _ rfl (.tmp 32) (.tmp 37) 124 3 rfl i0 _ 8 Tryz.underlying124 hi0 hz0 hz1 hz2 rfl _ _ _ _ rfl ho (.int .i64 ((x[k].toNat : Nat) : Int)) _ rfl rfl rfl (by omega) (by unfold maxLen; omega) (by omega) ?_; intro v5 w5 hown5 hb5 hst5)
      have HO : Hid (w5.ownsRow w4.heap.size 3 1 v5 (k + 1) (icells (nums (x.data.toList.take (k + 1))))) := by
        show World.ownsRow _ _ _ _ _ _ _
        rw [← HX.out]
        exact hown5
      have HB : Hid (Below w4.heap.size w4 w5) := hbk.trans hb5
      clear hst5 hown5 hb5 ho
      go_wp2
      go_roundw
      case rel => exact ⟨k + 1, hlt, by go_num, HO.out, HB.out⟩
      case measure => simp [RowKit.intOf]; omega
    · have hk' : k = x.size := by omega
      subst hk'
      have hv5 : Hid (IsRow wr 1 u7 (nums x.data.toList).length (icells (nums x.data.toList))) := by
        have := IsRow.own ho
        rw [take_bytes] at this
        rw [nums_all]
        exact this
      have hb5 := hb4.trans (hbk.mono hs4)
      have hs5 := hb5.size
      clear ho hbk hbks hb4
      rename World => wo
      go_wp2_with fail
      go_loopw [8, 10] (fun t i wx => ∃ k : Nat, k ≤ y.size ∧ i = .int .i64 k ∧ wx.ownsRow wo.heap.size 3 1 t k (icells (nums (y.data.toList.take k))) ∧ Below wo.heap.size wo wx) (fun _ i _ => y.size - (RowKit.intOf i).toNat)
      case atStart => exact ⟨0, Nat.zero_le _, rfl, World.ownsRow_nil _ _ _ _, Below.refl _ _⟩
      case round =>
        obtain ⟨k, hk, rfl, ho, hbk⟩ := hrel
        have hbks := hbk.size
        by_cases hlt : k < y.size
        · have hi : (k : Int) < y.size := by omega
          have HX : Hid _ := nums_take y k hlt
          have h8 := y[k].toNat_lt
          have hcv := conv_u8 y[k]
          go_wp2_with (at_builtin; refine wpl_apps _ rfl (.tmp 45) (.tmp 50) 124 3 rfl i0 _ 8 Tryz.underlying124 hi0 hz0 hz1 hz2 rfl _ _ _ _ rfl ho (.int .i64 ((y[k].toNat : Nat) : Int)) _ rfl rfl rfl (by omega) (by unfold maxLen; omega) (by omega) ?_; intro v6 w6 hown6 hb6 hst6)
          have HO : Hid (w6.ownsRow wo.heap.size 3 1 v6 (k + 1) (icells (nums (y.data.toList.take (k + 1))))) := by
            show World.ownsRow _ _ _ _ _ _ _
            rw [← HX.out]
            exact hown6
          have HB : Hid (Below wo.heap.size wo w6) := hbk.trans hb6
          clear hst6 hown6 hb6 ho
          go_wp2
          go_roundw
          case rel => exact ⟨k + 1, hlt, by go_num, HO.out, HB.out⟩
          case measure => simp [RowKit.intOf]; omega
        · have hk' : k = y.size := by omega
          subst hk'
          have hv6 : IsRow wr 1 u8 (nums y.data.toList).length (icells (nums y.data.toList)) := by
            have := IsRow.own ho
            rw [take_bytes] at this
            rw [nums_all]
            exact this
          have hv5' := hv5.out.below hbk
          have hb6 := hb5.trans (hbk.mono hs5)
          have hll : (nums x.data.toList).length ≤ 1000000 := by rw [nums_all]; omega
          have hmm : (nums y.data.toList).length ≤ 1000000 := by rw [nums_all]; omega
          clear ho hbk hbks hb5 hv5
          generalize nums x.data.toList = l at *
          generalize nums y.data.toList = m at *
          obtain ⟨a1, cap1, rfl⟩ := hv5'.form
          obtain ⟨a2, cap2, rfl⟩ := hv6.form
          have h1 : Hid (IsRow wr 1 (.slice a1 l.length cap1) l.length (icells l)) := hv5'
          have h2 : Hid (IsRow wr 1 (.slice a2 m.length cap2) m.length (icells m)) := hv6
          clear hv5' hv6
          have hs6 := hb6.size
          rename World => wx
          go_wp2_with fail
          go_loopw [11] (fun i wr => ∃ k : Nat, k ≤ l.length ∧ k ≤ m.length ∧ i = .int .i64 k ∧ Hid (cmpR (l.drop k) (m.drop k) = C) ∧ Below wx.heap.size wx wr) (fun i _ => l.length - (RowKit.intOf i).toNat)
          case atStart => exact ⟨0, Nat.zero_le _, Nat.zero_le _, rfl, HC, Below.refl _ _⟩
          case round =>
            obtain ⟨k, hk1, hk2, rfl, hck, hbk⟩ := hrel
            by_cases hlt1 : k < l.length
            · have hd1 : decide ((k : Int) < l.length) = true := by simp; omega
              by_cases hlt2 : k < m.length
              · have hd2 : decide ((k : Int) < m.length) = true := by simp; omega
                obtain ⟨b1, off1, rfl, hbl1, c1⟩ := row_read (h1.out.below hbk) k hlt1
                obtain ⟨b2, off2, rfl, hbl2, c2⟩ := row_read (h2.out.below hbk) k hlt2
                have hi1 : (k : Int) < l.length := by omega
                have hi2 : (k : Int) < m.length := by omega
                have HK : Hid (cmpR (l[k] :: l.drop (k + 1)) (m[k] :: m.drop (k + 1)) = C) := by show _ = _; rw [← drop_at hlt1, ← drop_at hlt2]; exact hck.out
                clear hck
                by_cases hc1 : l[k] < m[k]
                · have hc1' : decide ((l[k] : Int) < (m[k] : Int)) = true := by simp; omega
                  have HR : Hid (-1 = C) := by show _ = _; rw [← HK.out, cmpR, if_pos hc1]
                  clear HK
                  go_wp2
                  go_region
                  all_goals go_wp2
                  all_goals go_ret
                  all_goals exact ⟨by rw [← HR.out]; rfl, hb6.trans ((hbk.drew).mono hs6)⟩
                · have hc1' : decide ((l[k] : Int) < (m[k] : Int)) = false := by simp; omega
                  by_cases hc2 : m[k] < l[k]
                  · have hc2' : decide ((m[k] : Int) < (l[k] : Int)) = true := by simp; omega
                    have HR : Hid (1 = C) := by show _ = _; rw [← HK.out, cmpR, if_neg hc1, if_pos hc2]
                    clear HK
                    go_wp2
                    go_region
                    all_goals go_wp2
                    all_goals go_region
                    all_goals go_wp2
                    all_goals go_ret
                    all_goals exact ⟨by rw [← HR.out]; rfl, hb6.trans ((hbk.drew.drew).mono hs6)⟩
                  · have hc2' : decide ((m[k] : Int) < (l[k] : Int)) = false := by simp; omega
                    have HR : Hid (cmpR (l.drop (k + 1)) (m.drop (k + 1)) = C) := by show _ = _; rw [← HK.out, cmpR, if_neg hc1, if_neg hc2]
                    clear HK
                    go_wp2
                    go_region
                    all_goals go_wp2
                    all_goals go_region
                    all_goals go_wp2
                    all_goals go_roundw
                    case rel => exact ⟨k + 1, hlt1, hlt2, by go_num, HR, hbk.drew.drew⟩
                    case measure => simp [RowKit.intOf]; omega
              · have hd2 : decide ((k : Int) < m.length) = false := by simp; omega
                have hk' : k = m.length := by omega
                have hm1 : ¬ (l.length : Int) < m.length := by omega
                have hm2 : (m.length : Int) < l.length := by omega
                have HR : Hid (1 = C) := by
                  show _ = _
                  rw [← hck.out, List.drop_of_length_le (l := m) (by omega), cmpR_nil_right _ (by rw [List.length_drop]; omega)]
                clear hck
                go_wp2
                go_ret
                exact ⟨by rw [← HR.out]; rfl, hb6.trans (hbk.mono hs6)⟩
            · have hd1 : decide ((k : Int) < l.length) = false := by simp; omega
              have hk' : k = l.length := by omega
              by_cases hlt2 : k < m.length
              · have hm1 : (l.length : Int) < m.length := by omega
                have HR : Hid (-1 = C) := by
                  show _ = _
                  rw [← hck.out, List.drop_of_length_le (l := l) (by omega), cmpR_nil_left _ (by rw [List.length_drop]; omega)]
                clear hck
                go_wp2
                go_ret
                exact ⟨by rw [← HR.out]; rfl, hb6.trans (hbk.mono hs6)⟩
              · have hm1 : ¬ (l.length : Int) < m.length := by omega
                have hm2 : ¬ (m.length : Int) < l.length := by omega
                have HR : Hid (0 = C) := by
                  show _ = _
                  rw [← hck.out, List.drop_of_length_le (l := l) (by omega), List.drop_of_length_le (l := m) (by omega)]
                  rfl
                clear hck
                go_wp2
                go_ret
                exact ⟨by rw [← HR.out]; rfl, hb6.trans (hbk.mono hs6)⟩

theorem refCompare_any (a b : ByteArray) (w : World) (ha : a.size ≤ 200000) (hb : b.size ≤ 200000) :
    Calls Tryz.prog 68 #[.string a, .string b] w fun e w' => e = .returned (.int .i64 (cmpL a.data.toList b.data.toList)) ∧ Below w.heap.size w w' := by
  by_cases va : Lib.validD a.data.toList = true
  · by_cases vb : Lib.validD b.data.toList = true
    · exact refCompare_valid a b w ha hb va vb
    · exact refCompare_b a b w ha hb va (by simpa using vb)
  · exact refCompare_a a b w ha hb (by simpa using va)
end Go.Proofs.YtacpllmlpmllbaaGreatDoor
/- The reference's Check of a value (VS over again beside the names), its Simple, same, may: walks. -/
namespace Go.Proofs.YtacpllmlpmllbaaGreatDoor
open Go.RowKit

set_option maxRecDepth 100000 in
set_option maxHeartbeats 2000000 in
theorem refVCheck_any (k n : Int) (s : ByteArray) (w : World) (hs : s.size ≤ 140737488355328) :
    Calls Tryz.prog 67 #[vv k n s] w fun e w' => e = .returned (.bool (chkV k n s)) ∧ Below w.heap.size w w' := by
  obtain ⟨C, HC⟩ : ∃ C, Hid (chkV k n s = C) := ⟨_, rfl⟩
  rw [HC.out]
  have hb1 : Below w.heap.size w (w.alloc (.cells #[.int .i64 k, .int .i64 n, .string s] 88)) := (Below.refl _ _).alloc (Nat.le_refl _) _
  by_cases e1 : k = 1
  · subst e1
    have hc := HC.out
    simp only [chkV, if_true] at hc
    by_cases ha : -9007199254740991 ≤ n
    · have ha' : decide (-9007199254740991 ≤ n) = true := by simpa using ha
      by_cases hb : n ≤ 9007199254740991
      · have hb' : decide (n ≤ 9007199254740991) = true := by simpa using hb
        by_cases h0 : s.size = 0
        · have he := empty_is s h0
          have HR : Hid (true = C) := by show _ = _; rw [← hc, h0]; simp [ha, hb]
          clear hc HC
          go_enter Tryz.func67, Tryz.ntmps67
          go_wp2
          go_ret
          exact ⟨by rw [← HR.out]; rfl, hb1⟩
        · have he := empty_not s h0
          have HR : Hid (false = C) := by show _ = _; rw [← hc]; simp [h0]
          clear hc HC
          go_enter Tryz.func67, Tryz.ntmps67
          go_wp2
          go_ret
          exact ⟨by rw [← HR.out]; rfl, hb1⟩
      · have hb' : decide (n ≤ 9007199254740991) = false := by simpa using hb
        have HR : Hid (false = C) := by show _ = _; rw [← hc]; simp [hb]
        clear hc HC
        go_enter Tryz.func67, Tryz.ntmps67
        go_wp2
        go_ret
        exact ⟨by rw [← HR.out]; rfl, hb1⟩
    · have ha' : decide (-9007199254740991 ≤ n) = false := by simpa using ha
      have HR : Hid (false = C) := by show _ = _; rw [← hc]; simp [ha]
      clear hc HC
      go_enter Tryz.func67, Tryz.ntmps67
      go_wp2
      go_ret
      exact ⟨by rw [← HR.out]; rfl, hb1⟩
  have f1 : (k == 1) = false := by rw [beq_eq_false_iff_ne]; exact e1
  by_cases e2 : k = 2
  · subst e2
    have hc := HC.out
    simp only [chkV, e1, if_false, if_true] at hc
    by_cases h0 : n = 0
    · subst h0
      by_cases h2 : s.size ≤ 200
      · have h2' : decide ((s.size : Int) ≤ 200) = true := by simp; omega
        have HR : Hid (Lib.validD s.data.toList = C) := by show _ = _; rw [← hc]; simp [h2]
        clear hc HC e1
        go_enter Tryz.func67, Tryz.ntmps67
        go_wp2_with fail
        refine (refValid_any s _ (by omega)).mono ?_
        rintro e w1 ⟨rfl, hb2⟩
        rw [HR.out]
        have hb3 : Hid (Below w.heap.size w w1) := hb1.trans (hb2.mono hb1.size)
        clear hb1 hb2
        go_wp2
        go_ret
        exact ⟨rfl, hb3.out⟩
      · have h2' : decide ((s.size : Int) ≤ 200) = false := by simp; omega
        have HR : Hid (false = C) := by show _ = _; rw [← hc]; simp [h2]
        clear hc HC e1
        go_enter Tryz.func67, Tryz.ntmps67
        go_wp2
        go_ret
        exact ⟨by rw [← HR.out]; rfl, hb1⟩
    · have h0' : (n == 0) = false := by rw [beq_eq_false_iff_ne]; exact h0
      have HR : Hid (false = C) := by show _ = _; rw [← hc]; simp [h0]
      clear hc HC e1
      go_enter Tryz.func67, Tryz.ntmps67
      go_wp2
      go_ret
      exact ⟨by rw [← HR.out]; rfl, hb1⟩
  have f2 : (k == 2) = false := by rw [beq_eq_false_iff_ne]; exact e2
  by_cases e3 : k = 3
  · subst e3
    have hc := HC.out
    simp only [chkV, e1, e2, if_false, if_true] at hc
    by_cases hn : n = 0
    · subst hn
      by_cases h0 : s.size = 0
      · have he := empty_is s h0
        have HR : Hid (true = C) := by show _ = _; rw [← hc, h0]; simp
        clear hc HC e1 e2
        go_enter Tryz.func67, Tryz.ntmps67
        go_wp2
        go_ret
        exact ⟨by rw [← HR.out]; rfl, hb1⟩
      · have he := empty_not s h0
        have HR : Hid (false = C) := by show _ = _; rw [← hc]; simp [h0]
        clear hc HC e1 e2
        go_enter Tryz.func67, Tryz.ntmps67
        go_wp2
        go_ret
        exact ⟨by rw [← HR.out]; rfl, hb1⟩
    · have hn' : (n == 0) = false := by rw [beq_eq_false_iff_ne]; exact hn
      by_cases h1 : n = 1
      · subst h1
        by_cases h0 : s.size = 0
        · have he := empty_is s h0
          have HR : Hid (true = C) := by show _ = _; rw [← hc, h0]; simp
          clear hc HC e1 e2
          go_enter Tryz.func67, Tryz.ntmps67
          go_wp2
          go_ret
          exact ⟨by rw [← HR.out]; rfl, hb1⟩
        · have he := empty_not s h0
          have HR : Hid (false = C) := by show _ = _; rw [← hc]; simp [h0]
          clear hc HC e1 e2
          go_enter Tryz.func67, Tryz.ntmps67
          go_wp2
          go_ret
          exact ⟨by rw [← HR.out]; rfl, hb1⟩
      · have h1' : (n == 1) = false := by rw [beq_eq_false_iff_ne]; exact h1
        have HR : Hid (false = C) := by show _ = _; rw [← hc]; simp [hn, h1]
        clear hc HC e1 e2
        go_enter Tryz.func67, Tryz.ntmps67
        go_wp2
        go_ret
        exact ⟨by rw [← HR.out]; rfl, hb1⟩
  have f3 : (k == 3) = false := by rw [beq_eq_false_iff_ne]; exact e3
  by_cases e4 : k = 4
  · subst e4
    have hc := HC.out
    simp only [chkV, e1, e2, e3, if_false, if_true] at hc
    by_cases h0 : n = 0
    · subst h0
      have HR : Hid (decide (s.size ≤ 200) = C) := by show _ = _; rw [← hc]; simp
      have HQ : Hid (decide ((s.size : Int) ≤ 200) = decide (s.size ≤ 200)) := by show _ = _; rw [Bool.eq_iff_iff]; simp; omega
      clear hc HC e1 e2 e3
      go_enter Tryz.func67, Tryz.ntmps67
      go_wp2
      go_ret
      exact ⟨by rw [← HR.out]; first | rfl | (rw [← HQ.out]; rfl), hb1⟩
    · have h0' : (n == 0) = false := by rw [beq_eq_false_iff_ne]; exact h0
      have HR : Hid (false = C) := by show _ = _; rw [← hc]; simp [h0]
      clear hc HC e1 e2 e3
      go_enter Tryz.func67, Tryz.ntmps67
      go_wp2
      go_ret
      exact ⟨by rw [← HR.out]; rfl, hb1⟩
  have f4 : (k == 4) = false := by rw [beq_eq_false_iff_ne]; exact e4
  have HR : Hid (false = C) := by show _ = _; rw [← HC.out, chkV, if_neg e1, if_neg e2, if_neg e3, if_neg e4]
  clear HC e1 e2 e3 e4
  go_enter Tryz.func67, Tryz.ntmps67
  go_wp2
  go_ret
  exact ⟨by rw [← HR.out]; rfl, hb1⟩

theorem results_r1 {fn : Func} {p : Tmp} (h : fn.results = #[.cell p 88]) (tmps : Array Value) (W : World) (b : Nat) (hp : tmps.getD p undef = .pointer (some ⟨b, 0, none⟩)) {k n : Int} {s : ByteArray} (c0 : W.cell? ⟨b, 0, none⟩ = some (.int .i64 k)) (c1 : W.cell? ⟨b, 1, none⟩ = some (.int .i64 n)) (c2 : W.cell? ⟨b, 2, none⟩ = some (.string s)) :
    (results fn tmps).run Tryz.prog W = .ok (vv k n s) W := by
  have e1 : (results fn tmps).run Tryz.prog W = ((asAddr (tmps.getD p undef)).run Tryz.prog W).andThen fun a w₁ => (loadVar 88 a).run Tryz.prog w₁ := by
    simp only [results, h]
    simp [Sem.run_bind, Result.andThen]
  rw [e1, hp]
  have e : (asAddr (.pointer (some ⟨b, 0, none⟩))).run Tryz.prog W = .ok ⟨b, 0, none⟩ W := rfl
  rw [e]
  simp only [Result.andThen]
  go_simp
set_option maxRecDepth 100000 in
theorem refSimple_any (s : ByteArray) (w : World) (hs : s.size ≤ 900000) :
    Calls Tryz.prog 66 #[.string s] w fun e w' => e = .returned (.bool (oneP s)) ∧ Below w.heap.size w w' := by
  have HC : Hid (Calls Tryz.prog 45 #[.string s] w fun e w' => e = .returned (.int .i64 (checkL s.data.toList)) ∧ Below w.heap.size w w') := refCheck_any s w hs
  by_cases hc : checkL s.data.toList = 0
  · have e0 : oneP s = decide ((cutB s.data.toList).length = 1) := by unfold oneP; rw [decide_eq_true hc, Bool.true_and]
    rw [e0]
    have HP : Hid (∀ w', Calls Tryz.prog 115 #[.string s] w' fun e w'' => PaPost (cutB s.data.toList) w' e w'') := fun w' => refParts_ok s w' hs hc
    rw [hc] at HC
    clear e0 hc
    generalize cutB s.data.toList = L at *
    go_enter Tryz.func66, Tryz.ntmps66
    go_wp2_with fail
    refine HC.out.mono ?_
    rintro e w1 ⟨rfl, hb⟩
    have HB : Hid (Below w.heap.size w w1) := hb
    clear hb
    go_wp2_with fail
    refine (HP.out w1).mono ?_
    rintro e w2 ⟨v, rfl, hr, hb⟩
    obtain ⟨a, cap, rfl⟩ := hr.form
    have HB2 : Hid (Below w.heap.size w w2) := HB.out.trans (hb.mono HB.out.size)
    have HE : Hid (((L.length : Int) == 1) = decide (L.length = 1)) := by show _ = _; rw [Bool.eq_iff_iff]; simp; omega
    clear hr hb
    go_wp2
    go_ret
    exact ⟨by rw [← HE.out]; rfl, HB2.out⟩
  · have e0 : oneP s = false := by unfold oneP; rw [decide_eq_false hc, Bool.false_and]
    rw [e0]
    have dn : (checkL s.data.toList == 0) = false := by rw [beq_eq_false_iff_ne]; exact hc
    generalize checkL s.data.toList = c at *
    clear hc e0
    go_enter Tryz.func66, Tryz.ntmps66
    go_wp2_with fail
    refine HC.out.mono ?_
    rintro e w1 ⟨rfl, hb⟩
    have HB : Hid (Below w.heap.size w w1) := hb
    clear hb
    go_wp2
    go_ret
    exact ⟨rfl, HB.out⟩
theorem eq_str (A B : List UInt8) : ((str A).toList == (str B).toList) = decide (A = B) := by
  rw [ByteArray.toList_eq, ByteArray.toList_eq, str_data, str_data, Bool.eq_iff_iff]; simp
set_option maxRecDepth 100000 in
theorem refSameN_any (a b : ByteArray) (w : World) (ha : a.size ≤ 1000000) (hb : b.size ≤ 1000000) :
    Calls Tryz.prog 116 #[.string a, .string b] w fun e w' => e = .returned (.bool (sameL a.data.toList b.data.toList)) ∧ Below w.heap.size w w' := by
  have HE : Hid (((str (foldL a.data.toList)).toList == (str (foldL b.data.toList)).toList) = sameL a.data.toList b.data.toList) := eq_str _ _
  have HA : Hid (Calls Tryz.prog 94 #[.string a] w fun e w' => e = .returned (.string (str (foldL a.data.toList))) ∧ Below w.heap.size w w') := refFold_any a w ha
  have HB : Hid (∀ w', Calls Tryz.prog 94 #[.string b] w' fun e w'' => e = .returned (.string (str (foldL b.data.toList))) ∧ Below w'.heap.size w' w'') := fun w' => refFold_any b w' hb
  generalize str (foldL a.data.toList) = A at *
  generalize str (foldL b.data.toList) = B at *
  generalize sameL a.data.toList b.data.toList = r at *
  go_enter Tryz.func116, Tryz.ntmps116
  go_wp2_with fail
  refine HA.out.mono ?_
  rintro e w1 ⟨rfl, h1⟩
  have H1 : Hid (Below w.heap.size w w1) := h1
  clear h1
  go_wp2_with fail
  refine (HB.out w1).mono ?_
  rintro e w2 ⟨rfl, h2⟩
  have H2 : Hid (Below w.heap.size w w2) := H1.out.trans (h2.mono H1.out.size)
  clear h2
  go_wp2
  go_ret
  exact ⟨by rw [← HE.out]; rfl, H2.out⟩
end Go.Proofs.YtacpllmlpmllbaaGreatDoor
/- The reference's Check of fields, its Find: walks. -/
namespace Go.Proofs.YtacpllmlpmllbaaGreatDoor
open Go.RowKit

/-- A field and the one ahead of it, where they lie. -/
def CR (b o o2 : Nat) (x y : Fd) (w0 w : World) : Prop := (w.cell? ⟨b, o, none⟩ = some (.string x.n) ∧ w.cell? ⟨b, o + 1, none⟩ = some (.int .i64 x.k) ∧ w.cell? ⟨b, o + 2, none⟩ = some (.bool x.m) ∧ w.cell? ⟨b, o2, none⟩ = some (.string y.n)) ∧ b < w.heap.size ∧ Below w0.heap.size w0 w
theorem CR_call {b o o2 : Nat} {x y : Fd} {w0 W w' : World} (hb : Below W.heap.size W w') (h : CR b o o2 x y w0 W) : CR b o o2 x y w0 w' := by
  obtain ⟨⟨c0, c1, c2, c3⟩, l, B⟩ := h
  exact ⟨⟨(hb.cell (p := ⟨b, o, none⟩) l).trans c0, (hb.cell (p := ⟨b, o + 1, none⟩) l).trans c1, (hb.cell (p := ⟨b, o + 2, none⟩) l).trans c2, (hb.cell (p := ⟨b, o2, none⟩) l).trans c3⟩, Nat.lt_of_lt_of_le l hb.size, B.trans (hb.mono B.size)⟩
theorem CR_drew {b o o2 : Nat} {x y : Fd} {w0 W : World} (h : CR b o o2 x y w0 W) : CR b o o2 x y w0 W.drew := CR_call (Below.refl _ _).drew h
def NmR (l : List Fd) : Prop := ∀ x ∈ l, x.n.size ≤ 200000
theorem allF (l : List Fd) (h : ∀ (k : Nat) (h : k < l.length), okF l k h) : chkF l = decide (l.length ≤ 24) := by unfold chkF; rw [decide_eq_true h, Bool.and_true]
/-- The place of the first field of a name; below 0: none. -/
def FiR (l : List Fd) (s : ByteArray) (r : Int) : Prop := (∃ (k : Nat) (h : k < l.length), r = k ∧ getF l s = some l[k]) ∨ (r = -1 ∧ getF l s = none)
set_option maxRecDepth 100000 in
set_option maxHeartbeats 1000000 in
theorem refFindF_any (v : Value) (l : List Fd) (s : ByteArray) (w : World) (hr : IsRow w 3 v l.length (fCells l)) (hl : l.length ≤ 1000000) (hn : NmR l) (hs : s.size ≤ 200000) :
    Calls Tryz.prog 70 #[v, .string s] w fun e w' => ∃ r, e = .returned (.int .i64 r) ∧ FiR l s r ∧ Below w.heap.size w w' := by
  obtain ⟨a0, cap0, rfl⟩ := hr.form
  have HR : Hid (IsRow w 3 (.slice a0 l.length cap0) l.length (fCells l)) := hr
  have HS : Hid (∀ (k : Nat) (h : k < l.length) (w' : World), Calls Tryz.prog 116 #[.string l[k].n, .string s] w' fun e w'' => e = .returned (.bool (sameL l[k].n.data.toList s.data.toList)) ∧ Below w'.heap.size w' w'') := fun k h w' => refSameN_any _ _ w' (by have := hn _ (List.getElem_mem h); omega) (by omega)
  clear hr hn
  go_enter Tryz.func70, Tryz.ntmps70
  go_wp2_with fail
  go_loopw [4, 5] (fun r i wr => r = .int .i64 0 ∧ ∃ k : Nat, k ≤ l.length ∧ i = .int .i64 (k : Int) ∧ Hid (∀ (j : Nat) (h : j < l.length), j < k → sameL l[j].n.data.toList s.data.toList = false) ∧ Below w.heap.size w wr) (fun _ i _ => l.length - (intOf i).toNat)
  case atStart => exact ⟨rfl, 0, Nat.zero_le _, rfl, fun j h hj => absurd hj (Nat.not_lt_zero _), Below.refl _ _⟩
  case round =>
    obtain ⟨rfl, k, hk, rfl, HO, hB⟩ := hrel
    by_cases hlk : k < l.length
    · have dk : decide ((k : Int) < l.length) = true := by simp; omega
      obtain ⟨b, off, rfl, hlt, hcap, hc⟩ := f_at (HR.out.below hB) (by omega)
      obtain ⟨ck0, -, -⟩ := hc k hlk
      have HSk : Hid (Calls Tryz.prog 116 #[.string l[k].n, .string s] wr fun e w'' => e = .returned (.bool (sameL l[k].n.data.toList s.data.toList)) ∧ Below wr.heap.size wr w'') := HS.out k hlk wr
      have HB : Hid (Below w.heap.size w wr) := hB
      cases hsm : sameL l[k].n.data.toList s.data.toList with
      | true =>
        have HY : Hid (FiR l s k) := .inl ⟨k, hlk, rfl, getF_at hlk HO.out hsm⟩
        rw [hsm] at HSk
        generalize l[k].n = nm at *
        clear hc HO hsm hB
        go_wp2_with fail
        refine HSk.out.mono ?_
        rintro e w1 ⟨rfl, hb⟩
        have HB1 : Hid (Below w.heap.size w w1) := HB.out.trans (hb.mono HB.out.size)
        clear hb
        go_wp2
        go_ret
        exact ⟨_, rfl, HY.out, HB1.out⟩
      | false =>
        have HO2 : Hid (∀ (j : Nat) (h : j < l.length), j < k + 1 → sameL l[j].n.data.toList s.data.toList = false) := fun j h hj => by
          by_cases e : j = k
          · subst e; exact hsm
          · exact HO.out j h (by omega)
        rw [hsm] at HSk
        generalize l[k].n = nm at *
        clear hc HO hsm hB
        go_wp2_with fail
        refine HSk.out.mono ?_
        rintro e w1 ⟨rfl, hb⟩
        have HB1 : Hid (Below w.heap.size w w1) := HB.out.trans (hb.mono HB.out.size)
        clear hb
        go_wp2
        go_roundw
        case rel => exact ⟨rfl, k + 1, by omega, by simp, HO2, HB1.out⟩
        case measure => simp [intOf]; omega
    · have hk' : k = l.length := by omega
      subst hk'
      have dk : decide ((l.length : Int) < l.length) = false := by simp
      have HY : Hid (FiR l s (-1)) := .inr ⟨rfl, getF_no fun j hj => HO.out j hj hj⟩
      clear HO
      have HBB : Hid (Below w.heap.size w wr) := hB
      clear hB
      go_wp2
      go_ret
      exact ⟨_, rfl, HY.out, HBB.out⟩
end Go.Proofs.YtacpllmlpmllbaaGreatDoor
/- What fits a type fits its parent; the reference's Check plainly: mathematics. -/
namespace Go.Proofs.YtacpllmlpmllbaaGreatDoor
open Go.RowKit

theorem chkF_all {t : Ty} (h : chkT t = true) : chkF t.all = true := by
  obtain ⟨-, -, -, -, hr⟩ := (chkT_iff t).1 h
  unfold chkR at hr
  simp only [Bool.and_eq_true] at hr
  exact hr.2.2.1
theorem fits_less {t o : List Fd} {x : List At} (ht : chkF t = true) (ho : chkF o = true) (hsub : ∀ f ∈ o, f ∈ t) (hn : ∀ y ∈ x, getF o y.n ≠ none) (hf : fitsL t x = 0) : fitsL o x = 0 := by
  unfold fitsL at hf ⊢
  by_cases hc : chkF t = true ∧ chkA x = true
  rotate_left
  · rw [if_neg hc] at hf; exact absurd hf (by decide)
  rw [if_pos hc] at hf
  rw [if_pos ⟨ho, hc.2⟩]
  by_cases h1 : fit1 t x = 0
  rotate_left
  · rw [if_neg h1] at hf; exact absurd hf h1
  rw [if_pos h1] at hf
  have h1' := (fit1_iff t x).1 h1
  have h2' := (fit2_iff x t).1 hf
  have g1 : fit1 o x = 0 := (fit1_iff o x).2 fun y hy => by
    cases hg : getF o y.n with
    | none => exact absurd hg (hn y hy)
    | some f =>
      obtain ⟨f', hf', hk⟩ := h1' y hy
      obtain ⟨m1, s1⟩ := getF_mem hg
      obtain ⟨m2, s2⟩ := getF_mem hf'
      have : f = f' := pair_ne (chk_sorted ht) (hsub f m1) m2 (by
        simp only [sameL, decide_eq_true_eq] at s1 s2 ⊢
        rw [s1, s2])
      subst this
      exact ⟨f, rfl, hk⟩
  rw [if_pos g1]
  exact (fit2_iff x o).2 fun f hf hm => h2' f (hsub f hf) hm
theorem par_sub {l : List Ty} (hi : isB l = true) {t o : Ty} (ht : t ∈ l) (h : parN l t.p = some o) : o ∈ l ∧ chkT o = true ∧ chkF t.all = true ∧ chkF o.all = true ∧ ∀ f ∈ o.all, f ∈ t.all := by
  obtain ⟨-, hc, -, hp⟩ := (isB_iff l).1 hi
  have ho := (parN_some h).1
  refine ⟨ho, hc o ho, chkF_all (hc t ht), chkF_all (hc o ho), ?_⟩
  have h0 := hp t ht
  unfold parB at h0
  rw [h] at h0
  simp only [Bool.or_eq_true, decide_eq_true_eq] at h0
  rcases h0 with h0 | h0
  · exfalso
    have e : t.p.data.toList = [] := List.length_eq_zero_iff.1 (by simpa using h0)
    have hs : sameL o.n.data.toList t.p.data.toList = true := by
      have := List.find?_some h
      exact this
    rw [e] at hs
    simp only [sameL, decide_eq_true_eq] at hs
    have h1 := foldL_check o.n.data.toList
    rw [hs, foldL_check, chkT_name (hc o ho)] at h1
    exact checkL_nil h1
  · exact (bel_chain (hc t ht) h0).2
/-- What the reference asks of a type's names and fields. -/
theorem chkT_ref (t : Ty) : chkT t = true ↔ chkF t.own = true ∧ chkF t.all = true ∧ idB t.nd t.lf t.sq = true ∧ 1 ≤ t.ch.length ∧ t.ch.length ≤ 8 ∧ t.ch[0]? = some t.n ∧ (∀ (k : Nat) (h : k < t.ch.length), checkL t.ch[k].data.toList = 0 ∧ ((t.ch.take k).any fun u => sameL u.data.toList t.ch[k].data.toList) = false) ∧ (if t.ch.length = 1 then t.p.size = 0 ∧ sameR t.own t.all = true else t.ch[1]? = some t.p ∧ withinL t.own t.all = true) := by
  rw [chkT_iff]
  unfold chkR
  simp only [Bool.and_eq_true]
  have key : ((∀ s ∈ t.ch, checkL s.data.toList = 0) ∧ (t.ch.map fun s => foldL s.data.toList).Nodup) ↔ ∀ (k : Nat) (h : k < t.ch.length), checkL t.ch[k].data.toList = 0 ∧ ((t.ch.take k).any fun u => sameL u.data.toList t.ch[k].data.toList) = false := by
    constructor
    · rintro ⟨h1, h2⟩ k hk
      refine ⟨h1 _ (List.getElem_mem hk), ?_⟩
      rw [List.any_eq_false]
      intro u hu hs
      obtain ⟨i, hi, rfl⟩ := List.mem_iff_getElem.1 hu
      rw [List.length_take] at hi
      simp only [List.getElem_take] at hs
      have := List.pairwise_iff_getElem.1 h2 i k (by simp; omega) (by simpa using hk) (by omega)
      apply this
      simp only [List.getElem_map]
      simpa [sameL] using hs
    · intro h
      refine ⟨fun s hs => ?_, ?_⟩
      · obtain ⟨i, hi, rfl⟩ := List.mem_iff_getElem.1 hs
        exact (h i hi).1
      · refine List.pairwise_iff_getElem.2 fun i j hi hj hij he => ?_
        have hj' : j < t.ch.length := by simpa using hj
        have hi' : i < t.ch.length := by simpa using hi
        have h2 := (h j hj').2
        rw [List.any_eq_false] at h2
        refine h2 t.ch[i] (List.mem_iff_getElem.2 ⟨i, by rw [List.length_take]; omega, by simp⟩) ?_
        simp only [List.getElem_map] at he
        simpa [sameL] using he
  rw [key]
  by_cases hl : t.ch.length = 1
  · rw [if_pos hl, if_pos hl]
    simp only [Bool.and_eq_true, decide_eq_true_eq]
    have e : sameR t.all t.own = true ↔ sameR t.own t.all = true := by
      rw [sameR_iff, sameR_iff]; exact eq_comm
    rw [e]
    constructor
    · rintro ⟨a, b, c, d, f, g, h, i, j⟩; exact ⟨g, h, f, a, b, c, d, i, j⟩
    · rintro ⟨g, h, f, a, b, c, d, i, j⟩; exact ⟨a, b, c, d, f, g, h, i, j⟩
  · rw [if_neg hl, if_neg hl]
    simp only [Bool.and_eq_true, decide_eq_true_eq]
    constructor
    · rintro ⟨a, b, c, d, f, g, h, i, j⟩; exact ⟨g, h, f, a, b, c, d, i, j⟩
    · rintro ⟨g, h, f, a, b, c, d, i, j⟩; exact ⟨a, b, c, d, f, g, h, i, j⟩
/-- The reference's Within plainly. -/
def rwE (a : List Fd) (x : Fd) : Bool := match getF a x.n with
  | none => false
  | some f => decide (f.k = x.k) && decide (f.m = x.m)
def rwL (b a : List Fd) : Bool := b.all (rwE a)
theorem sameL_comm (a b : List UInt8) : sameL a b = sameL b a := by
  unfold sameL
  exact decide_eq_decide.2 eq_comm
theorem rwL_eq {b a : List Fd} (h : chkF a = true) : rwL b a = withinL b a := by
  unfold rwL withinL
  congr 1
  funext x
  unfold rwE isInL
  cases hg : getF a x.n with
  | none =>
    symm
    show a.any (sameF x) = false
    rw [List.any_eq_false]
    intro y hy hs
    have := List.find?_eq_none.1 hg y hy
    unfold sameF at hs
    simp only [Bool.and_eq_true] at hs
    rw [sameL_comm, hs.2.2] at this
    exact this rfl
  | some f =>
    obtain ⟨m1, s1⟩ := getF_mem hg
    show (decide (f.k = x.k) && decide (f.m = x.m)) = a.any (sameF x)
    rw [Bool.eq_iff_iff, List.any_eq_true]
    simp only [Bool.and_eq_true, decide_eq_true_eq]
    constructor
    · rintro ⟨h1, h2⟩
      refine ⟨f, m1, ?_⟩
      unfold sameF
      rw [h1, h2, sameL_comm, s1]
      simp
    · rintro ⟨y, hy, hs⟩
      unfold sameF at hs
      simp only [Bool.and_eq_true, decide_eq_true_eq] at hs
      have : f = y := pair_ne (chk_sorted h) m1 hy (by
        simp only [sameL, decide_eq_true_eq] at s1 hs ⊢
        rw [s1, hs.2.2])
      subst this
      exact ⟨hs.1.symm, hs.2.1.symm⟩
end Go.Proofs.YtacpllmlpmllbaaGreatDoor
