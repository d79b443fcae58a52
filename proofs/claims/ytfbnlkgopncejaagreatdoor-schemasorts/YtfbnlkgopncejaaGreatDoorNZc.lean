/- The reference's Compare and Under: walks. -/
import Derived.Test.YtfbnlkgopncejaaGreatDoorNZ
import Derived.Test.YtfbnlkgopncejaaGreatDoorNDc
import Derived.Test.YtfbnlkgopncejaaGreatDoorNSm
namespace Go.Proofs.YtfbnlkgopncejaaGreatDoor
open Go.RowKit

def nums (l : List UInt8) : List Nat := l.map (·.toNat)
theorem cmp_nums : ∀ (a b : List UInt8), cmpR (nums a) (nums b) = Lib.compareBytes a b
  | [], [] => rfl
  | [], b :: l => rfl
  | a :: k, [] => rfl
  | a :: k, b :: l => by
    have ih := cmp_nums k l
    unfold nums at ih ⊢
    simp only [List.map_cons, cmpR, Lib.compareBytes, ih, UInt8.lt_iff_toNat_lt]
theorem cmpR_nil_left (m : List Nat) (h : 0 < m.length) : cmpR [] m = -1 := by
  cases m with
  | nil => simp at h
  | cons => rfl
theorem cmpR_nil_right (m : List Nat) (h : 0 < m.length) : cmpR m [] = 1 := by
  cases m with
  | nil => simp at h
  | cons => rfl
theorem nums_take (s : ByteArray) (k : Nat) (h : k < s.size) : icells (nums (s.data.toList.take k)) ++ [Value.int .i64 ((s[k].toNat : Nat) : Int)] = icells (nums (s.data.toList.take (k + 1))) := by
  rw [take_byte s k h]
  simp [icells, nums]
theorem nums_len (s : ByteArray) (k : Nat) (h : k ≤ s.size) : (nums (s.data.toList.take k)).length = k := by
  unfold nums
  rw [List.length_map, List.length_take, Array.length_toList]
  have : s.data.size = s.size := rfl
  omega

/-- What the last loop of Compare leaves, of two rows. -/
def CmPost (l m : List Nat) (w : World) (e : Ending) (w' : World) : Prop := e = .returned (.int .i64 (cmpR l m)) ∧ Below w.heap.size w w'
theorem row_read {w : World} {a : Option Addr} {cap : Nat} {l : List Nat} (h : IsRow w 1 (.slice a l.length cap) l.length (icells l)) (i : Nat) (hi : i < l.length) :
    ∃ b off, a = some ⟨b, off, none⟩ ∧ b < w.heap.size ∧ w.cell? ⟨b, off + i, none⟩ = some (.int .i64 ((l[i]'hi : Nat) : Int)) := by
  obtain ⟨b, off, cap', hv, hlt, hc⟩ := ints_row h i hi
  simp only [Value.slice.injEq] at hv
  exact ⟨b, off, hv.1, hlt, hc⟩

theorem conv_u8 (b : UInt8) : IntKind.i64.wrap (b.toNat : Int) = ((b.toNat : Nat) : Int) := by
  have := b.toNat_lt
  rw [IntKind.wrap_i64]
  omega
theorem nums_all (s : ByteArray) : (nums s.data.toList).length = s.size := by
  unfold nums
  rw [List.length_map, Array.length_toList]
  rfl
set_option maxRecDepth 100000 in
set_option maxHeartbeats 4000000 in
theorem refCompare_valid (a b : ByteArray) (w : World) (ha : a.size ≤ 200000) (hb : b.size ≤ 200000) (va : Lib.validD a.data.toList = true) (vb : Lib.validD b.data.toList = true) :
    Calls Tryz.prog 23 #[.string a, .string b] w fun e w' => e = .returned (.int .i64 (cmpL a.data.toList b.data.toList)) ∧ Below w.heap.size w w' := by
  have hza := fold_size a
  have hzb := fold_size b
  have HV1 : Lib.validD (str (foldL a.data.toList)).data.toList = true := by rw [str_data, foldL_valid]; exact va
  have HV2 : Lib.validD (str (foldL b.data.toList)).data.toList = true := by rw [str_data, foldL_valid]; exact vb
  have hl1 := rns_le (str (foldL a.data.toList))
  have hl2 := rns_le (str (foldL b.data.toList))
  have HC : Hid (cmpR (rns (str (foldL a.data.toList)).data.toList) (rns (str (foldL b.data.toList)).data.toList) = cmpL a.data.toList b.data.toList) := by
    show _ = _
    rw [str_data, str_data, foldL_rns va, foldL_rns vb]
    exact cmpL_runes va vb
  have HFa : Hid (∀ w, Calls Tryz.prog 35 #[.string a] w fun e w' => e = .returned (.string (str (foldL a.data.toList))) ∧ Below w.heap.size w w') := fun w => refFold_any a w (by omega)
  have HFb : Hid (∀ w, Calls Tryz.prog 35 #[.string b] w fun e w' => e = .returned (.string (str (foldL b.data.toList))) ∧ Below w.heap.size w w') := fun w => refFold_any b w (by omega)
  generalize cmpL a.data.toList b.data.toList = C at *
  generalize str (foldL a.data.toList) = x at *
  generalize str (foldL b.data.toList) = y at *
  go_enter Tryz.func23, Tryz.ntmps23
  go_wp2_with fail
  refine (HFa.out _).mono ?_
  rintro e w1 ⟨rfl, hb1⟩
  go_wp2_with fail
  refine (HFb.out _).mono ?_
  rintro e w2 ⟨rfl, hb2'⟩
  have hb2 := hb1.trans (hb2'.mono hb1.size)
  clear hb1 hb2'
  go_wp2_with fail
  refine (refValid_any x _ (by omega)).mono ?_
  rintro e w3 ⟨rfl, hb3'⟩
  rw [HV1]
  have hb3 := hb2.trans (hb3'.mono hb2.size)
  clear hb2 hb3'
  go_wp2_with fail
  refine (refValid_any y _ (by omega)).mono ?_
  rintro e w4 ⟨rfl, hb4'⟩
  rw [HV2]
  have hb4 := hb3.trans (hb4'.mono hb3.size)
  clear hb3 hb4'
  go_wp2_with fail
  refine (refRunes_any x _ (by omega) HV1).mono ?_
  rintro e w5 ⟨v5, rfl, hv5, hb5'⟩
  have hb5 := hb4.trans (hb5'.mono hb4.size)
  clear hb4 hb5'
  go_wp2_with fail
  refine (refRunes_any y _ (by omega) HV2).mono ?_
  rintro e w6 ⟨v6, rfl, hv6, hb6'⟩
  have hb6 := hb5.trans (hb6'.mono hb5.size)
  have hv5' := hv5.below hb6'
  clear hb5 hb6' hv5 HFa HFb HV1 HV2
  generalize rns x.data.toList = l at *
  generalize rns y.data.toList = m at *
  obtain ⟨a1, cap1, rfl⟩ := hv5'.form
  obtain ⟨a2, cap2, rfl⟩ := hv6.form
  have h1 : Hid (IsRow w6 1 (.slice a1 l.length cap1) l.length (icells l)) := hv5'
  have h2 : Hid (IsRow w6 1 (.slice a2 m.length cap2) m.length (icells m)) := hv6
  clear hv5' hv6
  have hs6 := hb6.size
  go_wp2_with fail
  go_loopw [11] (fun i wr => ∃ k : Nat, k ≤ l.length ∧ k ≤ m.length ∧ i = .int .i64 k ∧ Hid (cmpR (l.drop k) (m.drop k) = C) ∧ Below w6.heap.size w6 wr) (fun i _ => l.length - (RowKit.intOf i).toNat)
  case atStart => exact ⟨0, Nat.zero_le _, Nat.zero_le _, rfl, HC, Below.refl _ _⟩
  case round =>
    obtain ⟨k, hk1, hk2, rfl, hck, hbk⟩ := hrel
    by_cases hlt1 : k < l.length
    · have hd1 : decide ((k : Int) < l.length) = true := by simp; omega
      by_cases hlt2 : k < m.length
      · have hd2 : decide ((k : Int) < m.length) = true := by simp; omega
        obtain ⟨b1, off1, rfl, hbl1, c1⟩ := row_read (h1.out.below hbk) k hlt1
        obtain ⟨b2, off2, rfl, hbl2, c2⟩ := row_read (h2.out.below hbk) k hlt2
        have hi1 : (k : Int) < l.length := by omega
        have hi2 : (k : Int) < m.length := by omega
        have HK : Hid (cmpR (l[k] :: l.drop (k + 1)) (m[k] :: m.drop (k + 1)) = C) := by show _ = _; rw [← drop_at hlt1, ← drop_at hlt2]; exact hck.out
        clear hck
        by_cases hc1 : l[k] < m[k]
        · have hc1' : decide ((l[k] : Int) < (m[k] : Int)) = true := by simp; omega
          have HR : Hid (-1 = C) := by show _ = _; rw [← HK.out, cmpR, if_pos hc1]
          clear HK
          go_wp2
          go_region
          all_goals go_wp2
          all_goals go_ret
          all_goals exact ⟨by rw [← HR.out]; rfl, hb6.trans ((hbk.drew).mono hs6)⟩
        · have hc1' : decide ((l[k] : Int) < (m[k] : Int)) = false := by simp; omega
          by_cases hc2 : m[k] < l[k]
          · have hc2' : decide ((m[k] : Int) < (l[k] : Int)) = true := by simp; omega
            have HR : Hid (1 = C) := by show _ = _; rw [← HK.out, cmpR, if_neg hc1, if_pos hc2]
            clear HK
            go_wp2
            go_region
            all_goals go_wp2
            all_goals go_region
            all_goals go_wp2
            all_goals go_ret
            all_goals exact ⟨by rw [← HR.out]; rfl, hb6.trans ((hbk.drew.drew).mono hs6)⟩
          · have hc2' : decide ((m[k] : Int) < (l[k] : Int)) = false := by simp; omega
            have HR : Hid (cmpR (l.drop (k + 1)) (m.drop (k + 1)) = C) := by show _ = _; rw [← HK.out, cmpR, if_neg hc1, if_neg hc2]
            clear HK
            go_wp2
            go_region
            all_goals go_wp2
            all_goals go_region
            all_goals go_wp2
            all_goals go_roundw
            case rel => exact ⟨k + 1, hlt1, hlt2, by go_num, HR, hbk.drew.drew⟩
            case measure => simp [RowKit.intOf]; omega
      · have hd2 : decide ((k : Int) < m.length) = false := by simp; omega
        have hk' : k = m.length := by omega
        have hm1 : ¬ (l.length : Int) < m.length := by omega
        have hm2 : (m.length : Int) < l.length := by omega
        have HR : Hid (1 = C) := by
          show _ = _
          rw [← hck.out, List.drop_of_length_le (l := m) (by omega), cmpR_nil_right _ (by rw [List.length_drop]; omega)]
        clear hck
        go_wp2
        go_ret
        exact ⟨by rw [← HR.out]; rfl, hb6.trans (hbk.mono hs6)⟩
    · have hd1 : decide ((k : Int) < l.length) = false := by simp; omega
      have hk' : k = l.length := by omega
      by_cases hlt2 : k < m.length
      · have hm1 : (l.length : Int) < m.length := by omega
        have HR : Hid (-1 = C) := by
          show _ = _
          rw [← hck.out, List.drop_of_length_le (l := l) (by omega), cmpR_nil_left _ (by rw [List.length_drop]; omega)]
        clear hck
        go_wp2
        go_ret
        exact ⟨by rw [← HR.out]; rfl, hb6.trans (hbk.mono hs6)⟩
      · have hm1 : ¬ (l.length : Int) < m.length := by omega
        have hm2 : ¬ (m.length : Int) < l.length := by omega
        have HR : Hid (0 = C) := by
          show _ = _
          rw [← hck.out, List.drop_of_length_le (l := l) (by omega), List.drop_of_length_le (l := m) (by omega)]
          rfl
        clear hck
        go_wp2
        go_ret
        exact ⟨by rw [← HR.out]; rfl, hb6.trans (hbk.mono hs6)⟩
end Go.Proofs.YtfbnlkgopncejaaGreatDoor
