/- The reference's Under: its walk. -/
import Derived.Test.YtncnjaplbkjgdaaDoorNZ
import Derived.Test.YtncnjaplbkjgdaaDoorNSm
namespace Go.Proofs.YtncnjaplbkjgdaaDoor
open Go.RowKit

theorem onto_pre (c : UInt8) : ∀ (ys xs : List (List UInt8)), ys ≠ [] → xs ≠ [] → (onto c ys).isPrefixOf (onto c xs) = ys.isPrefixOf xs
  | [], _, h, _ => absurd rfl h
  | _, [], _, h => absurd rfl h
  | y :: ys, x :: xs, _, _ => by simp [onto, List.isPrefixOf]
theorem pre_cut : ∀ (y x : List UInt8), (y ++ [46]).isPrefixOf (x ++ [46]) = (cutB y).isPrefixOf (cutB x)
  | [], [] => by decide
  | [], b :: x => by
    rw [cutB, cutB]
    by_cases h : b = 46
    · subst h
      simp [List.isPrefixOf]
    · rw [if_neg h]
      cases e : cutB x with
      | nil => exact absurd e (cutB_ne x)
      | cons p ps =>
        have h' : ¬ (46 : UInt8) = b := fun e => h e.symm
        simp [List.isPrefixOf, onto, h']
  | c :: y, [] => by
    have hl : (c :: y ++ [46]).isPrefixOf ([] ++ [46]) = false := by
      rw [Bool.eq_false_iff]
      intro e
      have := (List.isPrefixOf_iff_prefix.1 e).length_le
      simp at this
    rw [hl]
    symm
    rw [cutB, cutB]
    by_cases h : c = 46
    · rw [if_pos h]
      cases e : cutB y with
      | nil => exact absurd e (cutB_ne y)
      | cons p ps => simp [List.isPrefixOf]
    · rw [if_neg h]
      cases e : cutB y with
      | nil => exact absurd e (cutB_ne y)
      | cons p ps => simp [List.isPrefixOf, onto]
  | c :: y, b :: x => by
    have ih := pre_cut y x
    rw [List.cons_append, List.cons_append, List.isPrefixOf, ih, cutB, cutB]
    by_cases hc : c = 46
    · by_cases hb : b = 46
      · subst hc; subst hb
        simp
      · subst hc
        have h' : ¬ (46 : UInt8) = b := fun e => hb e.symm
        rw [if_pos rfl, if_neg hb]
        cases e : cutB x with
        | nil => exact absurd e (cutB_ne x)
        | cons p ps => simp [List.isPrefixOf, onto, h']
    · by_cases hb : b = 46
      · subst hb
        rw [if_neg hc, if_pos rfl]
        cases e : cutB y with
        | nil => exact absurd e (cutB_ne y)
        | cons p ps => simp [List.isPrefixOf, onto, hc]
      · rw [if_neg hc, if_neg hb]
        by_cases hcb : c = b
        · subst hcb
          rw [onto_pre c _ _ (cutB_ne y) (cutB_ne x)]
          simp
        · cases e : cutB y with
          | nil => exact absurd e (cutB_ne y)
          | cons p ps =>
            cases e2 : cutB x with
            | nil => exact absurd e2 (cutB_ne x)
            | cons q qs => simp [List.isPrefixOf, onto, Bool.and_assoc]
/-- Whether the one is under the other. -/
def underL (a b : List UInt8) : Bool := decide (checkL a = 0 ∧ checkL b = 0) && (cutB (foldL b)).isPrefixOf (cutB (foldL a))
theorem under_cut (a b : List UInt8) : Lib.hasPrefix (foldL a ++ [46]) (foldL b ++ [46]) = (cutB (foldL b)).isPrefixOf (cutB (foldL a)) := pre_cut _ _

theorem pre_take {ys xs : List (List UInt8)} : ∀ (k : Nat), k < ys.length → k < xs.length → ys[k]? ≠ xs[k]? → ys.isPrefixOf xs = false := by
  intro k h1 h2 hne
  rw [Bool.eq_false_iff]
  intro e
  obtain ⟨t, ht⟩ := List.isPrefixOf_iff_prefix.1 e
  apply hne
  rw [← ht, List.getElem?_append_left h1]
theorem pre_all {ys xs : List (List UInt8)} (h : ys.take ys.length = xs.take ys.length) : ys.isPrefixOf xs = true := by
  rw [List.isPrefixOf_iff_prefix]
  rw [List.take_of_length_le (Nat.le_refl _)] at h
  rw [h]
  exact List.take_prefix _ _
theorem pre_long {ys xs : List (List UInt8)} (hl : xs.length < ys.length) : ys.isPrefixOf xs = false := by
  rw [Bool.eq_false_iff]
  intro e
  have := (List.isPrefixOf_iff_prefix.1 e).length_le
  omega
theorem str_inj {a b : List UInt8} (h : str a = str b) : a = b := by rw [← str_data a, h, str_data]
theorem str_neq {a b : List UInt8} (h : a ≠ b) : ((str a).toList == (str b).toList) = false := by
  rw [beq_eq_false_iff_ne, ByteArray.toList_eq, ByteArray.toList_eq, str_data, str_data]
  exact h

set_option maxRecDepth 100000 in
set_option maxHeartbeats 4000000 in
theorem refUnder_names (a b : ByteArray) (w : World) (ha : a.size ≤ 200000) (hb : b.size ≤ 200000) (ca : checkL a.data.toList = 0) (cb : checkL b.data.toList = 0) :
    Calls Tryd.prog 18 #[.string a, .string b] w fun e w' => e = .returned (.bool ((cutB (foldL b.data.toList)).isPrefixOf (cutB (foldL a.data.toList)))) ∧ Below w.heap.size w w' := by
  have hza := fold_size a
  have hzb := fold_size b
  have HP1 : Hid (∀ w, Calls Tryd.prog 12 #[.string (str (foldL a.data.toList))] w fun e w' => PaPost (cutB (foldL a.data.toList)) w e w') := fun w => by
    have := refParts_ok (str (foldL a.data.toList)) w (by omega) (by rw [str_data, foldL_check]; exact ca)
    rwa [str_data] at this
  have HP2 : Hid (∀ w, Calls Tryd.prog 12 #[.string (str (foldL b.data.toList))] w fun e w' => PaPost (cutB (foldL b.data.toList)) w e w') := fun w => by
    have := refParts_ok (str (foldL b.data.toList)) w (by omega) (by rw [str_data, foldL_check]; exact cb)
    rwa [str_data] at this
  have hl1 : 1 ≤ (cutB (foldL b.data.toList)).length := List.length_pos_iff.2 (cutB_ne _)
  have hl5 : (cutB (foldL b.data.toList)).length ≤ 5 := by
    have P := parts_of (l := foldL b.data.toList) (by rw [foldL_check]; exact cb)
    rw [P.cut, List.length_map]
    exact P.few
  have hk5 : (cutB (foldL a.data.toList)).length ≤ 5 := by
    have P := parts_of (l := foldL a.data.toList) (by rw [foldL_check]; exact ca)
    rw [P.cut, List.length_map]
    exact P.few
  have HFa : Hid (∀ w, Calls Tryd.prog 16 #[.string a] w fun e w' => e = .returned (.string (str (foldL a.data.toList))) ∧ Below w.heap.size w w') := fun w => refFold_any a w (by omega)
  have HFb : Hid (∀ w, Calls Tryd.prog 16 #[.string b] w fun e w' => e = .returned (.string (str (foldL b.data.toList))) ∧ Below w.heap.size w w') := fun w => refFold_any b w (by omega)
  obtain ⟨V, HV⟩ : ∃ V, Hid ((cutB (foldL b.data.toList)).isPrefixOf (cutB (foldL a.data.toList)) = V) := ⟨_, rfl⟩
  rw [HV.out]
  generalize cutB (foldL a.data.toList) = xs at *
  generalize cutB (foldL b.data.toList) = ys at *
  generalize str (foldL a.data.toList) = x at *
  generalize str (foldL b.data.toList) = y at *
  go_enter Tryd.func18, Tryd.ntmps18
  go_wp2_with fail
  refine (HFa.out _).mono ?_
  rintro e w1 ⟨rfl, hb1⟩
  go_wp2_with fail
  refine (HP1.out _).mono ?_
  rintro e w2 ⟨v2, rfl, hv2, hb2'⟩
  have hb2 := hb1.trans (hb2'.mono hb1.size)
  clear hb1 hb2'
  go_wp2_with fail
  refine (HFb.out _).mono ?_
  rintro e w3 ⟨rfl, hb3'⟩
  have hb3 := hb2.trans (hb3'.mono hb2.size)
  have hv3 := hv2.below hb3'
  clear hb2 hb3' hv2
  go_wp2_with fail
  refine (HP2.out _).mono ?_
  rintro e w4 ⟨v4, rfl, hv4, hb4'⟩
  have hb4 := hb3.trans (hb4'.mono hb3.size)
  have hv5 := hv3.below hb4'
  clear hb3 hb4' hv3 HFa HFb HP1 HP2
  obtain ⟨a1, cap1, rfl⟩ := hv5.form
  obtain ⟨a2, cap2, rfl⟩ := hv4.form
  have h1 : Hid (IsRow w4 1 (.slice a1 xs.length cap1) xs.length (svals xs)) := hv5
  have h2 : Hid (IsRow w4 1 (.slice a2 ys.length cap2) ys.length (svals ys)) := hv4
  clear hv5 hv4
  have hs4 := hb4.size
  have hy0 : ((ys.length : Int) == 0) = false := by rw [beq_eq_false_iff_ne]; omega
  by_cases hlen : xs.length < ys.length
  · have hlen' : decide ((xs.length : Int) < ys.length) = true := by simp; omega
    have HR : Hid (false = V) := by show _ = _; rw [← HV.out, pre_long hlen]
    go_wp2
    go_ret
    exact ⟨by rw [← HR.out]; rfl, hb4⟩
  · have hlen' : decide ((xs.length : Int) < ys.length) = false := by simp; omega
    go_wp2_with fail
    go_loopw [7] (fun i wr => ∃ k : Nat, k ≤ ys.length ∧ i = .int .i64 k ∧ Hid (ys.take k = xs.take k) ∧ Below w4.heap.size w4 wr) (fun i _ => ys.length - (RowKit.intOf i).toNat)
    case atStart => exact ⟨0, Nat.zero_le _, rfl, rfl, Below.refl _ _⟩
    case round =>
      obtain ⟨k, hk, rfl, hck, hbk⟩ := hrel
      by_cases hlt : k < ys.length
      · have hltx : k < xs.length := by omega
        obtain ⟨b1, off1, rfl, hbl1, c1⟩ := texts_at (h1.out.below hbk) k hltx
        obtain ⟨b2, off2, rfl, hbl2, c2⟩ := texts_at (h2.out.below hbk) k hlt
        have hi1 : (k : Int) < xs.length := by omega
        have hi2 : (k : Int) < ys.length := by omega
        by_cases he : xs[k] = ys[k]
        · have HN : Hid (ys.take (k + 1) = xs.take (k + 1)) := by
            show _ = _
            rw [List.take_succ_eq_append_getElem hlt, List.take_succ_eq_append_getElem hltx, hck.out, he]
          rw [he] at c1
          clear hck he
          go_wp2
          go_region
          all_goals go_wp2
          all_goals go_roundw
          case rel => exact ⟨k + 1, hlt, by go_num, HN, hbk.drew⟩
          case measure => simp [RowKit.intOf]; omega
        · have HR : Hid (false = V) := by
            show _ = _
            rw [← HV.out, pre_take k hlt hltx (by rw [List.getElem?_eq_getElem hlt, List.getElem?_eq_getElem hltx]; exact fun e => he (Option.some.inj e).symm)]
          have hne := str_neq he
          clear hck
          go_wp2
          go_region
          all_goals go_wp2
          all_goals go_ret
          all_goals exact ⟨by rw [← HR.out]; rfl, hb4.trans ((hbk.drew).mono hs4)⟩
      · have hk' : k = ys.length := by omega
        subst hk'
        have HR : Hid (true = V) := by show _ = _; rw [← HV.out, pre_all hck.out]
        clear hck
        go_wp2
        go_ret
        exact ⟨by rw [← HR.out]; rfl, hb4.trans (hbk.mono hs4)⟩

set_option maxRecDepth 100000 in
set_option maxHeartbeats 2000000 in
theorem refUnder_not (a b : ByteArray) (w : World) (ha : a.size ≤ 200000) (hb : b.size ≤ 200000) (h : ¬ (checkL a.data.toList = 0 ∧ checkL b.data.toList = 0)) :
    Calls Tryd.prog 18 #[.string a, .string b] w fun e w' => e = .returned (.bool false) ∧ Below w.heap.size w w' := by
  have hza := fold_size a
  have hzb := fold_size b
  have ea : checkL (str (foldL a.data.toList)).data.toList = checkL a.data.toList := by rw [str_data, foldL_check]
  have eb : checkL (str (foldL b.data.toList)).data.toList = checkL b.data.toList := by rw [str_data, foldL_check]
  have HFa : Hid (∀ w, Calls Tryd.prog 16 #[.string a] w fun e w' => e = .returned (.string (str (foldL a.data.toList))) ∧ Below w.heap.size w w') := fun w => refFold_any a w (by omega)
  have HFb : Hid (∀ w, Calls Tryd.prog 16 #[.string b] w fun e w' => e = .returned (.string (str (foldL b.data.toList))) ∧ Below w.heap.size w w') := fun w => refFold_any b w (by omega)
  generalize str (foldL a.data.toList) = x at *
  generalize str (foldL b.data.toList) = y at *
  go_enter Tryd.func18, Tryd.ntmps18
  go_wp2_with fail
  refine (HFa.out _).mono ?_
  rintro e w1 ⟨rfl, hb1⟩
  by_cases ca : checkL a.data.toList = 0
  · have cb : checkL y.data.toList ≠ 0 := fun e => h ⟨ca, eb.symm.trans e⟩
    have ca' : checkL x.data.toList = 0 := ea.trans ca
    have hxl : (cutB x.data.toList).length ≤ 5 := by
      have P := parts_of ca'
      rw [P.cut, List.length_map]
      exact P.few
    go_wp2_with fail
    refine (refParts_ok x _ (by omega) ca').mono ?_
    rintro e w2 ⟨v2, rfl, hv2, hb2'⟩
    have hb2 := hb1.trans (hb2'.mono hb1.size)
    obtain ⟨a2, cap2, rfl⟩ := hv2.form
    clear hb1 hb2' hv2
    go_wp2_with fail
    refine (HFb.out _).mono ?_
    rintro e w3 ⟨rfl, hb3'⟩
    have hb3 := hb2.trans (hb3'.mono hb2.size)
    clear hb2 hb3'
    go_wp2_with fail
    refine (refParts_no y _ (by omega) cb).mono ?_
    rintro e w4 ⟨rfl, hb4'⟩
    have hb4 := hb3.trans (hb4'.mono hb3.size)
    clear hb3 hb4'
    go_wp2
    go_ret
    exact ⟨rfl, hb4⟩
  · have ca' : checkL x.data.toList ≠ 0 := fun e => ca (ea.symm.trans e)
    go_wp2_with fail
    refine (refParts_no x _ (by omega) ca').mono ?_
    rintro e w2 ⟨rfl, hb2'⟩
    have hb2 := hb1.trans (hb2'.mono hb1.size)
    clear hb1 hb2'
    go_wp2_with fail
    refine (HFb.out _).mono ?_
    rintro e w3 ⟨rfl, hb3'⟩
    have hb3 := hb2.trans (hb3'.mono hb2.size)
    clear hb2 hb3'
    by_cases cb : checkL y.data.toList = 0
    · have hy1 : 1 ≤ (cutB y.data.toList).length := List.length_pos_iff.2 (cutB_ne _)
      have hy5 : (cutB y.data.toList).length ≤ 5 := by
        have P := parts_of cb
        rw [P.cut, List.length_map]
        exact P.few
      go_wp2_with fail
      refine (refParts_ok y _ (by omega) cb).mono ?_
      rintro e w4 ⟨v4, rfl, hv4, hb4'⟩
      have hb4 := hb3.trans (hb4'.mono hb3.size)
      obtain ⟨a4, cap4, rfl⟩ := hv4.form
      clear hb3 hb4' hv4
      generalize (cutB y.data.toList).length = n at *
      have hn0 : ((n : Int) == 0) = false := by rw [beq_eq_false_iff_ne]; omega
      have hn1 : decide ((0 : Int) < n) = true := by simp; omega
      go_wp2
      go_ret
      exact ⟨rfl, hb4⟩
    · go_wp2_with fail
      refine (refParts_no y _ (by omega) cb).mono ?_
      rintro e w4 ⟨rfl, hb4'⟩
      have hb4 := hb3.trans (hb4'.mono hb3.size)
      clear hb3 hb4'
      go_wp2
      go_ret
      exact ⟨rfl, hb4⟩
theorem refUnder_any (a b : ByteArray) (w : World) (ha : a.size ≤ 200000) (hb : b.size ≤ 200000) :
    Calls Tryd.prog 18 #[.string a, .string b] w fun e w' => e = .returned (.bool (underL a.data.toList b.data.toList)) ∧ Below w.heap.size w w' := by
  by_cases h : checkL a.data.toList = 0 ∧ checkL b.data.toList = 0
  · have e : underL a.data.toList b.data.toList = (cutB (foldL b.data.toList)).isPrefixOf (cutB (foldL a.data.toList)) := by rw [underL, decide_eq_true h, Bool.true_and]
    rw [e]
    exact refUnder_names a b w ha hb h.1 h.2
  · have e : underL a.data.toList b.data.toList = false := by rw [underL, decide_eq_false h, Bool.false_and]
    rw [e]
    exact refUnder_not a b w ha hb h
end Go.Proofs.YtncnjaplbkjgdaaDoor
