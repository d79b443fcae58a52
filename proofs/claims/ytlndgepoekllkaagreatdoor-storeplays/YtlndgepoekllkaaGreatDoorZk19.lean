/- The reference's Check and Parts: walks. -/
import Derived.Test.YtlndgepoekllkaaGreatDoorZk1
import Derived.Test.YtlndgepoekllkaaGreatDoorZk18
import Derived.RegionTactic
import Derived.ChangeAlike
import Derived.Deep.QuietTactic
import Derived.BigQuiet
import Derived.Test.YtlndgepoekllkaaGreatDoorZk3
namespace Go.Proofs.YtlndgepoekllkaaGreatDoor
open Go.RowKit

theorem chk_bad : ∀ (cs : List Nat) (p r : Nat) (f : Bool), 65533 ∈ cs → chk p r f cs = 3
  | [], _, _, _ => by simp
  | c :: cs, p, r, f => by
    intro hm
    rcases List.mem_cons.1 hm with e | hm
    · subst e
      have hb : beginsN 65533 = false := by decide
      simp only [chk, hb]
      cases f <;> simp
    · simp only [chk]
      split
      · exact chk_bad cs _ _ _ hm
      split
      · rfl
      split
      · exact chk_bad cs _ _ _ hm
      split
      · rfl
      · exact chk_bad cs _ _ _ hm
theorem check_invalid {l : List UInt8} (h : Lib.validD l = false) : checkL l = 3 := by
  refine chk_bad _ _ _ _ ?_
  rcases Classical.em (65533 ∈ rns l) with g | g
  · exact g
  · have := valid_of_no l.length l (Nat.le_refl _) g
    rw [h] at this
    cases this
theorem check_cut (l : List UInt8) : checkL l = if (cutR (rns l)).all (okp true) = true then (if 5 < (cutR (rns l)).length ∨ 40 < (rns l).length then 2 else 0) else 3 := by
  have h := chk_cut (rns l) 1 0 true
  rw [allok_all (cutR_ne _)] at h
  have e1 : 1 + (cutR (rns l)).length - 1 = (cutR (rns l)).length := by omega
  have e2 : 0 + (rns l).length = (rns l).length := by omega
  rw [e1, e2] at h
  exact h
theorem cut_sum : ∀ cs : List Nat, ∀ q ∈ cutR cs, q.length ≤ cs.length := by
  intro cs q hq
  have := joinR_len (cutR cs) q hq
  rw [join_cut] at this
  exact this
theorem cut_len : ∀ cs : List Nat, (cutR cs).length ≤ cs.length + 1
  | [] => by simp [cutR]
  | c :: cs => by
    have := cut_len cs
    rw [cutR]
    split
    · simp; omega
    · cases h : cutR cs with
      | nil => exact absurd h (cutR_ne cs)
      | cons q qs => rw [h] at this; simp [onto] at this ⊢; omega
theorem rns_le (s : ByteArray) : (rns s.data.toList).length ≤ s.size := by
  have h3 := rns_len_le s.data.toList.length s.data.toList
  have e : s.data.toList.length = s.size := Array.length_toList
  have : (rns s.data.toList).length ≤ s.data.toList.length := h3
  omega
theorem all_take {qs : List (List Nat)} {k : Nat} (h : k < qs.length) (h1 : (qs.take k).all (okp true) = true) (h2 : okp true qs[k] = true) : (qs.take (k + 1)).all (okp true) = true := by
  rw [List.take_succ_eq_append_getElem h, List.all_append, h1]
  simp [h2]
theorem not_all {qs : List (List Nat)} {k : Nat} (h : k < qs.length) (h2 : okp true qs[k] = false) : ¬ qs.all (okp true) = true := by
  intro g
  have := List.all_eq_true.1 g _ (List.getElem_mem h)
  rw [h2] at this
  cases this
theorem isEmpty_of {s : ByteArray} (h : s.size = 0) : s.toList.isEmpty = true := by
  rw [ByteArray.toList_eq]
  have : s.data.toList = [] := List.eq_nil_of_length_eq_zero (by rw [Array.length_toList]; exact h)
  rw [this]; rfl
theorem notEmpty_of {s : ByteArray} (h : s.size ≠ 0) : s.toList.isEmpty = false := by
  rw [ByteArray.toList_eq]
  cases e : s.data.toList with
  | nil => exact absurd (by have := congrArg List.length e; rwa [Array.length_toList] at this) h
  | cons b l => rfl
theorem check_empty {s : ByteArray} (h : s.size = 0) : checkL s.data.toList = 3 := by
  have : s.data.toList = [] := List.eq_nil_of_length_eq_zero (by rw [Array.length_toList]; exact h)
  rw [this]; rfl

set_option maxRecDepth 100000 in
set_option maxHeartbeats 2000000 in
theorem refCheck_any (s : ByteArray) (w : World) (hs : s.size ≤ 900000) :
    Calls Tryz.prog 73 #[.string s] w fun e w' => e = .returned (.int .i64 (checkL s.data.toList)) ∧ Below w.heap.size w w' := by
  by_cases h0 : s.size = 0
  · have he := isEmpty_of h0
    rw [check_empty h0]
    go_enter Tryz.func73, Tryz.ntmps73
    go_wp2
    go_ret
    exact ⟨rfl, Below.refl _ _⟩
  have he := notEmpty_of h0
  by_cases hv : Lib.validD s.data.toList = true
  · obtain ⟨C, HC⟩ : ∃ C, Hid (checkL s.data.toList = C) := ⟨_, rfl⟩
    have HCC : Hid _ := check_cut s.data.toList
    rw [HC.out] at HCC ⊢
    clear HC
    have hll := rns_le s
    have HQ : Hid (∀ q ∈ cutR (rns s.data.toList), q.length ≤ (rns s.data.toList).length) := cut_sum _
    have hq1 := cut_len (rns s.data.toList)
    have HRU : Hid (∀ w, Calls Tryz.prog 92 #[.string s] w fun e w' => RnPost (rns s.data.toList) w e w') := fun w => refRunes_any s w (by omega) hv
    go_enter Tryz.func73, Tryz.ntmps73
    go_wp2_with fail
    refine (refValid_any s _ (by omega)).mono ?_
    rintro e w1 ⟨rfl, hb1⟩
    rw [hv]
    go_wp2_with fail
    refine (HRU.out _).mono ?_
    rintro e w2 ⟨v2, rfl, hv2, hb2'⟩
    have hb2 := hb1.trans (hb2'.mono hb1.size)
    clear hb1 hb2' HRU
    generalize rns s.data.toList = l at *
    go_wp2_with fail
    refine (refSplit_any v2 l _ hv2 (by omega)).mono ?_
    rintro e w3 ⟨v3, rfl, hv3, hb3'⟩
    have hb3 := hb2.trans (hb3'.mono hb2.size)
    obtain ⟨a2, cap2, rfl⟩ := hv2.form
    obtain ⟨a3, cap3, rfl⟩ := hv3.form
    clear hb2 hb3' hv2
    have HV3 : Hid (RowsOf w3 (.slice a3 (cutR l).length cap3) (cutR l)) := hv3
    clear hv3
    generalize cutR l = qs at *
    go_wp2_with fail
    go_loopw [5] (fun i wr => ∃ k : Nat, k ≤ qs.length ∧ i = .int .i64 k ∧ Hid ((qs.take k).all (okp true) = true) ∧ wr = w3) (fun i _ => qs.length - (RowKit.intOf i).toNat)
    case atStart => exact ⟨0, Nat.zero_le _, rfl, rfl, rfl⟩
    case round =>
      obtain ⟨k, hk, rfl, hck, rfl⟩ := hrel
      by_cases hlt : k < qs.length
      · obtain ⟨b, off, cap, u, hvv, hbl, c0, hr⟩ := HV3.out.at k hlt
        simp only [Value.slice.injEq] at hvv
        obtain ⟨rfl, -, rfl⟩ := hvv
        have hi : (k : Int) < qs.length := by omega
        have hql := HQ.out _ (List.getElem_mem hlt)
        by_cases hok : okp true qs[k] = true
        · have HN : Hid ((qs.take (k + 1)).all (okp true) = true) := all_take hlt hck.out hok
          clear hck
          go_wp2_with fail
          refine (refPart_any u _ _ hr (by omega)).mono ?_
          rintro e w4 ⟨rfl, rfl⟩
          rw [hok]
          go_wp2
          go_roundw
          case rel => exact ⟨k + 1, hlt, by go_num, HN, by trivial⟩
          case measure => simp [RowKit.intOf]; omega
        · have hok' : okp true qs[k] = false := by simpa using hok
          have HN : Hid (3 = C) := by show _ = _; rw [HCC.out, if_neg (not_all hlt hok')]
          clear hck HCC
          go_wp2_with fail
          refine (refPart_any u _ _ hr (by omega)).mono ?_
          rintro e w4 ⟨rfl, rfl⟩
          rw [hok']
          go_wp2
          go_ret
          exact ⟨by rw [← HN.out]; rfl, hb3⟩
      · have hk' : k = qs.length := by omega
        subst hk'
        have hall := hck.out
        rw [List.take_of_length_le (Nat.le_refl _)] at hall
        by_cases h40 : 40 < l.length
        · have h40' : decide ((40 : Int) < l.length) = true := by simp; omega
          have HN : Hid (2 = C) := by show _ = _; rw [HCC.out, if_pos hall, if_pos (Or.inr h40)]
          clear hck HCC hall
          go_wp2
          go_ret
          exact ⟨by rw [← HN.out]; rfl, hb3⟩
        · have h40' : decide ((40 : Int) < l.length) = false := by simp; omega
          by_cases h5 : 5 < qs.length
          · have h5' : decide ((5 : Int) < qs.length) = true := by simp; omega
            have HN : Hid (2 = C) := by show _ = _; rw [HCC.out, if_pos hall, if_pos (Or.inl h5)]
            clear hck HCC hall
            go_wp2
            go_ret
            exact ⟨by rw [← HN.out]; rfl, hb3⟩
          · have h5' : decide ((5 : Int) < qs.length) = false := by simp; omega
            have HN : Hid (0 = C) := by show _ = _; rw [HCC.out, if_pos hall, if_neg (by omega)]
            clear hck HCC hall
            go_wp2
            go_ret
            exact ⟨by rw [← HN.out]; rfl, hb3⟩
  · have hv' : Lib.validD s.data.toList = false := by simpa using hv
    rw [check_invalid hv']
    go_enter Tryz.func73, Tryz.ntmps73
    go_wp2_with fail
    refine (refValid_any s _ (by omega)).mono ?_
    rintro e w1 ⟨rfl, hb1⟩
    rw [hv']
    go_wp2
    go_ret
    exact ⟨rfl, hb1⟩

theorem info_str : (Tryz.prog.info? 9).map (fun i => (i.zero, i.size, i.bytes)) = some (some (.string ⟨#[]⟩), 1, 16) := by kernel_rfl
def partB (qs : List (List Nat)) : List (List UInt8) := qs.map (·.flatMap enc)
theorem partB_snoc (qs : List (List Nat)) (q : List Nat) : svals (partB (qs ++ [q])) = svals (partB qs) ++ [.string (str (q.flatMap enc))] := by simp [svals, partB]
theorem str_app (a b : List UInt8) : str a ++ str b = str (a ++ b) := ba_eq (by rw [ba_append, str_data, str_data, str_data])
theorem room4 {A B : ByteArray} (h1 : A.size ≤ 4000000) (h2 : B.size ≤ 4) : ¬ 9223372036854775807 < A.size + B.size := by omega

set_option maxRecDepth 100000 in
set_option maxHeartbeats 4000000 in
theorem refParts_ok (s : ByteArray) (w : World) (hs : s.size ≤ 900000) (hc : checkL s.data.toList = 0) :
    Calls Tryz.prog 126 #[.string s] w fun e w' => PaPost (cutB s.data.toList) w e w' := by
  obtain ⟨is, his, hx0, hx1, hx2⟩ := info_parts info_str
  have hv := valid_of_name hc
  have hll := rns_le s
  have HP : Hid (Parts s.data.toList (cutR (rns s.data.toList))) := parts_of hc
  have HRU : Hid (∀ w, Calls Tryz.prog 92 #[.string s] w fun e w' => RnPost (rns s.data.toList) w e w') := fun w => refRunes_any s w (by omega) hv
  have HCH : Hid (∀ w, Calls Tryz.prog 73 #[.string s] w fun e w' => e = .returned (.int .i64 (checkL s.data.toList)) ∧ Below w.heap.size w w') := fun w => refCheck_any s w (by omega)
  have HCB : Hid (cutB s.data.toList = partB (cutR (rns s.data.toList))) := HP.out.cut
  have HQL : Hid (∀ q ∈ cutR (rns s.data.toList), q.length ≤ 40) := fun q hq => by have := joinR_len _ q hq; have := HP.out.short; omega
  have HSC : Hid (∀ q ∈ cutR (rns s.data.toList), ∀ c ∈ q, scal c) := fun q hq c hcq => HP.out.scals c (joinR_mem _ q hq c hcq)
  have hq5 := HP.out.few
  obtain ⟨PB, HPB⟩ : ∃ PB, Hid (partB (cutR (rns s.data.toList)) = PB) := ⟨_, rfl⟩
  rw [HCB.out, HPB.out]
  go_enter Tryz.func126, Tryz.ntmps126
  go_wp2_with fail
  refine (HCH.out _).mono ?_
  rintro e w1 ⟨rfl, hb1⟩
  rw [hc]
  clear HCH HCB HP
  go_wp2_with fail
  refine (HRU.out _).mono ?_
  rintro e w2 ⟨v2, rfl, hv2, hb2'⟩
  have hb2 := hb1.trans (hb2'.mono hb1.size)
  clear hb1 hb2' HRU
  generalize rns s.data.toList = l at *
  go_wp2_with fail
  refine (refSplit_any v2 l _ hv2 (by omega)).mono ?_
  rintro e w3 ⟨v3, rfl, hv3, hb3'⟩
  have hb3 := hb2.trans (hb3'.mono hb2.size)
  obtain ⟨a3, cap3, rfl⟩ := hv3.form
  clear hb2 hb3' hv2
  have HV3 : Hid (RowsOf w3 (.slice a3 (cutR l).length cap3) (cutR l)) := hv3
  clear hv3
  generalize cutR l = qs at *
  have hs3 := hb3.size
  go_wp2_with fail
  go_loopw [4, 5] (fun o i wr => ∃ k : Nat, k ≤ qs.length ∧ i = .int .i64 k ∧ wr.ownsRow w3.heap.size 9 1 o k (svals (partB (qs.take k))) ∧ Below w3.heap.size w3 wr) (fun _ i _ => qs.length - (RowKit.intOf i).toNat)
  case atStart => exact ⟨0, Nat.zero_le _, rfl, World.ownsRow_nil _ _ _ _, Below.refl _ _⟩
  case round =>
    obtain ⟨k, hk, rfl, ho, hb⟩ := hrel
    have hbs := hb.size
    by_cases hlt : k < qs.length
    · obtain ⟨b, off, cap, u, hvv, hbl, c0, hr⟩ := (HV3.out.below hb).at k hlt
      simp only [Value.slice.injEq] at hvv
      obtain ⟨rfl, -, rfl⟩ := hvv
      have hi : (k : Int) < qs.length := by omega
      have hql := HQL.out _ (List.getElem_mem hlt)
      have HSq : Hid (∀ c ∈ qs[k], scal c) := HSC.out _ (List.getElem_mem hlt)
      have HX : Hid (svals (partB (qs.take k)) ++ [.string (str ((qs[k]).flatMap enc))] = svals (partB (qs.take (k + 1)))) := by
        show _ = _
        rw [List.take_succ_eq_append_getElem hlt, partB_snoc]
      obtain ⟨au, capu, rfl⟩ := hr.form
      generalize qs[k] = q at *
      rename World => wo
      go_wp2_with fail
      go_loopw [6, 7] (fun t j wx => ∃ m : Nat, m ≤ q.length ∧ j = .int .i64 m ∧ t = .string (str ((q.take m).flatMap enc)) ∧ Below wo.heap.size wo wx) (fun _ j _ => q.length - (RowKit.intOf j).toNat)
      case atStart => exact ⟨0, Nat.zero_le _, rfl, rfl, Below.refl _ _⟩
      case round =>
        obtain ⟨m, hm, rfl, rfl, hbx⟩ := hrel
        have c0' := (hbx.cell (p := ⟨b, off + k, none⟩) hbl).trans c0
        have hbxs := hbx.size
        by_cases hlm : m < q.length
        · obtain ⟨b2, off2, cap2, hvv, hbl2, c2⟩ := ints_row (hr.below hbx) m hlm
          simp only [Value.slice.injEq] at hvv
          obtain ⟨rfl, -, rfl⟩ := hvv
          have him : (m : Int) < q.length := by omega
          have hsc : Hid (scal q[m]) := HSq.out _ (List.getElem_mem hlm)
          have HN : Hid (str ((q.take m).flatMap enc) ++ str (enc q[m]) = str ((q.take (m + 1)).flatMap enc)) := by
            show _ = _
            rw [str_app, List.take_succ_eq_append_getElem hlm, List.flatMap_append]
            simp
          have hz1 : (str ((q.take m).flatMap enc)).size ≤ 4000000 := by
            rw [str_size]
            have h1 := flat_len (q.take m)
            rw [List.length_take] at h1
            omega
          have hz2 : (str (enc q[m])).size ≤ 4 := by rw [str_size]; exact enc_len4 _
          have hz3 := room4 hz1 hz2
          clear hz1 hz2
          generalize hA : str ((q.take m).flatMap enc) = A at *
          clear hA
          go_wp2_with fail
          refine (refBytes_any _ _ hsc.out).mono ?_
          rintro e w5 ⟨rfl, hb5'⟩
          have hb5 : Hid (Below wo.heap.size wo w5) := hbx.trans (hb5'.mono hbx.size)
          clear hbx hb5' c0' c2
          go_wp2
          go_roundw
          case rel => exact ⟨m + 1, hlm, by go_num, by rw [HN.out], hb5.out⟩
          case measure => simp [RowKit.intOf]; omega
        · have hm' : m = q.length := by omega
          subst hm'
          have ho2 := owns_below' ho hbx
          have HT : Hid (str ((q.take q.length).flatMap enc) = str (q.flatMap enc)) := by show _ = _; rw [List.take_of_length_le (Nat.le_refl _)]
          rw [HT.out]
          go_wp2_with (at_builtin; refine wpl_apps _ rfl (.tmp 39) (.tmp 41) 31 9 rfl is _ 16 Tryz.underlying31 his hx0 hx1 hx2 rfl _ _ _ _ rfl ho2 (.string (str (q.flatMap enc))) _ rfl rfl rfl (by omega) (by unfold maxLen; omega) (by omega) ?_; intro v6 w6 hown6 hb6 hst6)
          have HO : Hid (w6.ownsRow w3.heap.size 9 1 v6 (k + 1) (svals (partB (qs.take (k + 1))))) := by
            show World.ownsRow _ _ _ _ _ _ _
            rw [← HX.out]
            exact hown6
          have HB : Hid (Below w3.heap.size w3 w6) := (hb.trans (hbx.mono hbs)).trans hb6
          clear hst6 hown6 hb6 ho2
          go_wp2
          go_roundw
          case rel => exact ⟨k + 1, hlt, by go_num, HO.out, HB.out⟩
          case measure => simp [RowKit.intOf]; omega
    · have hk' : k = qs.length := by omega
      subst hk'
      have HO : Hid (IsRow wr 1 u4 PB.length (svals PB)) := by
        have := IsRow.own ho
        rw [List.take_of_length_le (Nat.le_refl _), HPB.out] at this
        have e : PB.length = qs.length := by rw [← HPB.out]; simp [partB]
        rw [e]
        exact this
      go_wp2
      go_ret
      exact ⟨_, rfl, HO.out, hb3.trans (hb.mono hs3)⟩
end Go.Proofs.YtlndgepoekllkaaGreatDoor
/- The reference's SameTexts of the same texts. -/
namespace Go.Proofs.YtlndgepoekllkaaGreatDoor
open Go.RowKit

theorem texts_at {w : World} {a : Option Addr} {cap : Nat} {l : List (List UInt8)} (h : IsRow w 1 (.slice a l.length cap) l.length (svals l)) (i : Nat) (hi : i < l.length) :
    ∃ b off, a = some ⟨b, off, none⟩ ∧ b < w.heap.size ∧ w.cell? ⟨b, off + i, none⟩ = some (.string (str (l[i]'hi))) := by
  obtain ⟨b, off, cap', hv, hlt, _, _, hc⟩ := h.open (by omega)
  simp only [Value.slice.injEq] at hv
  exact ⟨b, off, hv.1, hlt, hc i _ (by simp [svals, hi])⟩
set_option maxRecDepth 100000 in
set_option maxHeartbeats 1000000 in
theorem sameTexts_eq (v1 v2 : Value) (l : List (List UInt8)) (w : World) (h1 : IsRow w 1 v1 l.length (svals l)) (h2 : IsRow w 1 v2 l.length (svals l)) (hl : l.length ≤ 140737488355328) :
    Calls Tryz.prog 49 #[v1, v2] w fun e w' => e = .returned (.bool true) ∧ Below w.heap.size w w' := by
  obtain ⟨a1, cap1, rfl⟩ := h1.form
  obtain ⟨a2, cap2, rfl⟩ := h2.form
  go_enter Tryz.func49, Tryz.ntmps49
  go_wp2
  go_loopw [5] (fun i wr => ∃ k : Nat, k ≤ l.length ∧ i = .int .i64 k ∧ Below w.heap.size w wr) (fun i _ => l.length - (intOf i).toNat)
  case atStart => exact ⟨0, Nat.zero_le _, rfl, Below.refl _ _⟩
  case round =>
    obtain ⟨k, hk, rfl, hb⟩ := hrel
    by_cases hlt : k < l.length
    · obtain ⟨b, off, rfl, hbl, c0⟩ := texts_at (h1.below hb) k hlt
      obtain ⟨b', off', rfl, hbl', c0'⟩ := texts_at (h2.below hb) k hlt
      have hi : (k : Int) < l.length := by omega
      go_wp2
      go_region
      all_goals go_wp2
      all_goals go_roundw
      case rel => exact ⟨k + 1, by omega, by go_num, hb.drew⟩
      case measure => simp [intOf]; omega
    · have hk' : k = l.length := by omega
      subst hk'
      go_wp2
      go_ret
      exact ⟨rfl, hb⟩
end Go.Proofs.YtlndgepoekllkaaGreatDoor
/- The reference's Compare and Under: walks. -/
namespace Go.Proofs.YtlndgepoekllkaaGreatDoor
open Go.RowKit

def nums (l : List UInt8) : List Nat := l.map (·.toNat)
theorem cmp_nums : ∀ (a b : List UInt8), cmpR (nums a) (nums b) = Lib.compareBytes a b
  | [], [] => rfl
  | [], b :: l => rfl
  | a :: k, [] => rfl
  | a :: k, b :: l => by
    have ih := cmp_nums k l
    unfold nums at ih ⊢
    simp only [List.map_cons, cmpR, Lib.compareBytes, ih, UInt8.lt_iff_toNat_lt]
theorem cmpR_nil_left (m : List Nat) (h : 0 < m.length) : cmpR [] m = -1 := by
  cases m with
  | nil => simp at h
  | cons => rfl
theorem cmpR_nil_right (m : List Nat) (h : 0 < m.length) : cmpR m [] = 1 := by
  cases m with
  | nil => simp at h
  | cons => rfl
theorem nums_take (s : ByteArray) (k : Nat) (h : k < s.size) : icells (nums (s.data.toList.take k)) ++ [Value.int .i64 ((s[k].toNat : Nat) : Int)] = icells (nums (s.data.toList.take (k + 1))) := by
  rw [take_byte s k h]
  simp [icells, nums]
theorem row_read {w : World} {a : Option Addr} {cap : Nat} {l : List Nat} (h : IsRow w 1 (.slice a l.length cap) l.length (icells l)) (i : Nat) (hi : i < l.length) :
    ∃ b off, a = some ⟨b, off, none⟩ ∧ b < w.heap.size ∧ w.cell? ⟨b, off + i, none⟩ = some (.int .i64 ((l[i]'hi : Nat) : Int)) := by
  obtain ⟨b, off, cap', hv, hlt, hc⟩ := ints_row h i hi
  simp only [Value.slice.injEq] at hv
  exact ⟨b, off, hv.1, hlt, hc⟩

theorem conv_u8 (b : UInt8) : IntKind.i64.wrap (b.toNat : Int) = ((b.toNat : Nat) : Int) := by
  have := b.toNat_lt
  rw [IntKind.wrap_i64]
  omega
theorem nums_all (s : ByteArray) : (nums s.data.toList).length = s.size := by
  unfold nums
  rw [List.length_map, Array.length_toList]
  rfl
set_option maxRecDepth 100000 in
set_option maxHeartbeats 4000000 in
theorem refCompare_valid (a b : ByteArray) (w : World) (ha : a.size ≤ 200000) (hb : b.size ≤ 200000) (va : Lib.validD a.data.toList = true) (vb : Lib.validD b.data.toList = true) :
    Calls Tryz.prog 76 #[.string a, .string b] w fun e w' => e = .returned (.int .i64 (cmpL a.data.toList b.data.toList)) ∧ Below w.heap.size w w' := by
  have hza := fold_size a
  have hzb := fold_size b
  have HV1 : Lib.validD (str (foldL a.data.toList)).data.toList = true := by rw [str_data, foldL_valid]; exact va
  have HV2 : Lib.validD (str (foldL b.data.toList)).data.toList = true := by rw [str_data, foldL_valid]; exact vb
  have hl1 := rns_le (str (foldL a.data.toList))
  have hl2 := rns_le (str (foldL b.data.toList))
  have HC : Hid (cmpR (rns (str (foldL a.data.toList)).data.toList) (rns (str (foldL b.data.toList)).data.toList) = cmpL a.data.toList b.data.toList) := by
    show _ = _
    rw [str_data, str_data, foldL_rns va, foldL_rns vb]
    exact cmpL_runes va vb
  have HFa : Hid (∀ w, Calls Tryz.prog 85 #[.string a] w fun e w' => e = .returned (.string (str (foldL a.data.toList))) ∧ Below w.heap.size w w') := fun w => refFold_any a w (by omega)
  have HFb : Hid (∀ w, Calls Tryz.prog 85 #[.string b] w fun e w' => e = .returned (.string (str (foldL b.data.toList))) ∧ Below w.heap.size w w') := fun w => refFold_any b w (by omega)
  generalize cmpL a.data.toList b.data.toList = C at *
  generalize str (foldL a.data.toList) = x at *
  generalize str (foldL b.data.toList) = y at *
  go_enter Tryz.func76, Tryz.ntmps76
  go_wp2_with fail
  refine (HFa.out _).mono ?_
  rintro e w1 ⟨rfl, hb1⟩
  go_wp2_with fail
  refine (HFb.out _).mono ?_
  rintro e w2 ⟨rfl, hb2'⟩
  have hb2 := hb1.trans (hb2'.mono hb1.size)
  clear hb1 hb2'
  go_wp2_with fail
  refine (refValid_any x _ (by omega)).mono ?_
  rintro e w3 ⟨rfl, hb3'⟩
  rw [HV1]
  have hb3 := hb2.trans (hb3'.mono hb2.size)
  clear hb2 hb3'
  go_wp2_with fail
  refine (refValid_any y _ (by omega)).mono ?_
  rintro e w4 ⟨rfl, hb4'⟩
  rw [HV2]
  have hb4 := hb3.trans (hb4'.mono hb3.size)
  clear hb3 hb4'
  go_wp2_with fail
  refine (refRunes_any x _ (by omega) HV1).mono ?_
  rintro e w5 ⟨v5, rfl, hv5, hb5'⟩
  have hb5 := hb4.trans (hb5'.mono hb4.size)
  clear hb4 hb5'
  go_wp2_with fail
  refine (refRunes_any y _ (by omega) HV2).mono ?_
  rintro e w6 ⟨v6, rfl, hv6, hb6'⟩
  have hb6 := hb5.trans (hb6'.mono hb5.size)
  have hv5' := hv5.below hb6'
  clear hb5 hb6' hv5 HFa HFb HV1 HV2
  generalize rns x.data.toList = l at *
  generalize rns y.data.toList = m at *
  obtain ⟨a1, cap1, rfl⟩ := hv5'.form
  obtain ⟨a2, cap2, rfl⟩ := hv6.form
  have h1 : Hid (IsRow w6 1 (.slice a1 l.length cap1) l.length (icells l)) := hv5'
  have h2 : Hid (IsRow w6 1 (.slice a2 m.length cap2) m.length (icells m)) := hv6
  clear hv5' hv6
  have hs6 := hb6.size
  go_wp2_with fail
  go_loopw [11] (fun i wr => ∃ k : Nat, k ≤ l.length ∧ k ≤ m.length ∧ i = .int .i64 k ∧ Hid (cmpR (l.drop k) (m.drop k) = C) ∧ Below w6.heap.size w6 wr) (fun i _ => l.length - (RowKit.intOf i).toNat)
  case atStart => exact ⟨0, Nat.zero_le _, Nat.zero_le _, rfl, HC, Below.refl _ _⟩
  case round =>
    obtain ⟨k, hk1, hk2, rfl, hck, hbk⟩ := hrel
    by_cases hlt1 : k < l.length
    · have hd1 : decide ((k : Int) < l.length) = true := by simp; omega
      by_cases hlt2 : k < m.length
      · have hd2 : decide ((k : Int) < m.length) = true := by simp; omega
        obtain ⟨b1, off1, rfl, hbl1, c1⟩ := row_read (h1.out.below hbk) k hlt1
        obtain ⟨b2, off2, rfl, hbl2, c2⟩ := row_read (h2.out.below hbk) k hlt2
        have hi1 : (k : Int) < l.length := by omega
        have hi2 : (k : Int) < m.length := by omega
        have HK : Hid (cmpR (l[k] :: l.drop (k + 1)) (m[k] :: m.drop (k + 1)) = C) := by show _ = _; rw [← drop_at hlt1, ← drop_at hlt2]; exact hck.out
        clear hck
        by_cases hc1 : l[k] < m[k]
        · have hc1' : decide ((l[k] : Int) < (m[k] : Int)) = true := by simp; omega
          have HR : Hid (-1 = C) := by show _ = _; rw [← HK.out, cmpR, if_pos hc1]
          clear HK
          go_wp2
          go_region
          all_goals go_wp2
          all_goals go_ret
          all_goals exact ⟨by rw [← HR.out]; rfl, hb6.trans ((hbk.drew).mono hs6)⟩
        · have hc1' : decide ((l[k] : Int) < (m[k] : Int)) = false := by simp; omega
          by_cases hc2 : m[k] < l[k]
          · have hc2' : decide ((m[k] : Int) < (l[k] : Int)) = true := by simp; omega
            have HR : Hid (1 = C) := by show _ = _; rw [← HK.out, cmpR, if_neg hc1, if_pos hc2]
            clear HK
            go_wp2
            go_region
            all_goals go_wp2
            all_goals go_region
            all_goals go_wp2
            all_goals go_ret
            all_goals exact ⟨by rw [← HR.out]; rfl, hb6.trans ((hbk.drew.drew).mono hs6)⟩
          · have hc2' : decide ((m[k] : Int) < (l[k] : Int)) = false := by simp; omega
            have HR : Hid (cmpR (l.drop (k + 1)) (m.drop (k + 1)) = C) := by show _ = _; rw [← HK.out, cmpR, if_neg hc1, if_neg hc2]
            clear HK
            go_wp2
            go_region
            all_goals go_wp2
            all_goals go_region
            all_goals go_wp2
            all_goals go_roundw
            case rel => exact ⟨k + 1, hlt1, hlt2, by go_num, HR, hbk.drew.drew⟩
            case measure => simp [RowKit.intOf]; omega
      · have hd2 : decide ((k : Int) < m.length) = false := by simp; omega
        have hk' : k = m.length := by omega
        have hm1 : ¬ (l.length : Int) < m.length := by omega
        have hm2 : (m.length : Int) < l.length := by omega
        have HR : Hid (1 = C) := by
          show _ = _
          rw [← hck.out, List.drop_of_length_le (l := m) (by omega), cmpR_nil_right _ (by rw [List.length_drop]; omega)]
        clear hck
        go_wp2
        go_ret
        exact ⟨by rw [← HR.out]; rfl, hb6.trans (hbk.mono hs6)⟩
    · have hd1 : decide ((k : Int) < l.length) = false := by simp; omega
      have hk' : k = l.length := by omega
      by_cases hlt2 : k < m.length
      · have hm1 : (l.length : Int) < m.length := by omega
        have HR : Hid (-1 = C) := by
          show _ = _
          rw [← hck.out, List.drop_of_length_le (l := l) (by omega), cmpR_nil_left _ (by rw [List.length_drop]; omega)]
        clear hck
        go_wp2
        go_ret
        exact ⟨by rw [← HR.out]; rfl, hb6.trans (hbk.mono hs6)⟩
      · have hm1 : ¬ (l.length : Int) < m.length := by omega
        have hm2 : ¬ (m.length : Int) < l.length := by omega
        have HR : Hid (0 = C) := by
          show _ = _
          rw [← hck.out, List.drop_of_length_le (l := l) (by omega), List.drop_of_length_le (l := m) (by omega)]
          rfl
        clear hck
        go_wp2
        go_ret
        exact ⟨by rw [← HR.out]; rfl, hb6.trans (hbk.mono hs6)⟩
end Go.Proofs.YtlndgepoekllkaaGreatDoor
