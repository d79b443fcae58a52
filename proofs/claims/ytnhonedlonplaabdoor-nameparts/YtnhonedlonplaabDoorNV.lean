/- NameParts: for every text the law returns true. -/
import Derived.Test.YtnhonedlonplaabDoorNE
import Derived.Test.YtnhonedlonplaabDoorNU
namespace Go.Proofs.YtnhonedlonplaabDoor
open Go.RowKit

theorem str_append' (a b : List UInt8) : str a ++ str b = str (a ++ b) := ba_eq (by rw [ba_append, str_data, str_data, str_data])
theorem svals_at {w : World} {v : Value} {l : List (List UInt8)} (h : IsRow w 1 v l.length (svals l)) (i : Nat) (hi : i < l.length) :
    ∃ b off cap, v = .slice (some ⟨b, off, none⟩) l.length cap ∧ b < w.heap.size ∧ w.cell? ⟨b, off + i, none⟩ = some (.string (str (l[i]'hi))) := by
  obtain ⟨b, off, cap', hv, hlt, _, _, hc⟩ := h.open (by omega)
  exact ⟨b, off, cap', hv, hlt, hc i _ (by simp [svals, hi])⟩
theorem bytes_len {l : List UInt8} {qs : List (List Nat)} (P : Parts l qs) {k : Nat} (hk : k ≤ qs.length) : (bytesOf (qs.take k)).length ≤ 160 := by
  have h1 := flat_len (joinR (qs.take k))
  have h2 : (joinR (qs.take k)).length ≤ 40 := by
    by_cases h0 : 0 < k
    · have := take_short h0 hk
      have := P.short
      omega
    · have : k = 0 := by omega
      subst this
      simp [joinR]
  have e : (bytesOf (qs.take k)).length = ((joinR (qs.take k)).flatMap enc).length := rfl
  omega
theorem part_len {l : List UInt8} {qs : List (List Nat)} (P : Parts l qs) {q : List Nat} (hq : q ∈ qs) : (q.flatMap enc).length ≤ 160 := by
  have h1 := flat_len q
  have := joinR_len qs q hq
  have := P.short
  omega

set_option maxRecDepth 100000 in
set_option maxHeartbeats 2000000 in
theorem parts_law (s : ByteArray) (w : World) (hs : s.size ≤ 2000) (hT : UT w) (hM : ML w) (hc : checkL s.data.toList = 0) :
    Calls Tryd.prog 4 #[.string s] w fun e w' => e = .returned (.bool true) ∧ Below w.heap.size w w' := by
  have g1' : ¬ (2000 : Int) < s.size := by omega
  have hs2 : s.size ≤ 1000000 := by omega
  obtain ⟨qs, HP⟩ : ∃ qs, Hid (Parts s.data.toList qs) := ⟨_, parts_of hc⟩
  have HCUT : Hid (cutB s.data.toList = qs.map (·.flatMap enc)) := HP.out.cut
  have HQL : Hid ((cutB s.data.toList).length = qs.length) := by show _ = _; rw [HCUT.out, List.length_map]
  have hq5 := HP.out.few
  have hq1 : 1 ≤ qs.length := List.length_pos_iff.2 HP.out.ne
  go_enter Tryd.func4, Tryd.ntmps4
  go_wp2_with fail
  refine (parts_ok s _ hs2 hM hc).mono ?_
  rintro e w1 ⟨v1, rfl, hv1, hb1⟩
  rw [HQL.out] at hv1
  go_wp2_with fail
  refine (check_any s _ (by omega)).mono ?_
  rintro e w2 ⟨rfl, hb2'⟩
  rw [hc]
  have hb2 := hb1.trans (hb2'.mono hb1.size)
  have hv2 := hv1.below hb2'
  obtain ⟨a2, cap2, rfl⟩ := hv2.form
  have hs2' := hb2.size
  clear hb1 hb2' hv1
  have HV : Hid (IsRow w2 1 (.slice a2 qs.length cap2) (cutB s.data.toList).length (svals (cutB s.data.toList))) := by rw [HQL.out]; exact hv2
  clear hv2
  go_wp2_with fail
  go_loopw [4, 5] (fun t i wr => ∃ k : Nat, k ≤ qs.length ∧ i = .int .i64 k ∧ t = .string (str (bytesOf (qs.take k))) ∧ Below w2.heap.size w2 wr) (fun _ i _ => qs.length - (RowKit.intOf i).toNat)
  case atStart => exact ⟨0, Nat.zero_le _, rfl, rfl, Below.refl _ _⟩
  case round =>
    obtain ⟨k, hk, rfl, rfl, hb⟩ := hrel
    have hbs := hb.size
    by_cases hlt : k < qs.length
    · obtain ⟨b, off, cap, hvv, hbl, c0⟩ := svals_at (HV.out.below hb) k (by rw [HQL.out]; exact hlt)
      simp only [Value.slice.injEq] at hvv
      obtain ⟨rfl, -, rfl⟩ := hvv
      have hi : (k : Int) < qs.length := by omega
      have hpk : (cutB s.data.toList)[k]'(by rw [HQL.out]; exact hlt) = (qs[k]).flatMap enc := by simp [HCUT.out]
      rw [hpk] at c0
      have hmem : qs[k] ∈ qs := List.getElem_mem hlt
      have HN1 : Hid (checkL (str ((qs[k]).flatMap enc)).data.toList = 0) := by show _ = _; rw [str_data]; exact part_name HP.out hmem
      have HN2 : Hid (checkL (str (bytesOf (qs.take (k + 1)))).data.toList = 0) := by show _ = _; rw [str_data]; exact begin_name HP.out (by omega) (by omega)
      have HU1 : Hid (Lib.hasPrefix (foldL s.data.toList ++ [46]) (foldL (str (bytesOf (qs.take (k + 1)))).data.toList ++ [46]) = true) := by show _ = _; rw [str_data]; exact under_begin HP.out (by omega) (by omega)
      have HU2 : Hid (Lib.hasPrefix (foldL (str (bytesOf (qs.take (k + 1)))).data.toList ++ [46]) (foldL s.data.toList ++ [46]) = ((k : Int) == (qs.length : Int) - 1)) := by
        show _ = _
        rw [str_data, begin_under HP.out (by omega) (by omega), Bool.eq_iff_iff, decide_eq_true_eq, beq_iff_eq]
        omega
      have hz1 : (str (bytesOf (qs.take k))).size ≤ 160 := by rw [str_size]; exact bytes_len HP.out (by omega)
      have hz2 : (str ((qs[k]).flatMap enc)).size ≤ 160 := by rw [str_size]; exact part_len HP.out hmem
      have hz3 : (str (bytesOf (qs.take (k + 1)))).size ≤ 160 := by rw [str_size]; exact bytes_len HP.out (by omega)
      have hst := bytes_step hlt
      by_cases h0 : k = 0
      · have h0' : decide (0 < k) = false := by rw [decide_eq_false_iff_not]; omega
        have HA : Hid (str (bytesOf (qs.take k)) ++ str ((qs[k]).flatMap enc) = str (bytesOf (qs.take (k + 1)))) := by
          show _ = _
          rw [str_append', hst, if_pos h0]
          subst h0
          rfl
        have r1 := room1 (A := str (bytesOf (qs.take k))) (B := str ((qs[k]).flatMap enc)) (by omega) (by omega)
        clear hst hpk hq1 hM h0
        generalize hA' : str (bytesOf (qs.take k)) = A at *
        generalize hB' : str ((qs[k]).flatMap enc) = B at *
        obtain ⟨C, HC⟩ : ∃ C, Hid (str (bytesOf (qs.take (k + 1))) = C) := ⟨_, rfl⟩
        rw [HC.out] at HA HN2 HU1 HU2 hz3
        clear hA' hB'
        go_wp2_with fail
        rw [HA.out]
        refine (check_any _ _ (by omega)).mono ?_
        rintro e w3 ⟨rfl, hb3'⟩
        rw [HN1.out]
        have hb3 := hb.trans (hb3'.mono hb.size)
        have hB3 := hb2.trans (hb3.mono hs2')
        clear hb hb3' c0
        go_wp2_with fail
        refine (under_names s _ _ hs2 (by omega) (Utf8Tabs_below hT hB3) hc HN2.out).mono ?_
        rintro e w4 ⟨rfl, hb4'⟩
        rw [HU1.out]
        have hb4 := hb3.trans (hb4'.mono hb3.size)
        have hB4 := hb2.trans (hb4.mono hs2')
        clear hb3 hB3 hb4'
        go_wp2_with fail
        refine (under_names _ s _ (by omega) hs2 (Utf8Tabs_below hT hB4) HN2.out hc).mono ?_
        rintro e w5 ⟨rfl, hb5'⟩
        rw [HU2.out]
        have hb5 : Hid (Below w2.heap.size w2 w5) := hb4.trans (hb5'.mono hb4.size)
        clear hb4 hB4 hb5'
        go_wp2
        go_roundw
        case rel => exact ⟨k + 1, by omega, by go_num, by rw [HC.out], hb5.out⟩
        case measure => simp [RowKit.intOf]; omega
      · have h0' : decide (0 < k) = true := by rw [decide_eq_true_eq]; omega
        have HA : Hid ((str (bytesOf (qs.take k)) ++ (⟨#[46]⟩ : ByteArray)) ++ str ((qs[k]).flatMap enc) = str (bytesOf (qs.take (k + 1)))) := by
          show _ = _
          rw [str_point, str_append', hst, if_neg h0, List.append_assoc]
          rfl
        have r1 := room1 (A := str (bytesOf (qs.take k))) (B := ⟨#[46]⟩) (by omega) (by decide)
        have hs46 : (str (bytesOf (qs.take k)) ++ (⟨#[46]⟩ : ByteArray)).size ≤ 8000000 := by
          rw [ByteArray.size_append]
          have : (⟨#[46]⟩ : ByteArray).size = 1 := rfl
          omega
        have r2 := room1 (A := str (bytesOf (qs.take k)) ++ (⟨#[46]⟩ : ByteArray)) (B := str ((qs[k]).flatMap enc)) hs46 (by omega)
        clear hs46
        clear hst hpk hq1 hM
        generalize hA' : str (bytesOf (qs.take k)) = A at *
        generalize hB' : str ((qs[k]).flatMap enc) = B at *
        obtain ⟨C, HC⟩ : ∃ C, Hid (str (bytesOf (qs.take (k + 1))) = C) := ⟨_, rfl⟩
        rw [HC.out] at HA HN2 HU1 HU2 hz3
        clear hA' hB'
        go_wp2_with fail
        rw [HA.out]
        refine (check_any _ _ (by omega)).mono ?_
        rintro e w3 ⟨rfl, hb3'⟩
        rw [HN1.out]
        have hb3 := hb.trans (hb3'.mono hb.size)
        have hB3 := hb2.trans (hb3.mono hs2')
        clear hb hb3' c0
        go_wp2_with fail
        refine (under_names s _ _ hs2 (by omega) (Utf8Tabs_below hT hB3) hc HN2.out).mono ?_
        rintro e w4 ⟨rfl, hb4'⟩
        rw [HU1.out]
        have hb4 := hb3.trans (hb4'.mono hb3.size)
        have hB4 := hb2.trans (hb4.mono hs2')
        clear hb3 hB3 hb4'
        go_wp2_with fail
        refine (under_names _ s _ (by omega) hs2 (Utf8Tabs_below hT hB4) HN2.out hc).mono ?_
        rintro e w5 ⟨rfl, hb5'⟩
        rw [HU2.out]
        have hb5 : Hid (Below w2.heap.size w2 w5) := hb4.trans (hb5'.mono hb4.size)
        clear hb4 hB4 hb5'
        go_wp2
        go_roundw
        case rel => exact ⟨k + 1, by omega, by go_num, by rw [HC.out], hb5.out⟩
        case measure => simp [RowKit.intOf]; omega
    · have hk' : k = qs.length := by omega
      subst hk'
      have HS : Hid (str (bytesOf (qs.take qs.length)) = s) := by show _ = _; rw [List.take_of_length_le (Nat.le_refl _), HP.out.bytes, str_of]
      rw [HS.out]
      have hl1 : decide ((1 : Int) ≤ (qs.length : Int)) = true := by simp; omega
      have hl5 : decide ((qs.length : Int) ≤ 5) = true := by simp; omega
      have hB := hb2.trans (hb.mono hs2')
      go_wp2_with fail
      refine (awake_any _ (Utf8Tabs_below hT hB)).mono ?_
      rintro e w3 ⟨rfl, hb3'⟩
      have hb3 : Hid (Below w.heap.size w w3) := hB.trans (hb3'.mono hB.size)
      clear hb hB hb3'
      go_wp2
      go_ret
      exact ⟨rfl, hb3.out⟩

set_option maxHeartbeats 1000000 in
theorem nameParts_walk (s : ByteArray) (w : World) (hs : s.size ≤ 140737488355328) (hT : UT w) (hM : ML w) :
    Calls Tryd.prog 4 #[.string s] w fun e w' => e = .returned (.bool true) ∧ Below w.heap.size w w' := by
  by_cases g1 : 2000 < s.size
  · have g1' : (2000 : Int) < s.size := by omega
    go_enter Tryd.func4, Tryd.ntmps4
    go_wp2_with fail
    refine (awake_any _ hT).mono ?_
    rintro e w1 ⟨rfl, hb1⟩
    go_wp2
    go_ret
    exact ⟨rfl, hb1⟩
  by_cases hc : checkL s.data.toList = 0
  · exact parts_law s w (by omega) hT hM hc
  have g1' : ¬ (2000 : Int) < s.size := by omega
  have hs2 : s.size ≤ 1000000 := by omega
  have hc' : (checkL s.data.toList != 0) = true := by rw [bne_iff_ne]; exact hc
  go_enter Tryd.func4, Tryd.ntmps4
  go_wp2_with fail
  refine (parts_no s _ hs2 hc).mono ?_
  rintro e w1 ⟨rfl, hb1⟩
  go_wp2_with fail
  refine (check_any s _ (by omega)).mono ?_
  rintro e w2 ⟨rfl, hb2'⟩
  have hb2 := hb1.trans (hb2'.mono hb1.size)
  clear hb1 hb2'
  go_wp2_with fail
  refine (awake_any _ (Utf8Tabs_below hT hb2)).mono ?_
  rintro e w3 ⟨rfl, hb3'⟩
  have hb3 := hb2.trans (hb3'.mono hb2.size)
  clear hb2 hb3'
  go_wp2_with fail
  refine (under_no s s _ hs2 hc).mono ?_
  rintro e w4 ⟨rfl, hb4'⟩
  have hb4 : Hid (Below w.heap.size w w4) := hb3.trans (hb4'.mono hb3.size)
  clear hb3 hb4'
  go_wp2
  go_ret
  exact ⟨rfl, hb4.out⟩
end Go.Proofs.YtnhonedlonplaabDoor
