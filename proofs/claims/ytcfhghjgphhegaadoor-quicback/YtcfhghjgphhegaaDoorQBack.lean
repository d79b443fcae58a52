/- QuicBack: for every row, list and text the law returns true, and what was there stays. -/
import Derived.Test.YtcfhghjgphhegaaDoorM5
import Derived.Test.YtcfhghjgphhegaaDoorSame
import Derived.Test.YtcfhghjgphhegaaDoorH
namespace Go.Proofs.YtcfhghjgphhegaaDoor
open Go.RowKit
set_option linter.unusedVariables false

theorem info_int : (Tryd.prog.info? 3).map (fun i => (i.zero, i.size, i.bytes)) = some (some (.int .i64 0), 1, 8) := by kernel_rfl
theorem ba_size (l : List UInt8) : (⟨l.toArray⟩ : ByteArray).size = l.length := by simp [ByteArray.size]

set_option maxRecDepth 100000 in
set_option maxHeartbeats 1000000 in
theorem back_main (v : Value) (l : List It) (u : Value) (ts : List ByteArray) (bh : ByteArray) (w : World) (h : IsRow w 3 v l.length (itCells l)) (hl : l.length ≤ 140737488355328) (hs : ∀ x ∈ l, x.s.size ≤ 140737488355328) (h2 : IsRow w 1 u ts.length (strVals ts)) (hts : ∀ x ∈ ts, x.size ≤ 140737488355328) (hT : Tab w)
    (g2 : ts.length ≤ 200) (g3 : bh.size ≤ 2000) :
    Calls Tryd.prog 8 #[v, u, .string bh] w fun e w' => e = .returned (.bool true) ∧ Below w.heap.size w w' := by
  obtain ⟨a0, cap0, rfl⟩ := h.form
  obtain ⟨a2, cap2, rfl⟩ := h2.form
  obtain ⟨i0, hi0, hz0, hz1, hz2⟩ := info_parts info_int
  have hsz := hT.size
  have g2' : ¬ (200 : Int) < ts.length := by omega
  have g3' : ¬ (2000 : Int) < bh.size := by omega
  go_enter Tryd.func8, Tryd.ntmps8
  go_wp2_with fail
  refine (few_any _ l _ h hl hs).mono ?_
  rintro e w1 ⟨fb, rfl, hsm, hb1⟩
  cases fb
  · clear hsm
    go_wp2_with fail
    refine (awake_any _ (hT.below hb1 hsz)).mono ?_
    rintro e w2 ⟨rfl, hb2'⟩
    have hb2 : Hid (Below w.heap.size w w2) := hb1.trans (hb2'.mono hb1.size)
    clear hb1 hb2'
    go_wp2
    go_ret
    exact ⟨rfl, hb2.out⟩
  obtain ⟨hl2, hs2⟩ := hsm rfl
  clear hsm
  have HS : Hid (∀ x ∈ l, x.s.size ≤ 20000) := hs2
  clear hs2
  go_wp2_with fail
  go_loopw [7] (fun i wr => ∃ k : Nat, k ≤ ts.length ∧ i = .int .i64 k ∧ (∀ x ∈ ts.take k, x.size ≤ 2000) ∧ Below w.heap.size w wr) (fun i _ => ts.length - (intOf i).toNat)
  case atStart => exact ⟨0, Nat.zero_le _, rfl, by simp, hb1⟩
  case round =>
    obtain ⟨k, hk, rfl, hall, hb⟩ := hrel
    have HA : Hid (∀ x ∈ ts.take k, x.size ≤ 2000) := hall
    clear hall
    by_cases hlt : k < ts.length
    · obtain ⟨b, off, rfl, hbl, c0⟩ := strs_at (h2.below hb) k hlt
      have hi : (k : Int) < ts.length := by omega
      have hxs := hts _ (List.getElem_mem hlt)
      by_cases hm : ts[k].size ≤ 2000
      · have hm' : ¬ (2000 : Int) < ts[k].size := by omega
        have HN : Hid (∀ x ∈ ts.take (k + 1), x.size ≤ 2000) := by
          show ∀ x ∈ ts.take (k + 1), x.size ≤ 2000
          intro x hx
          rw [List.take_succ_eq_append_getElem hlt, List.mem_append] at hx
          rcases hx with hx | hx
          · exact HA.out x hx
          · simp at hx; subst hx; exact hm
        go_wp2
        go_roundw
        case rel => exact ⟨k + 1, by omega, by go_num, HN.out, hb⟩
        case measure => simp [intOf]; omega
      · have hm' : (2000 : Int) < ts[k].size := by omega
        go_wp2_with fail
        refine (awake_any _ (hT.below hb hsz)).mono ?_
        rintro e w2 ⟨rfl, hb2'⟩
        have hb2 : Hid (Below w.heap.size w w2) := hb.trans (hb2'.mono hb.size)
        clear hb2' c0
        go_wp2
        go_ret
        exact ⟨rfl, hb2.out⟩
    · have hk' : k = ts.length := by omega
      subst hk'
      have HTS : Hid (∀ x ∈ ts, x.size ≤ 2000) := by
        show ∀ x ∈ ts, x.size ≤ 2000
        have := HA.out
        rwa [List.take_of_length_le (Nat.le_refl _)] at this
      clear HA
      obtain ⟨W1, rfl⟩ : ∃ W1, W1 = wr := ⟨_, rfl⟩
      have hr1 := h.below hb
      have hs1 := hb.size
      go_wp2_with fail
      go_loopw [8, 9] (fun t i wx => ∃ k : Nat, k ≤ l.length ∧ i = .int .i64 k ∧ wx.ownsRow W1.heap.size 3 1 t k (intCells ((l.take k).map It.k)) ∧ Below W1.heap.size W1 wx) (fun _ i _ => l.length - (intOf i).toNat)
      case atStart => exact ⟨0, Nat.zero_le _, rfl, World.ownsRow_nil _ _ _ _, Below.refl _ _⟩
      case round =>
        obtain ⟨k, hk, rfl, hown, hbx⟩ := hrel
        have hsx := hbx.size
        by_cases hlt : k < l.length
        · obtain ⟨b, off, rfl, hbl, c0, c1, c2⟩ := items_at (hr1.below hbx) k hlt
          have hi : (k : Int) < l.length := by omega
          have HF : Hid (intCells ((l.take k).map It.k) ++ [Value.int .i64 l[k].k] = intCells ((l.take (k + 1)).map It.k)) := by show _ = _; rw [List.take_succ_eq_append_getElem hlt]; unfold intCells; rw [List.map_append, List.map_append]; rfl
          clear c1 c2
          go_wp2_with (at_builtin; refine wpl_app _ rfl (.tmp 53) (.tmp 59) 41 3 rfl i0 (.int .i64 0) 8 Tryd.underlying41 hi0 hz0 hz1 hz2 rfl _ _ _ _ rfl hown (.int .i64 l[k].k) rfl rfl (by omega) (by unfold maxLen; omega) hsx ?_; intro v3 w3 hown3 hb3 _)
          have H3 : Hid (w3.ownsRow W1.heap.size 3 1 v3 (k + 1) (intCells ((l.take (k + 1)).map It.k))) := by rw [← HF.out]; exact hown3
          have hbb : Hid (Below W1.heap.size W1 w3) := hbx.trans hb3
          clear c0 hown hown3 hb3
          go_wp2
          go_roundw
          case rel => exact ⟨k + 1, by omega, by go_num, H3.out, hbb.out⟩
          case measure => simp [intOf]; omega
        · have hk' : k = l.length := by omega
          subst hk'
          have e : l.take l.length = l := List.take_of_length_le (Nat.le_refl _)
          rw [e] at hown
          have HK : Hid (IsRow wr 1 u8 l.length (intCells (l.map It.k))) := by
            have h3 := IsRow.own hown
            exact h3
          obtain ⟨W2, rfl⟩ : ∃ W2, W2 = wr := ⟨_, rfl⟩
          have hbA := hb.trans (hbx.mono hs1)
          have hTA := hT.below hbA hsz
          have hA := h.below hbA
          have hA2 := h2.below hbA
          clear hown hbx hb hr1
          have HOK : Hid (ts.all okT = true) := by
            show _ = _
            rw [List.all_eq_true]
            intro x hx
            have := HTS.out x hx
            simp [okT]; omega
          clear hsx hs1 e
          cases hall : l.all mayIt
          · have HALL : Hid (l.all mayIt = false) := hall
            clear hall
            go_wp2_with fail
            refine (put_bad _ l _ hA (by omega) hs HALL.out).mono ?_
            rintro e w5 ⟨rfl, hb5'⟩
            have hb5 := hbA.trans (hb5'.mono hbA.size)
            have hT5 := hT.below hb5 hsz
            clear hbA hb5' hTA hA hA2
            have hX2 := h2.below hb5
            go_wp2_with fail
            refine (list_ok _ ts _ hX2 hT5 (by omega) HOK.out).mono ?_
            rintro e wa ⟨rfl, hba'⟩
            have hba := hb5.trans (hba'.mono hb5.size)
            have hTa := hT.below hba hsz
            have hXa := h2.below hba
            clear hb5 hba' hX2
            have hLs : (⟨(numL ts.length ++ ts.flatMap txB).toArray⟩ : ByteArray).size ≤ 14000000 := by rw [ba_size]; have := flatT_len ts HOK.out; have := strOfNums_len ts.length; have := numL_len ts.length; have := num_size_le ts.length; rw [List.length_append]; omega
            have HU : Hid (unlistR ((⟨(numL ts.length ++ ts.flatMap txB).toArray⟩ : ByteArray) ++ bh) = (ts, bh, 0)) := unlistR_read (by omega) HOK.out (by rw [ByteArray.data_append]; simp)
            generalize (⟨(numL ts.length ++ ts.flatMap txB).toArray⟩ : ByteArray) = Y at *
            have hsumY : ¬ 9223372036854775807 < Y.size + bh.size := by omega
            go_wp2_with fail
            refine (unlist_any _ _ (by rw [ByteArray.size_append]; omega)).mono ?_
            rw [HU.out]
            rintro e wb ⟨vb, rfl, hvb, hbb'⟩
            have hbb := hba.trans (hbb'.mono hba.size)
            have hTb := hT.below hbb hsz
            have hXb := h2.below hbb
            clear hba hbb' hTa hXa
            go_wp2_with fail
            refine (awake_any _ hTb).mono ?_
            rintro e wc ⟨rfl, hbc'⟩
            have hbc := hbb.trans (hbc'.mono hbb.size)
            have hvc := hvb.below hbc'
            have hXc := h2.below hbc
            clear hbb hbc' hTb hvb hXb
            go_wp2_with fail
            refine (sameTexts_eq _ _ ts _ hvc hXc (by omega)).mono ?_
            rintro e wd ⟨rfl, hbd'⟩
            have hbd : Hid (Below w.heap.size w wd) := hbc.trans (hbd'.mono hbc.size)
            clear hbc hbd' hvc hXc
            go_wp2
            go_ret
            exact ⟨rfl, hbd.out⟩
          · have HALL : Hid (l.all mayIt = true) := hall
            clear hall
            go_wp2_with fail
            refine (put_ok _ l _ hA hTA (by omega) hs HALL.out).mono ?_
            rintro e w5 ⟨rfl, hb5'⟩
            have hb5 := hbA.trans (hb5'.mono hbA.size)
            have hT5 := hT.below hb5 hsz
            have h5 := h.below hb5
            have hk5 := HK.out.below hb5'
            clear hbA hb5' hTA hA hA2 HK
            have hLs : (⟨(l.flatMap itB).toArray⟩ : ByteArray).size ≤ 14000000 := by rw [ba_size]; have := flat_len l HALL.out; omega
            have HR : Hid (takeR ((⟨(l.flatMap itB).toArray⟩ : ByteArray) ++ bh) (l.map It.k) = (l, bh, 0)) := takeR_read HALL.out (by rw [ByteArray.data_append]; simp)
            generalize (⟨(l.flatMap itB).toArray⟩ : ByteArray) = X at *
            have hsumX : ¬ 9223372036854775807 < X.size + bh.size := by omega
            obtain ⟨a5, cap5, rfl⟩ := hk5.form
            go_wp2_with fail
            refine (take_any (X ++ bh) _ (l.map It.k) _ (by rw [ByteArray.size_append]; omega) (by rw [List.length_map]; exact hk5) (by rw [List.length_map]; omega)).mono ?_
            rw [HR.out]
            rintro e w6 ⟨v6, rfl, hv6, hb6'⟩
            have hb6 := hb5.trans (hb6'.mono hb5.size)
            have hT6 := hT.below hb6 hsz
            have h6 := h.below hb6
            clear hb5 hb6' hT5 h5 hk5 hLs
            go_wp2_with fail
            refine (refs_any _ l _ hv6 (by omega)).mono ?_
            rintro e w7 ⟨v7, rfl, hv7, hb7'⟩
            have hb7 := hb6.trans (hb7'.mono hb6.size)
            have h7 := h.below hb7
            clear hb6 hb7' hT6 h6 hv6
            go_wp2_with fail
            refine (refs_any _ l _ h7 (by omega)).mono ?_
            rintro e w8 ⟨v8, rfl, hv8, hb8'⟩
            have hb8 := hb7.trans (hb8'.mono hb7.size)
            have hv78 := hv7.below hb8'
            clear hb7 hb8' h7 hv7
            go_wp2_with fail
            refine (same_eq _ _ l _ hv78 hv8 (by omega)).mono ?_
            rintro e w9 ⟨rfl, hb9'⟩
            have hb9 := hb8.trans (hb9'.mono hb8.size)
            have hT9 := hT.below hb9 hsz
            clear hb8 hb9' hv78 hv8
            have hX2 := h2.below hb9
            go_wp2_with fail
            refine (list_ok _ ts _ hX2 hT9 (by omega) HOK.out).mono ?_
            rintro e wa ⟨rfl, hba'⟩
            have hba := hb9.trans (hba'.mono hb9.size)
            have hTa := hT.below hba hsz
            have hXa := h2.below hba
            clear hb9 hba' hX2
            have hLs : (⟨(numL ts.length ++ ts.flatMap txB).toArray⟩ : ByteArray).size ≤ 14000000 := by rw [ba_size]; have := flatT_len ts HOK.out; have := strOfNums_len ts.length; have := numL_len ts.length; have := num_size_le ts.length; rw [List.length_append]; omega
            have HU : Hid (unlistR ((⟨(numL ts.length ++ ts.flatMap txB).toArray⟩ : ByteArray) ++ bh) = (ts, bh, 0)) := unlistR_read (by omega) HOK.out (by rw [ByteArray.data_append]; simp)
            generalize (⟨(numL ts.length ++ ts.flatMap txB).toArray⟩ : ByteArray) = Y at *
            have hsumY : ¬ 9223372036854775807 < Y.size + bh.size := by omega
            go_wp2_with fail
            refine (unlist_any _ _ (by rw [ByteArray.size_append]; omega)).mono ?_
            rw [HU.out]
            rintro e wb ⟨vb, rfl, hvb, hbb'⟩
            have hbb := hba.trans (hbb'.mono hba.size)
            have hTb := hT.below hbb hsz
            have hXb := h2.below hbb
            clear hba hbb' hTa hXa
            go_wp2_with fail
            refine (awake_any _ hTb).mono ?_
            rintro e wc ⟨rfl, hbc'⟩
            have hbc := hbb.trans (hbc'.mono hbb.size)
            have hvc := hvb.below hbc'
            have hXc := h2.below hbc
            clear hbb hbc' hTb hvb hXb
            go_wp2_with fail
            refine (sameTexts_eq _ _ ts _ hvc hXc (by omega)).mono ?_
            rintro e wd ⟨rfl, hbd'⟩
            have hbd : Hid (Below w.heap.size w wd) := hbc.trans (hbd'.mono hbc.size)
            clear hbc hbd' hvc hXc
            go_wp2
            go_ret
            exact ⟨rfl, hbd.out⟩

set_option maxRecDepth 100000 in
set_option maxHeartbeats 1000000 in
theorem quicBack_walk (v : Value) (l : List It) (u : Value) (ts : List ByteArray) (bh : ByteArray) (w : World) (h : IsRow w 3 v l.length (itCells l)) (hl : l.length ≤ 140737488355328) (hs : ∀ x ∈ l, x.s.size ≤ 140737488355328) (h2 : IsRow w 1 u ts.length (strVals ts)) (hl2 : ts.length ≤ 140737488355328) (hts : ∀ x ∈ ts, x.size ≤ 140737488355328) (hbh : bh.size ≤ 140737488355328) (hT : Tab w) :
    Calls Tryd.prog 8 #[v, u, .string bh] w fun e w' => e = .returned (.bool true) ∧ Below w.heap.size w w' := by
  by_cases g2 : ts.length ≤ 200
  · by_cases g3 : bh.size ≤ 2000
    · exact back_main v l u ts bh w h hl hs h2 hts hT g2 g3
    · obtain ⟨a0, cap0, rfl⟩ := h.form
      obtain ⟨a2, cap2, rfl⟩ := h2.form
      have hsz := hT.size
      have g2' : ¬ (200 : Int) < ts.length := by omega
      have g3' : (2000 : Int) < bh.size := by omega
      go_enter Tryd.func8, Tryd.ntmps8
      go_wp2_with fail
      refine (few_any _ l _ h hl hs).mono ?_
      rintro e w1 ⟨fb, rfl, hsm, hb1⟩
      clear hsm
      cases fb
      all_goals
        go_wp2_with fail
        refine (awake_any _ (hT.below hb1 hsz)).mono ?_
        rintro e w2 ⟨rfl, hb2'⟩
        have hb2 : Hid (Below w.heap.size w w2) := hb1.trans (hb2'.mono hb1.size)
        clear hb1 hb2'
        go_wp2
        go_ret
        exact ⟨rfl, hb2.out⟩
  · obtain ⟨a0, cap0, rfl⟩ := h.form
    obtain ⟨a2, cap2, rfl⟩ := h2.form
    have hsz := hT.size
    have g2' : (200 : Int) < ts.length := by omega
    go_enter Tryd.func8, Tryd.ntmps8
    go_wp2_with fail
    refine (few_any _ l _ h hl hs).mono ?_
    rintro e w1 ⟨fb, rfl, hsm, hb1⟩
    clear hsm
    cases fb
    all_goals
      go_wp2_with fail
      refine (awake_any _ (hT.below hb1 hsz)).mono ?_
      rintro e w2 ⟨rfl, hb2'⟩
      have hb2 : Hid (Below w.heap.size w w2) := hb1.trans (hb2'.mono hb1.size)
      clear hb1 hb2'
      go_wp2
      go_ret
      exact ⟨rfl, hb2.out⟩
end Go.Proofs.YtcfhghjgphhegaaDoor
