/- QuicOnce: for every text and all kinds the law returns true, and what was there stays. -/
import Derived.Test.YtgnhehobeoealaaDoorM4
import Derived.Test.YtgnhehobeoealaaDoorH
namespace Go.Proofs.YtgnhehobeoealaaDoor
open Go.RowKit
set_option linter.unusedVariables false

theorem may_size {k n : Int} {s : ByteArray} (h : mayB k n s = true) : s.size ≤ 65536 := by
  have he : ∀ {b : Bool}, (s.toList.isEmpty && b) = true → s.size ≤ 65536 := by
    intro b hb
    rw [Bool.and_eq_true] at hb
    have := (nil_size s).1 (by simpa using hb.1)
    omega
  unfold mayB at h
  split at h
  · exact he h
  split at h
  · exact he h
  split at h
  · exact he h
  split at h
  · exact (of_decide_eq_true h).2
  · cases h
theorem takeR_bytes {s : ByteArray} {ks : List Int} (h : (takeR s ks).2.2 = 0) : (takeR s ks).1.all mayIt = true ∧ (takeR s ks).1.length = ks.length ∧ (takeR s ks).1.flatMap itB ++ (takeR s ks).2.1.data.toList = s.data.toList := by
  unfold takeR at h ⊢
  split at h
  · rename_i hk
    rw [if_pos hk]
    obtain ⟨ys, y1, y2, y3, y4⟩ := tk_bytes ks [] s hk h
    rw [List.nil_append] at y1
    rw [y1]
    exact ⟨y2, y3, y4⟩
  · simp at h
theorem cat_of {l : List UInt8} {r s : ByteArray} (h : l ++ r.data.toList = s.data.toList) : (⟨l.toArray⟩ : ByteArray) ++ r = s := by
  rw [ba_eta r, ba_append, h]
theorem cat_sum {l : List UInt8} {r s : ByteArray} (h : l ++ r.data.toList = s.data.toList) (hs : s.size ≤ 140737488355328) : ¬ 9223372036854775807 < (⟨l.toArray⟩ : ByteArray).size + r.size := by
  have := congrArg List.length h
  have e1 : (⟨l.toArray⟩ : ByteArray).size = l.length := by simp [ByteArray.size]
  have e2 : r.data.toList.length = r.size := by simp
  have e3 : s.data.toList.length = s.size := by simp
  rw [List.length_append] at this
  omega




set_option maxRecDepth 100000 in
set_option maxHeartbeats 2000000 in
theorem quicOnce_walk (s : ByteArray) (v : Value) (ks : List Int) (w : World) (hs : s.size ≤ 140737488355328) (h : IsRow w 1 v ks.length (intCells ks)) (hl : ks.length ≤ 140737488355328) (hx : True) (hT : Tab w) :
    Calls Tryd.prog 4 #[.string s, v] w fun e w' => e = .returned (.bool true) ∧ Below w.heap.size w w' := by
  obtain ⟨a0, cap0, rfl⟩ := h.form
  have hsz := hT.size
  by_cases g1 : 20000 < s.size
  · have g1' : (20000 : Int) < s.size := by omega
    go_enter Tryd.func4, Tryd.ntmps4
    go_wp2_with fail
    refine (awake_any _ hT).mono ?_
    rintro e w1 ⟨rfl, hb1⟩
    go_wp2
    go_ret
    exact ⟨rfl, hb1⟩
  have g1' : ¬ (20000 : Int) < s.size := by omega
  by_cases g2 : 200 < ks.length
  · have g2' : (200 : Int) < ks.length := by omega
    go_enter Tryd.func4, Tryd.ntmps4
    go_wp2_with fail
    refine (awake_any _ hT).mono ?_
    rintro e w1 ⟨rfl, hb1⟩
    go_wp2
    go_ret
    exact ⟨rfl, hb1⟩
  have g2' : ¬ (200 : Int) < ks.length := by omega
  go_enter Tryd.func4, Tryd.ntmps4
  go_wp2_with fail
  refine (take_any s _ ks _ hs h (by omega)).mono ?_
  rintro e w1 ⟨v1, rfl, h1, hb1⟩
  have hT1 := hT.below hb1 hsz
  by_cases ht : (takeR s ks).2.2 = 0
  · obtain ⟨b1, b2, b3⟩ := takeR_bytes ht
    rw [ht]
    have hcat := cat_of b3
    have hsum := cat_sum b3 hs
    have HM : Hid (∀ x ∈ (takeR s ks).1, x.s.size ≤ 140737488355328) := by
      show ∀ x ∈ (takeR s ks).1, x.s.size ≤ 140737488355328
      intro x hx
      have := may_size (List.all_eq_true.1 b1 x hx)
      omega
    have HB : Hid ((takeR s ks).1.all mayIt = true) := b1
    have HL : Hid ((takeR s ks).1.length = ks.length) := b2
    clear b1 b2 b3 ht
    generalize (takeR s ks).1 = l at *
    generalize (takeR s ks).2.1 = rest at *
    obtain ⟨a1, cap1, rfl⟩ := h1.form
    go_wp2_with fail
    refine (put_ok _ l _ h1 hT1 (by have := HL.out; omega) HM.out HB.out).mono ?_
    rintro e w2 ⟨rfl, hb2'⟩
    have hb2 := hb1.trans (hb2'.mono hb1.size)
    have hT2 := hT.below hb2 hsz
    clear hb1 hb2' hT1 h1
    generalize (⟨(l.flatMap itB).toArray⟩ : ByteArray) = X at *
    go_wp2_with fail
    clear hcat hsum HM HB HL
    refine (unlist_any s _ hs).mono ?_
    rintro e wa ⟨va, rfl, hva, hba'⟩
    have hba := hb2.trans (hba'.mono hb2.size)
    have hTa := hT.below hba hsz
    clear hb2 hba'
    by_cases hu : (unlistR s).2.2 = 0
    · obtain ⟨u1, u2, u3⟩ := unlist_bytes hu
      rw [hu]
      have hcat2 := cat_of u3
      have hsum2 := cat_sum u3 hs
      have HU1 : Hid ((unlistR s).1.all okT = true) := u1
      have HU2 : Hid ((unlistR s).1.length ≤ 4096) := u2
      clear u1 u2 u3 hu
      generalize (unlistR s).1 = l2 at *
      generalize (unlistR s).2.1 = rest2 at *
      obtain ⟨a3, cap3, rfl⟩ := hva.form
      go_wp2_with fail
      refine (list_ok _ l2 _ hva hTa HU2.out HU1.out).mono ?_
      rintro e wb ⟨rfl, hbb'⟩
      have hbb := hba.trans (hbb'.mono hba.size)
      have hTb := hT.below hbb hsz
      clear hba hbb' hTa hva
      generalize (⟨(numL l2.length ++ l2.flatMap txB).toArray⟩ : ByteArray) = Y at *
      go_wp2_with fail
      refine (awake_any _ hTb).mono ?_
      rintro e wc ⟨rfl, hbc'⟩
      have hbc : Hid (Below w.heap.size w wc) := hbb.trans (hbc'.mono hbb.size)
      clear hbb hbc' hTb
      go_wp2
      go_ret
      exact ⟨rfl, hbc.out⟩
    · obtain ⟨n1, n2⟩ := unlist_none hu
      rw [n1] at hva
      rw [n2]
      have hu' : ((unlistR s).2.2 != 0) = true := by rw [bne_iff_ne]; exact hu
      have hem : (⟨#[]⟩ : ByteArray).toList.isEmpty = true := isEmpty_to _ rfl
      clear hu n1 n2
      generalize (unlistR s).2.2 = ee at *
      obtain ⟨a3, cap3, rfl⟩ := hva.form
      go_wp2_with fail
      refine (awake_any _ hTa).mono ?_
      rintro e wc ⟨rfl, hbc'⟩
      have hbc : Hid (Below w.heap.size w wc) := hba.trans (hbc'.mono hba.size)
      clear hba hbc' hTa
      go_wp2
      go_ret
      exact ⟨rfl, hbc.out⟩
  · have ht' : ((takeR s ks).2.2 == 0) = false := by rw [beq_eq_false_iff_ne]; exact ht
    clear ht
    generalize (takeR s ks).2.2 = te at *
    generalize (takeR s ks).1 = l at *
    generalize (takeR s ks).2.1 = rest at *
    obtain ⟨a1, cap1, rfl⟩ := h1.form
    go_wp2_with fail
    refine (unlist_any s _ hs).mono ?_
    rintro e wa ⟨va, rfl, hva, hba'⟩
    have hba := hb1.trans (hba'.mono hb1.size)
    have hTa := hT.below hba hsz
    clear hb1 hba'
    by_cases hu : (unlistR s).2.2 = 0
    · obtain ⟨u1, u2, u3⟩ := unlist_bytes hu
      rw [hu]
      have hcat2 := cat_of u3
      have hsum2 := cat_sum u3 hs
      have HU1 : Hid ((unlistR s).1.all okT = true) := u1
      have HU2 : Hid ((unlistR s).1.length ≤ 4096) := u2
      clear u1 u2 u3 hu
      generalize (unlistR s).1 = l2 at *
      generalize (unlistR s).2.1 = rest2 at *
      obtain ⟨a3, cap3, rfl⟩ := hva.form
      go_wp2_with fail
      refine (list_ok _ l2 _ hva hTa HU2.out HU1.out).mono ?_
      rintro e wb ⟨rfl, hbb'⟩
      have hbb := hba.trans (hbb'.mono hba.size)
      have hTb := hT.below hbb hsz
      clear hba hbb' hTa hva
      generalize (⟨(numL l2.length ++ l2.flatMap txB).toArray⟩ : ByteArray) = Y at *
      go_wp2_with fail
      refine (awake_any _ hTb).mono ?_
      rintro e wc ⟨rfl, hbc'⟩
      have hbc : Hid (Below w.heap.size w wc) := hbb.trans (hbc'.mono hbb.size)
      clear hbb hbc' hTb
      go_wp2
      go_ret
      exact ⟨rfl, hbc.out⟩
    · obtain ⟨n1, n2⟩ := unlist_none hu
      rw [n1] at hva
      rw [n2]
      have hu' : ((unlistR s).2.2 != 0) = true := by rw [bne_iff_ne]; exact hu
      have hem : (⟨#[]⟩ : ByteArray).toList.isEmpty = true := isEmpty_to _ rfl
      clear hu n1 n2
      generalize (unlistR s).2.2 = ee at *
      obtain ⟨a3, cap3, rfl⟩ := hva.form
      go_wp2_with fail
      refine (awake_any _ hTa).mono ?_
      rintro e wc ⟨rfl, hbc'⟩
      have hbc : Hid (Below w.heap.size w wc) := hba.trans (hbc'.mono hba.size)
      clear hba hbc' hTa
      go_wp2
      go_ret
      exact ⟨rfl, hbc.out⟩
end Go.Proofs.YtgnhehobeoealaaDoor
