/- The reference's List and Unlist: their walks. -/
import Derived.Test.YtcfhghjgphhegaaDoorRT
import Derived.Test.YtcfhghjgphhegaaDoorL
namespace Go.Proofs.YtcfhghjgphhegaaDoor
open Go.RowKit

theorem ba_size' (l : List UInt8) : (⟨l.toArray⟩ : ByteArray).size = l.length := by simp [ByteArray.size]

set_option maxRecDepth 100000 in
set_option maxHeartbeats 2000000 in
theorem refList_ok (v : Value) (l : List ByteArray) (w : World) (h : IsRow w 1 v l.length (strVals l)) (hl : l.length ≤ 4096) (hok : l.all okT = true) :
    Calls Tryd.prog 27 #[v] w fun e w' => e = .returned (.tuple #[.string ⟨(numL l.length ++ l.flatMap txB).toArray⟩, .int .i64 0]) ∧ Below w.heap.size w w' := by
  obtain ⟨a0, cap0, rfl⟩ := h.form
  have hl' : ¬ (4096 : Int) < l.length := by omega
  have HB : Hid (l.all okT = true) := hok
  clear hok
  have hnz : (numL l.length).length ≤ 8 := by have := num_size_le l.length; have := strOfNums_len l.length; have := numL_len l.length; omega
  go_enter Tryd.func27, Tryd.ntmps27
  go_wp2_with fail
  refine (refNum_any _ _).mono ?_
  rintro e w1 ⟨rfl, hb1⟩
  go_wp2_with fail
  go_loopw [4, 5] (fun t i wr => ∃ k : Nat, k ≤ l.length ∧ i = .int .i64 k ∧ t = .string ⟨(numL l.length ++ (l.take k).flatMap txB).toArray⟩ ∧ Below w.heap.size w wr) (fun _ i _ => l.length - (intOf i).toNat)
  case atStart => exact ⟨0, Nat.zero_le _, rfl, by simp; rfl, hb1⟩
  case round =>
    obtain ⟨k, hk, rfl, rfl, hb⟩ := hrel
    have hsx := hb.size
    by_cases hlt : k < l.length
    · obtain ⟨b, off, rfl, hbl, c0⟩ := strs_at (h.below hb) k hlt
      have hi : (k : Int) < l.length := by omega
      have hok : okT l[k] = true := List.all_eq_true.1 HB.out _ (List.getElem_mem hlt)
      have hm : l[k].size ≤ 65536 := of_decide_eq_true hok
      have hm' : ¬ (65536 : Int) < l[k].size := by omega
      have hfl := flatT_len (l.take k) (allt_take' l k HB.out)
      have hlk : (l.take k).length ≤ 4096 := by simp; omega
      have hn2 := num_size_le l[k].size
      have HF : Hid ((⟨(numL l.length ++ (l.take k).flatMap txB).toArray⟩ : ByteArray) ++ strOfNums (numI l[k].size) ++ l[k] = ⟨(numL l.length ++ (l.take (k + 1)).flatMap txB).toArray⟩) := by
        show _ = _
        rw [List.take_succ_eq_append_getElem hlt, List.flatMap_append, str_num, ba_append, ba_eta l[k], ba_append]
        simp [txB]
      have hA : (⟨(numL l.length ++ (l.take k).flatMap txB).toArray⟩ : ByteArray).size ≤ 300000000 := by rw [ba_size', List.length_append]; omega
      generalize hAA : (⟨(numL l.length ++ (l.take k).flatMap txB).toArray⟩ : ByteArray) = A at *
      clear hok hfl hAA
      have hs1 : ¬ 9223372036854775807 < A.size + (strOfNums (numI l[k].size)).size := by omega
      have hs2 : ¬ 9223372036854775807 < (A ++ strOfNums (numI l[k].size)).size + l[k].size := by rw [ByteArray.size_append]; omega
      have hcx : ∀ wy, Below wr.heap.size wr wy → wy.cell? ⟨b, off + k, none⟩ = some (.string l[k]) := fun wy hy => (hy.cell (p := ⟨b, off + k, none⟩) hbl).trans c0
      go_wp2_with fail
      go_region_with (go_at_call 11; refine (refNum_any _ _).mono ?_; rintro e w2 ⟨rfl, hb2⟩; have hB2 : Below wr.heap.size wr w2 := Below.trans (Below.drew (Below.refl _ _)) hb2; have hc2 := hcx w2 hB2)
      all_goals go_wp2
      all_goals go_roundw
      all_goals first
        | exact ⟨k + 1, by omega, by go_num, by rw [HF.out], hb.trans (hB2.mono hsx)⟩
        | (simp [intOf]; omega)
    · have hk' : k = l.length := by omega
      subst hk'
      have E : Hid ((⟨(numL l.length ++ (l.take l.length).flatMap txB).toArray⟩ : ByteArray) = ⟨(numL l.length ++ l.flatMap txB).toArray⟩) := by show _ = _; rw [List.take_of_length_le (Nat.le_refl _)]
      go_wp2
      go_ret2
      exact ⟨by rw [← E.out]; rfl, hb⟩
set_option maxRecDepth 100000 in
set_option maxHeartbeats 2000000 in
theorem refList_bad (v : Value) (l : List ByteArray) (w : World) (h : IsRow w 1 v l.length (strVals l)) (hl : l.length ≤ 4096) (hs : ∀ x ∈ l, x.size ≤ 140737488355328) (hbad : l.all okT = false) :
    Calls Tryd.prog 27 #[v] w fun e w' => e = .returned (.tuple #[.string ⟨#[]⟩, .int .i64 2]) ∧ Below w.heap.size w w' := by
  obtain ⟨a0, cap0, rfl⟩ := h.form
  have hl' : ¬ (4096 : Int) < l.length := by omega
  have HB : Hid (l.all okT = false) := hbad
  clear hbad
  have hnz : (numL l.length).length ≤ 8 := by have := num_size_le l.length; have := strOfNums_len l.length; have := numL_len l.length; omega
  go_enter Tryd.func27, Tryd.ntmps27
  go_wp2_with fail
  refine (refNum_any _ _).mono ?_
  rintro e w1 ⟨rfl, hb1⟩
  go_wp2_with fail
  go_loopw [4, 5] (fun t i wr => ∃ k : Nat, k ≤ l.length ∧ i = .int .i64 k ∧ t = .string ⟨(numL l.length ++ (l.take k).flatMap txB).toArray⟩ ∧ (l.take k).all okT = true ∧ Below w.heap.size w wr) (fun _ i _ => l.length - (intOf i).toNat)
  case atStart => exact ⟨0, Nat.zero_le _, rfl, by simp; rfl, rfl, hb1⟩
  case round =>
    obtain ⟨k, hk, rfl, rfl, hall, hb⟩ := hrel
    have HA : Hid ((l.take k).all okT = true) := hall
    clear hall
    have hsx := hb.size
    by_cases hlt : k < l.length
    · obtain ⟨b, off, rfl, hbl, c0⟩ := strs_at (h.below hb) k hlt
      have hi : (k : Int) < l.length := by omega
      have hxs := hs _ (List.getElem_mem hlt)
      by_cases hm : l[k].size ≤ 65536
      · have hm' : ¬ (65536 : Int) < l[k].size := by omega
        have HN : Hid ((l.take (k + 1)).all okT = true) := allt_take hlt HA.out (by simp [okT, hm])
        have hfl := flatT_len (l.take k) HA.out
        have hlk : (l.take k).length ≤ 4096 := by simp; omega
        have hn2 := num_size_le l[k].size
        have HF : Hid ((⟨(numL l.length ++ (l.take k).flatMap txB).toArray⟩ : ByteArray) ++ strOfNums (numI l[k].size) ++ l[k] = ⟨(numL l.length ++ (l.take (k + 1)).flatMap txB).toArray⟩) := by
          show _ = _
          rw [List.take_succ_eq_append_getElem hlt, List.flatMap_append, str_num, ba_append, ba_eta l[k], ba_append]
          simp [txB]
        have hA : (⟨(numL l.length ++ (l.take k).flatMap txB).toArray⟩ : ByteArray).size ≤ 300000000 := by rw [ba_size', List.length_append]; omega
        generalize hAA : (⟨(numL l.length ++ (l.take k).flatMap txB).toArray⟩ : ByteArray) = A at *
        clear hfl hAA
        have hs1 : ¬ 9223372036854775807 < A.size + (strOfNums (numI l[k].size)).size := by omega
        have hs2 : ¬ 9223372036854775807 < (A ++ strOfNums (numI l[k].size)).size + l[k].size := by rw [ByteArray.size_append]; omega
        have hcx : ∀ wy, Below wr.heap.size wr wy → wy.cell? ⟨b, off + k, none⟩ = some (.string l[k]) := fun wy hy => (hy.cell (p := ⟨b, off + k, none⟩) hbl).trans c0
        go_wp2_with fail
        go_region_with (go_at_call 11; refine (refNum_any _ _).mono ?_; rintro e w2 ⟨rfl, hb2⟩; have hB2 : Below wr.heap.size wr w2 := Below.trans (Below.drew (Below.refl _ _)) hb2; have hc2 := hcx w2 hB2)
        all_goals go_wp2
        all_goals go_roundw
        all_goals first
          | exact ⟨k + 1, by omega, by go_num, by rw [HF.out], HN.out, hb.trans (hB2.mono hsx)⟩
          | (simp [intOf]; omega)
      · have hm' : (65536 : Int) < l[k].size := by omega
        go_wp2
        go_ret2
        exact ⟨rfl, hb⟩
    · exfalso
      have e : l.take k = l := List.take_of_length_le (by omega)
      have h1 := HA.out
      rw [e, HB.out] at h1
      cases h1
end Go.Proofs.YtcfhghjgphhegaaDoor
