/- The reference's Text: a text at the front of bytes. -/
import Derived.Test.YtciibeldmcakeaaDoorK2
import Derived.Test.YtciibeldmcakeaaDoorT
import Derived.RegionTactic
import Derived.BigRegion
namespace Go.Proofs.YtciibeldmcakeaaDoor.Q
open Go.RowKit

theorem get_err {s : ByteArray} (h : ¬ getE s = 0) : getV s = 0 ∧ getRest s = ⟨#[]⟩ := by
  refine ⟨?_, ?_⟩
  · unfold getV; rw [if_neg h]
  · unfold getRest; rw [if_neg h]

set_option maxRecDepth 100000 in
set_option maxHeartbeats 2000000 in
theorem refText_any (s : ByteArray) (w : World) (hs : s.size ≤ 140737488355328) :
    Calls Tryd.prog 46 #[.string s] w fun e w' => e = .returned (.agg #[.int .i64 0, .string (ttS s), .string (ttR s), .int .i64 (ttE s)]) ∧ Below w.heap.size w w' := by
  have hv := getV_nn s
  have hr := getRest_size s
  by_cases h0 : getE s = 0
  · by_cases h1 : 65536 < getV s
    · have e1 : ttE s = 2 := by unfold ttE; rw [if_neg (by omega), if_pos h1]
      have e2 : ttS s = ⟨#[]⟩ := by unfold ttS; rw [if_neg (by omega)]
      have e3 : ttR s = ⟨#[]⟩ := by unfold ttR; rw [if_neg (by omega)]
      rw [e1, e2, e3]
      clear e1 e2 e3
      have H0 : Hid (getE s = 0) := h0
      clear h0
      go_enter Tryd.func46, Tryd.ntmps46
      go_wp2_with fail
      refine (refGet_any _ _ hs).mono ?_
      rintro e w1 ⟨rfl, hb1⟩
      obtain ⟨hc, hf, hbl, hz⟩ := part_cells0 hb1
      clear hb1
      rw [H0.out]
      go_wp2
      refine bodyPost_ret (v := .agg #[.int .i64 0, .string ⟨#[]⟩, .string ⟨#[]⟩, .int .i64 2]) (by simp [results, Tryd.results46, go_sem, hc, hz]) rfl ⟨rfl, ?_⟩
      repeat (first | exact hbl | refine Below.setCell ?_ (by exact Nat.le_refl _) _ | refine Below.alloc ?_ (by simp; omega) _ | refine Below.drew ?_)
    · by_cases h2 : ((getRest s).size : Int) < getV s
      · have e1 : ttE s = 7 := by unfold ttE; rw [if_neg (by omega), if_neg h1, if_pos h2]
        have e2 : ttS s = ⟨#[]⟩ := by unfold ttS; rw [if_neg (by omega)]
        have e3 : ttR s = ⟨#[]⟩ := by unfold ttR; rw [if_neg (by omega)]
        rw [e1, e2, e3]
        clear e1 e2 e3
        have H0 : Hid (getE s = 0) := h0
        clear h0
        go_enter Tryd.func46, Tryd.ntmps46
        go_wp2_with fail
        refine (refGet_any _ _ hs).mono ?_
        rintro e w1 ⟨rfl, hb1⟩
        obtain ⟨hc, hf, hbl, hz⟩ := part_cells0 hb1
        clear hb1
        rw [H0.out]
        go_wp2
        refine bodyPost_ret (v := .agg #[.int .i64 0, .string ⟨#[]⟩, .string ⟨#[]⟩, .int .i64 7]) (by simp [results, Tryd.results46, go_sem, hc, hz]) rfl ⟨rfl, ?_⟩
        repeat (first | exact hbl | refine Below.setCell ?_ (by exact Nat.le_refl _) _ | refine Below.alloc ?_ (by simp; omega) _ | refine Below.drew ?_)
      · have e1 : ttE s = 0 := by unfold ttE; rw [if_neg (by omega), if_neg h1, if_neg h2]
        have e2 : ttS s = (getRest s).extract 0 (getV s).toNat := by unfold ttS; rw [if_pos e1]
        have e3 : ttR s = (getRest s).extract (getV s).toNat (getRest s).size := by unfold ttR; rw [if_pos e1]
        rw [e1, e2, e3]
        clear e1 e2 e3
        have H0 : Hid (getE s = 0) := h0
        clear h0
        have h3 : getV s ≤ ((getRest s).size : Int) := by omega
        have h4 : (getV s).toNat ≤ (getRest s).size := by omega
        go_enter Tryd.func46, Tryd.ntmps46
        go_wp2_with fail
        refine (refGet_any _ _ hs).mono ?_
        rintro e w1 ⟨rfl, hb1⟩
        obtain ⟨hc, hf, hbl, hz⟩ := part_cells0 hb1
        clear hb1
        rw [H0.out]
        go_wp2
        go_region
        all_goals go_wp2
        all_goals refine bodyPost_ret (v := .agg #[.int .i64 0, .string ((getRest s).extract 0 (getV s).toNat), .string ((getRest s).extract (getV s).toNat (getRest s).size), .int .i64 0]) (by simp [results, Tryd.results46, go_sem, hc, hz]) rfl ⟨rfl, ?_⟩
        all_goals (repeat (first | exact hbl | refine Below.setCell ?_ (by exact Nat.le_refl _) _ | refine Below.alloc ?_ (by simp; omega) _ | refine Below.drew ?_))
  · have hge := get_err h0
    have e1 : ttE s = getE s := by unfold ttE; rw [if_pos h0]
    have e2 : ttS s = ⟨#[]⟩ := by unfold ttS; rw [if_neg (by omega)]
    have e3 : ttR s = ⟨#[]⟩ := by unfold ttR; rw [if_neg (by omega)]
    rw [e1, e2, e3]
    clear e1 e2 e3
    have h0' : (getE s != 0) = true := by rw [bne_iff_ne]; exact h0
    clear h0
    have HE1 : Hid (getV s = 0) := hge.1
    have HE2 : Hid (getRest s = ⟨#[]⟩) := hge.2
    clear hge
    go_enter Tryd.func46, Tryd.ntmps46
    go_wp2_with fail
    refine (refGet_any _ _ hs).mono ?_
    rintro e w1 ⟨rfl, hb1⟩
    obtain ⟨hc, hf, hbl, hz⟩ := part_cells0 hb1
    clear hb1
    rw [HE1.out, HE2.out]
    go_wp2
    refine bodyPost_ret (v := .agg #[.int .i64 0, .string ⟨#[]⟩, .string ⟨#[]⟩, .int .i64 (getE s)]) (by simp [results, Tryd.results46, go_sem, hc, hz]) rfl ⟨rfl, ?_⟩
    repeat (first | exact hbl | refine Below.setCell ?_ (by exact Nat.le_refl _) _ | refine Below.alloc ?_ (by simp; omega) _ | refine Below.drew ?_)
end Go.Proofs.YtciibeldmcakeaaDoor.Q
