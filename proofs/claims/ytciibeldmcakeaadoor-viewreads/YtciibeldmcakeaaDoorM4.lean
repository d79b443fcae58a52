/- Plain mathematics: what is read, written again, are the bytes that were read. -/
import Derived.Test.YtciibeldmcakeaaDoorM3
import Derived.Test.YtciibeldmcakeaaDoorL
namespace Go.Proofs.YtciibeldmcakeaaDoor.Q
open Go.RowKit

theorem extract_back (s : ByteArray) (a : Nat) : (s.extract a s.size).data.toList = s.data.toList.drop a := by
  rw [ByteArray.data_extract, Array.toList_extract, List.extract_eq_take_drop]
  exact List.take_of_length_le (by rw [List.length_drop, Array.length_toList]; exact Nat.le_refl _)
theorem extract_front' (s : ByteArray) (a : Nat) : (s.extract 0 a).data.toList = s.data.toList.take a := by
  rw [ByteArray.data_extract]
  simp

theorem getE_zero {s : ByteArray} (h : getE s = 0) : gsz s ≤ s.size ∧ qsize (gval s) = gsz s := by
  unfold getE at h
  split at h
  · omega
  · split at h
    · exact ⟨by omega, by assumption⟩
    · omega
theorem get_bytes {s : ByteArray} (h : getE s = 0) : numL (getV s) ++ (getRest s).data.toList = s.data.toList := by
  obtain ⟨h1, h2⟩ := getE_zero h
  have e1 : getV s = gval s := by unfold getV; rw [if_pos h]
  have e2 : getRest s = s.extract (gsz s) s.size := by unfold getRest; rw [if_pos h]
  have hf := num_front s h1
  rw [decide_eq_true h2, beq_iff_eq, strOfNums_toList, extract_front] at hf
  rw [e1, e2, hf, extract_back]
  exact List.take_append_drop _ _

theorem zig_wof (n : Int) (h0 : 0 ≤ n) (h1 : n ≤ 4611686018427387903) : zig (wof n) = n ∧ -2305843009213693952 ≤ wof n ∧ wof n ≤ 2305843009213693951 := by
  unfold wof
  split
  · refine ⟨?_, by omega, by omega⟩
    rw [zig_pos (by omega) (by omega)]; omega
  · refine ⟨?_, by omega, by omega⟩
    rw [zig_neg (by omega) (by omega)]; omega

theorem text_bytes {s : ByteArray} (h : ttE s = 0) : (ttS s).size ≤ 65536 ∧ txB (ttS s) ++ (ttR s).data.toList = s.data.toList := by
  have hv := getV_nn s
  have e1 : ttS s = (getRest s).extract 0 (getV s).toNat := by unfold ttS; rw [if_pos h]
  have e2 : ttR s = (getRest s).extract (getV s).toNat (getRest s).size := by unfold ttR; rw [if_pos h]
  unfold ttE at h
  split at h
  · rename_i hn; exact absurd h hn
  rename_i hg
  have hg : getE s = 0 := by simpa using hg
  split at h
  · omega
  split at h
  · omega
  have hz : ((getRest s).extract 0 (getV s).toNat).size = (getV s).toNat := by rw [size_extract _ _ _ (by omega)]; omega
  rw [e1, e2]
  refine ⟨by omega, ?_⟩
  unfold txB
  rw [hz, Int.toNat_of_nonneg hv.1, extract_front', extract_back, List.append_assoc, List.take_append_drop]
  exact get_bytes hg

theorem item_bytes {s : ByteArray} {k : Int} (h1 : 1 ≤ k) (h4 : k ≤ 4) (h : tE s k = 0) : mayB k (tN s k) (tS s k) = true ∧ itB ⟨k, tN s k, tS s k⟩ ++ (tR s k).data.toList = s.data.toList := by
  have hv := getV_nn s
  obtain rfl | rfl | rfl | rfl : k = 1 ∨ k = 2 ∨ k = 3 ∨ k = 4 := by omega
  · have h : getE s = 0 := h
    refine ⟨?_, ?_⟩
    · show mayB 1 (getV s) ⟨#[]⟩ = true
      have : decide (0 ≤ getV s ∧ getV s ≤ 4611686018427387903) = true := decide_eq_true hv
      unfold mayB
      rw [if_pos rfl, this, isEmpty_to ⟨#[]⟩ rfl]
      rfl
    · show numL (getV s) ++ (getRest s).data.toList = _
      exact get_bytes h
  · have h : getE s = 0 := h
    obtain ⟨z1, z2, z3⟩ := zig_wof (getV s) hv.1 hv.2
    refine ⟨?_, ?_⟩
    · show mayB 2 (wof (getV s)) ⟨#[]⟩ = true
      have : decide (-2305843009213693952 ≤ wof (getV s) ∧ wof (getV s) ≤ 2305843009213693951) = true := decide_eq_true ⟨z2, z3⟩
      unfold mayB
      rw [if_neg (by decide), if_pos rfl, this, isEmpty_to ⟨#[]⟩ rfl]
      rfl
    · show numL (zig (wof (getV s))) ++ (getRest s).data.toList = _
      rw [z1]
      exact get_bytes h
  · have h : tfE s = 0 := h
    have hb := bt_rng s 0
    have e1 : tfV s = bt s 0 := by unfold tfV; rw [if_pos h]
    have e2 : tfR s = s.extract 1 s.size := by unfold tfR; rw [if_pos h]
    unfold tfE at h
    split at h
    · omega
    split at h
    · omega
    rename_i hz ho
    refine ⟨?_, ?_⟩
    · show mayB 3 (tfV s) ⟨#[]⟩ = true
      have : decide (tfV s = 0 ∨ tfV s = 1) = true := decide_eq_true (by omega)
      unfold mayB
      rw [if_neg (by decide), if_neg (by decide), if_pos rfl, this, isEmpty_to ⟨#[]⟩ rfl]
      rfl
    · show [UInt8.ofNat (tfV s).toNat] ++ (tfR s).data.toList = _
      rw [e1, e2, extract_back]
      have ht := take_bt s 1 (by omega)
      have : [UInt8.ofNat (bt s 0).toNat] = s.data.toList.take 1 := by rw [ht]; rfl
      rw [this]
      exact List.take_append_drop _ _
  · have h : ttE s = 0 := h
    obtain ⟨t1, t2⟩ := text_bytes h
    refine ⟨?_, ?_⟩
    · show mayB 4 0 (ttS s) = true
      unfold mayB
      rw [if_neg (by decide), if_neg (by decide), if_neg (by decide), if_pos rfl]
      exact decide_eq_true ⟨rfl, t1⟩
    · exact t2

theorem tk_bytes : ∀ (ks : List Int) (acc : List It) (s : ByteArray), ks.all isK = true → (tk acc s ks).2.2 = 0 →
    ∃ ys : List It, (tk acc s ks).1 = acc ++ ys ∧ ys.all mayIt = true ∧ ys.length = ks.length ∧ ys.flatMap itB ++ (tk acc s ks).2.1.data.toList = s.data.toList
  | [], acc, s, _, _ => ⟨[], by simp [tk], rfl, rfl, by simp [tk]⟩
  | k :: ks, acc, s, hk, h => by
    simp only [List.all_cons, Bool.and_eq_true] at hk
    by_cases he : tE s k = 0
    · have e : tk acc s (k :: ks) = tk (acc ++ [⟨k, tN s k, tS s k⟩]) (tR s k) ks := by
        show (if tE s k = 0 then _ else _) = _
        rw [if_pos he]
      rw [e] at h ⊢
      obtain ⟨ys, y1, y2, y3, y4⟩ := tk_bytes ks _ _ hk.2 h
      have hk1 := of_decide_eq_true hk.1
      obtain ⟨m, b⟩ := item_bytes hk1.1 hk1.2 he
      refine ⟨⟨k, tN s k, tS s k⟩ :: ys, ?_, ?_, ?_, ?_⟩
      · rw [y1]; simp
      · simp only [List.all_cons, y2, Bool.and_true]; exact m
      · simp [y3]
      · rw [List.flatMap_cons, List.append_assoc, y4, b]
    · exfalso
      have e : tk acc s (k :: ks) = ([], ⟨#[]⟩, tE s k) := by
        show (if tE s k = 0 then _ else _) = _
        rw [if_neg he]
      rw [e] at h
      exact he h

theorem ul_bytes : ∀ (n : Nat) (acc : List ByteArray) (s : ByteArray), (ul acc s n).2.2 = 0 →
    ∃ ys : List ByteArray, (ul acc s n).1 = acc ++ ys ∧ ys.all okT = true ∧ ys.length = n ∧ ys.flatMap txB ++ (ul acc s n).2.1.data.toList = s.data.toList
  | 0, acc, s, _ => ⟨[], by simp [ul], rfl, rfl, by simp [ul]⟩
  | n + 1, acc, s, h => by
    by_cases he : ttE s = 0
    · have e : ul acc s (n + 1) = ul (acc ++ [ttS s]) (ttR s) n := by
        show (if ttE s = 0 then _ else _) = _
        rw [if_pos he]
      rw [e] at h ⊢
      obtain ⟨ys, y1, y2, y3, y4⟩ := ul_bytes n _ _ h
      obtain ⟨m, b⟩ := text_bytes he
      refine ⟨ttS s :: ys, ?_, ?_, ?_, ?_⟩
      · rw [y1]; simp
      · simp only [List.all_cons, y2, Bool.and_true]; exact decide_eq_true m
      · simp [y3]
      · rw [List.flatMap_cons, List.append_assoc, y4, b]
    · exfalso
      have e : ul acc s (n + 1) = ([], ⟨#[]⟩, ttE s) := by
        show (if ttE s = 0 then _ else _) = _
        rw [if_neg he]
      rw [e] at h
      exact he h
/-- A list that was read, written again. -/
theorem unlist_bytes {s : ByteArray} (h : (unlistR s).2.2 = 0) : (unlistR s).1.all okT = true ∧ (unlistR s).1.length ≤ 4096 ∧ (numL (unlistR s).1.length ++ (unlistR s).1.flatMap txB) ++ (unlistR s).2.1.data.toList = s.data.toList := by
  have hv := getV_nn s
  unfold unlistR at h ⊢
  split at h
  · rename_i hn; exact absurd h hn
  rename_i hg
  have hg : getE s = 0 := by simpa using hg
  rw [if_neg (by omega)]
  split at h
  · simp at h
  rename_i hl
  rw [if_neg hl]
  obtain ⟨ys, y1, y2, y3, y4⟩ := ul_bytes _ _ _ h
  rw [List.nil_append] at y1
  rw [y1]
  refine ⟨y2, by omega, ?_⟩
  rw [y3, Int.toNat_of_nonneg hv.1, List.append_assoc, y4]
  exact get_bytes hg
/-- Where it was not read there is nothing. -/
theorem unlist_none {s : ByteArray} (h : ¬ (unlistR s).2.2 = 0) : (unlistR s).1 = [] ∧ (unlistR s).2.1 = ⟨#[]⟩ := by
  have key : ∀ (n : Nat) (acc : List ByteArray) (s : ByteArray), ¬ (ul acc s n).2.2 = 0 → (ul acc s n).1 = [] ∧ (ul acc s n).2.1 = ⟨#[]⟩ := by
    intro n
    induction n with
    | zero => intro acc s h; exact absurd rfl h
    | succ n ih =>
      intro acc s h
      by_cases he : ttE s = 0
      · have e : ul acc s (n + 1) = ul (acc ++ [ttS s]) (ttR s) n := by
          show (if ttE s = 0 then _ else _) = _
          rw [if_pos he]
        rw [e] at h ⊢
        exact ih _ _ h
      · have e : ul acc s (n + 1) = ([], ⟨#[]⟩, ttE s) := by
          show (if ttE s = 0 then _ else _) = _
          rw [if_neg he]
        rw [e]
        exact ⟨rfl, rfl⟩
  unfold unlistR at h ⊢
  split
  · exact ⟨rfl, rfl⟩
  split
  · exact ⟨rfl, rfl⟩
  · rename_i h1 h2
    rw [if_neg h1, if_neg h2] at h
    exact key _ _ _ h
end Go.Proofs.YtciibeldmcakeaaDoor.Q
