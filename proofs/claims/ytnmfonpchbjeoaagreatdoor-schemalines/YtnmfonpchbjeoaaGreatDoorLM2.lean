/- What the program reads of a line is what the reference reads: mathematics. -/
import Derived.Test.YtnmfonpchbjeoaaGreatDoorLM
namespace Go.Proofs.YtnmfonpchbjeoaaGreatDoor
open Go.RowKit

theorem tail_cons (y : List UInt8) (ys : List (List UInt8)) : Lib.joinTail [44, 32] (y :: ys) = 44 :: 32 :: (y ++ Lib.joinTail [44, 32] ys) := by simp [Lib.joinTail]
theorem pcs_join : ∀ (ys : List (List UInt8)) (a : List UInt8), (∀ c ∈ a, c ≠ 44) → (∀ y ∈ ys, ∀ c ∈ y, c ≠ 44) → pcs (a ++ Lib.joinTail [44, 32] ys) = a :: ys.map (32 :: ·)
  | [], a, ha, _ => by
    have e : Lib.joinTail [44, 32] [] = [] := rfl
    rw [e, List.append_nil, pcs_no a ha]; rfl
  | y :: ys, a, ha, hy => by
    rw [tail_cons, pcs_cons a _ ha]
    have := pcs_join ys (32 :: y) (fun c hc => by
      rcases List.mem_cons.1 hc with rfl | hc
      · decide
      · exact hy y (by simp) c hc) (fun z hz => hy z (by simp [hz]))
    rw [List.cons_append] at this
    rw [this]
    rfl
theorem flds_join {F : List Fd} (h : ∀ x ∈ F, mayF x = true) (h0 : F ≠ []) : flds (pcs (Lib.join (F.map shF) [44, 32])) = F := by
  match F, h0 with
  | x :: r, _ =>
    rw [List.map_cons, Lib.join_cons, pcs_join _ _ (shF_no (h x (by simp))) (fun y hy => by
      obtain ⟨z, hz, rfl⟩ := List.mem_map.1 hy
      exact shF_no (h z (by simp [hz])))]
    show parseF (shF x) :: ((r.map shF).map (32 :: ·)).map (fun q => parseF (trim1 q)) = x :: r
    rw [parse_show (h x (by simp)), List.map_map, List.map_map]
    congr 1
    conv => rhs; rw [← List.map_id r]
    refine List.map_congr_left fun z hz => ?_
    show parseF (trim1 (32 :: shF z)) = z
    have e : trim1 (32 :: shF z) = shF z := by simp [trim1]
    rw [e, parse_show (h z (by simp [hz]))]
theorem occ_44 {s : List UInt8} {j : Nat} (h : Lib.occAt s [44, 32] j = true) : s[j]? = some 44 := Lib.occAt_head rfl h
theorem idx_none {a : List UInt8} (ha : ∀ c ∈ a, c ≠ 44) : Lib.index a [44, 32] = -1 := by
  refine Lib.index_none fun j _ => ?_
  rw [← Bool.not_eq_true]
  intro h
  have := occ_44 h
  exact ha 44 (List.mem_of_getElem? this) rfl
theorem idx_at {a : List UInt8} (r : List UInt8) (ha : ∀ c ∈ a, c ≠ 44) : Lib.index (a ++ 44 :: 32 :: r) [44, 32] = (a.length : Int) := by
  refine Lib.index_first (by simp) ?_ fun j hj => ?_
  · unfold Lib.occAt
    rw [List.drop_left]
    simp [List.isPrefixOf]
  · rw [← Bool.not_eq_true]
    intro h
    have := occ_44 h
    rw [List.getElem?_append_left hj] at this
    exact ha 44 (List.mem_of_getElem? this) rfl
theorem split_join : ∀ (ys : List (List UInt8)) (a : List UInt8) (k : Nat), ys.length ≤ k → (∀ c ∈ a, c ≠ 44) → (∀ y ∈ ys, ∀ c ∈ y, c ≠ 44) → Lib.splitB ⟨#[44, 32]⟩ 0 k (str (a ++ Lib.joinTail [44, 32] ys)) = str a :: ys.map str
  | [], a, k, _, ha, _ => by
    have e : Lib.joinTail [44, 32] [] = [] := rfl
    rw [e, List.append_nil]
    refine Lib.splitB_miss _ _ _ _ ?_
    show Lib.index (str a).data.toList [44, 32] = -1
    rw [str_data]
    exact idx_none ha
  | y :: ys, a, 0, h, _, _ => absurd h (by simp)
  | y :: ys, a, k + 1, h, ha, hy => by
    rw [tail_cons]
    have hi : Lib.indexB (str (a ++ 44 :: 32 :: (y ++ Lib.joinTail [44, 32] ys))) ⟨#[44, 32]⟩ = (a.length : Int) := by
      show Lib.index (str _).data.toList [44, 32] = _
      rw [str_data]
      exact idx_at _ ha
    rw [Lib.splitB_hit _ _ _ _ _ hi]
    have e1 : (str (a ++ 44 :: 32 :: (y ++ Lib.joinTail [44, 32] ys))).extract 0 (a.length + 0) = str a := by
      rw [ext_str, str_data]
      simp
    have e2 : (str (a ++ 44 :: 32 :: (y ++ Lib.joinTail [44, 32] ys))).extract (a.length + (⟨#[44, 32]⟩ : ByteArray).size) (str (a ++ 44 :: 32 :: (y ++ Lib.joinTail [44, 32] ys))).size = str (y ++ Lib.joinTail [44, 32] ys) := by
      have e3 := ext_list (str (a ++ 44 :: 32 :: (y ++ Lib.joinTail [44, 32] ys))) (a.length + (⟨#[44, 32]⟩ : ByteArray).size)
      rw [str_data] at e3
      rw [← str_of (ByteArray.extract _ _ _), e3]
      congr 1
      show (a ++ 44 :: 32 :: (y ++ Lib.joinTail [44, 32] ys)).drop (a.length + 2) = _
      rw [List.drop_append]
      simp
    rw [e1, e2, split_join ys y k (by simpa using h) (hy y (by simp)) (fun z hz => hy z (by simp [hz]))]
    rfl
theorem parse_join {F : List Fd} (h : ∀ x ∈ F, mayF x = true) (h0 : F ≠ []) (h24 : F.length ≤ 24) (hz : F.length ≤ (Lib.join (F.map shF) [44, 32]).length + 1) : parseL (str (Lib.join (F.map shF) [44, 32])) = F := by
  match F, h0 with
  | x :: r, _ =>
    unfold parseL pL
    rw [str_size]
    have hk : r.length ≤ min 25 ((Lib.join ((x :: r).map shF) [44, 32]).length + 1) - 1 := by rw [List.length_cons] at h24 hz; omega
    generalize min 25 ((Lib.join ((x :: r).map shF) [44, 32]).length + 1) - 1 = k at *
    rw [List.map_cons, Lib.join_cons, split_join _ _ _ (by rw [List.length_map]; exact hk) (shF_no (h x (by simp))) (fun y hy => by
      obtain ⟨z, hz, rfl⟩ := List.mem_map.1 hy
      exact shF_no (h z (by simp [hz])))]
    show parseF (str (shF x)).data.toList :: ((r.map shF).map str).map (fun q => parseF q.data.toList) = x :: r
    rw [str_data, parse_show (h x (by simp)), List.map_map, List.map_map]
    congr 1
    conv => rhs; rw [← List.map_id r]
    refine List.map_congr_left fun z hz => ?_
    show parseF (str (shF z)).data.toList = z
    rw [str_data, parse_show (h z (by simp [hz]))]
theorem join_split : ∀ (k : Nat) (s : ByteArray), Lib.join ((Lib.splitB ⟨#[44, 32]⟩ 0 k s).map fun y => y.data.toList) [44, 32] = s.data.toList
  | 0, s => Lib.join_one _ _
  | k + 1, s => by
    rcases Lib.index_spec s.data.toList [44, 32] with ⟨h, _⟩ | ⟨i, h, hi, ho, _⟩
    · rw [Lib.splitB_miss _ _ _ _ h]
      exact Lib.join_one _ _
    · rw [Lib.splitB_hit _ _ _ _ i h]
      have ih := join_split k (s.extract (i + (⟨#[44, 32]⟩ : ByteArray).size) s.size)
      have hne : Lib.splitB ⟨#[44, 32]⟩ 0 k (s.extract (i + (⟨#[44, 32]⟩ : ByteArray).size) s.size) ≠ [] := by
        cases k with
        | zero => simp [Lib.splitB]
        | succ k => unfold Lib.splitB; split <;> simp
      generalize Lib.splitB ⟨#[44, 32]⟩ 0 k (s.extract (i + (⟨#[44, 32]⟩ : ByteArray).size) s.size) = R at *
      match R, hne with
      | y :: ys, _ =>
        rw [List.map_cons, Lib.join_cons] at ih
        rw [List.map_cons, List.map_cons, Lib.join_cons, tail_cons, ih, ext_mid, ext_list]
        have hp : s.data.toList.drop i = 44 :: 32 :: s.data.toList.drop (i + 2) := by
          unfold Lib.occAt at ho
          obtain ⟨t, ht⟩ := List.isPrefixOf_iff_prefix.1 ho
          rw [← List.drop_drop, ← ht]
          rfl
        show (s.data.toList.drop 0).take (i + 0 - 0) ++ 44 :: 32 :: s.data.toList.drop (i + 2) = _
        rw [← hp]
        simp
/-- A line that says a schema is the schema's line. -/
theorem show_of_parse {s : ByteArray} (h : chkF (parseL s) = true) : Lib.join ((parseL s).map shF) [44, 32] = s.data.toList := by
  have e := join_split (min 25 (s.size + 1) - 1) s
  rw [← e]
  unfold parseL pL at *
  congr 1
  rw [List.map_map]
  refine List.map_congr_left fun y hy => ?_
  show shF (parseF y.data.toList) = y.data.toList
  refine show_parse ?_
  obtain ⟨k, hk, e2⟩ := List.getElem_of_mem hy
  have := (chk_ok h k (by rw [List.length_map]; exact hk)).1
  rw [List.getElem_map, e2] at this
  exact this
theorem parseL_ne (s : ByteArray) : parseL s ≠ [] := by
  unfold parseL pL
  generalize min 25 (s.size + 1) - 1 = k
  cases k with
  | zero => simp [Lib.splitB]
  | succ k => unfold Lib.splitB; split <;> simp
theorem pcs_ne (l : List UInt8) : pcs l ≠ [] := by
  cases l with
  | nil => simp [pcs]
  | cons c r => unfold pcs; split; · simp
                split <;> simp
theorem flds_ne {D : List (List UInt8)} (h : D ≠ []) : flds D ≠ [] := by
  cases D with
  | nil => exact absurd rfl h
  | cons d D => simp [flds]
theorem chk_may {F : List Fd} (h : chkF F = true) : ∀ x ∈ F, mayF x = true := fun x hx => by
  obtain ⟨k, hk, rfl⟩ := List.getElem_of_mem hx
  exact (chk_ok h k hk).1
theorem len_join : ∀ F : List Fd, F.length ≤ (Lib.join (F.map shF) [44, 32]).length + 1
  | [] => by simp
  | x :: r => by
    rw [List.map_cons, join_len]
    simp
    omega
/-- The reference reads what the program reads. -/
theorem rparse_eq (s : ByteArray) : rparse s = parseR s := by
  unfold rparse parseR
  by_cases h45 : s.data.toList = [45]
  · rw [if_pos h45, if_pos h45]
  rw [if_neg h45, if_neg h45]
  by_cases hc : chkF (parseL s) = true
  · have e := show_of_parse hc
    have h0 := parseL_ne s
    have hf := flds_join (chk_may hc) h0
    rw [e] at hf
    have hl : (parseL s).length ≠ 0 := fun h => h0 (List.length_eq_zero_iff.1 h)
    have hsh : showL (parseL s) = s.data.toList := by unfold showL; rw [if_pos hc, if_neg hl, e]
    rw [if_pos hc, hf]
    rw [if_neg]
    intro h
    rcases h with h | h
    · obtain ⟨x, r, er⟩ := List.exists_cons_of_ne_nil h0
      rw [er, List.map_cons, Lib.join_cons, h] at e
      have := congrArg List.length e
      unfold shF at this
      simp at this
    · exact h hsh
  · rw [if_neg hc, if_pos]
    rw [Classical.or_iff_not_imp_left]
    intro hs h
    have hk : chkF (flds (pcs s.data.toList)) = true := by
      rw [← Bool.not_eq_false]
      intro e
      unfold showL at h
      rw [e] at h
      exact hs h.symm
    have hn := flds_ne (pcs_ne s.data.toList)
    have hl : (flds (pcs s.data.toList)).length ≠ 0 := fun h => hn (List.length_eq_zero_iff.1 h)
    unfold showL at h
    rw [if_pos hk, if_neg hl] at h
    have hp := parse_join (chk_may hk) hn (chk_len hk) (len_join _)
    rw [h, str_of] at hp
    rw [hp] at hc
    exact hc hk
end Go.Proofs.YtnmfonpchbjeoaaGreatDoor
