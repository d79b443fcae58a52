/- How the reference reads a line, plainly. -/
import Derived.Test.YtnmfonpchbjeoaaGreatDoorLC
namespace Go.Proofs.YtnmfonpchbjeoaaGreatDoor
open Go.RowKit

/-- Where the first blank stands. -/
def fi : List UInt8 → Nat
  | [] => 0
  | c :: r => if c = 32 then 0 else fi r + 1
theorem fi_le : ∀ T : List UInt8, fi T ≤ T.length
  | [] => Nat.le_refl _
  | c :: r => by
    have := fi_le r
    unfold fi
    split
    · simp
    · rw [List.length_cons]; omega
theorem fi_lt : ∀ (T : List UInt8) (j : Nat), j < fi T → ∃ c, T[j]? = some c ∧ c ≠ 32
  | [], j, h => absurd h (by simp [fi])
  | c :: r, j, h => by
    unfold fi at h
    split at h
    · omega
    · rename_i hc
      cases j with
      | zero => exact ⟨c, rfl, hc⟩
      | succ j => exact fi_lt r j (by omega)
theorem fi_at : ∀ T : List UInt8, fi T < T.length → T[fi T]? = some 32
  | [], h => absurd h (by simp)
  | c :: r, h => by
    unfold fi at h ⊢
    by_cases hc : c = 32
    · rw [if_pos hc]; simp [hc]
    · rw [if_neg hc] at h ⊢
      rw [List.getElem?_cons_succ]
      exact fi_at r (by simpa using h)
theorem index_sp : ∀ T : List UInt8, Lib.index T [32] = if fi T < T.length then (fi T : Int) else -1
  | [] => rfl
  | c :: r => by
    have ih := index_sp r
    unfold Lib.index fi
    by_cases hc : c = 32
    · subst hc; simp
    · have hp : ([32] : List UInt8).isPrefixOf (c :: r) = false := by
        simp [List.isPrefixOf]
        exact fun h => hc h.symm
      rw [hp, if_neg hc, ih, List.length_cons]
      by_cases hl : fi r < r.length
      · have e1 : ((fi r : Int) == -1) = false := by rw [beq_eq_false_iff_ne]; omega
        have h2 : fi r + 1 < r.length + 1 := by omega
        simp only [hl, h2, if_true, e1, Bool.false_eq_true, if_false]
        omega
      · have h2 : ¬ fi r + 1 < r.length + 1 := by omega
        simp only [hl, h2, if_false, Bool.false_eq_true]
        rfl
theorem cut_sp (T : List UInt8) : Lib.cut T [32] = if fi T < T.length then (T.take (fi T), T.drop (fi T + 1), true) else (T, [], false) := by
  unfold Lib.cut
  rw [index_sp]
  by_cases hl : fi T < T.length
  · rw [if_pos hl, if_pos (by omega), if_pos hl]
    rfl
  · rw [if_neg hl, if_neg (by omega), if_neg hl]
theorem suf_iff (w : List UInt8) : Lib.hasSuffix w [33] = true ↔ ∃ t, w = t ++ [33] := by
  unfold Lib.hasSuffix
  rw [List.isSuffixOf_iff_suffix]
  exact ⟨fun ⟨t, h⟩ => ⟨t, h.symm⟩, fun ⟨t, h⟩ => ⟨t, h.symm⟩⟩
theorem parse_none {T : List UInt8} (h : ¬ fi T < T.length) : parseF T = ⟨str T, 0, false⟩ := by
  unfold parseF
  rw [cut_sp, if_neg h]
  rfl
theorem parse_must {T t : List UInt8} (h : fi T < T.length) (hw : T.drop (fi T + 1) = t ++ [33]) : parseF T = ⟨str (T.take (fi T)), kindW t, true⟩ := by
  unfold parseF
  rw [cut_sp, if_pos h]
  have hs : Lib.hasSuffix (T.drop (fi T + 1)) [33] = true := (suf_iff _).2 ⟨t, hw⟩
  have ht : Lib.trimSuffix (T.drop (fi T + 1)) [33] = t := by
    unfold Lib.trimSuffix
    rw [if_pos hs, hw]
    simp
  show (⟨_, kindW (Lib.trimSuffix (T.drop (fi T + 1)) [33]), Lib.hasSuffix (T.drop (fi T + 1)) [33]⟩ : Fd) = _
  rw [hs, ht]
theorem parse_may {T : List UInt8} (h : fi T < T.length) (hw : ¬ ∃ t, T.drop (fi T + 1) = t ++ [33]) : parseF T = ⟨str (T.take (fi T)), kindW (T.drop (fi T + 1)), false⟩ := by
  unfold parseF
  rw [cut_sp, if_pos h]
  have hs : Lib.hasSuffix (T.drop (fi T + 1)) [33] = false := by
    rw [← Bool.not_eq_true, suf_iff]; exact hw
  have ht : Lib.trimSuffix (T.drop (fi T + 1)) [33] = T.drop (fi T + 1) := by
    unfold Lib.trimSuffix
    rw [hs]; rfl
  show (⟨_, kindW (Lib.trimSuffix (T.drop (fi T + 1)) [33]), Lib.hasSuffix (T.drop (fi T + 1)) [33]⟩ : Fd) = _
  rw [hs, ht]
/-- The pieces between commas. -/
def pcs : List UInt8 → List (List UInt8)
  | [] => [[]]
  | c :: r => if c = 44 then [] :: pcs r else match pcs r with
    | [] => [[c]]
    | p :: q => (c :: p) :: q
theorem pcs_no : ∀ p : List UInt8, (∀ c ∈ p, c ≠ 44) → pcs p = [p]
  | [], _ => rfl
  | c :: r, h => by
    unfold pcs
    rw [if_neg (h c (by simp)), pcs_no r fun x hx => h x (by simp [hx])]
theorem pcs_cons : ∀ (p r : List UInt8), (∀ c ∈ p, c ≠ 44) → pcs (p ++ 44 :: r) = p :: pcs r
  | [], r, _ => by rw [List.nil_append]; conv => lhs; unfold pcs; rw [if_pos rfl]
  | c :: q, r, h => by
    rw [List.cons_append]
    conv => lhs; unfold pcs
    rw [if_neg (h c (by simp)), pcs_cons q r fun x hx => h x (by simp [hx])]
theorem pcs_len : ∀ s : List UInt8, (pcs s).length ≤ s.length + 1
  | [] => by simp [pcs]
  | c :: r => by
    have ih := pcs_len r
    unfold pcs
    by_cases hc : c = 44
    · rw [if_pos hc, List.length_cons, List.length_cons]; omega
    · rw [if_neg hc, List.length_cons]
      cases hp : pcs r with
      | nil => simp
      | cons p q => rw [hp] at ih; simp at ih ⊢; omega
theorem pcs_size : ∀ (s p : List UInt8), p ∈ pcs s → p.length ≤ s.length
  | [], p, h => by simp [pcs] at h; simp [h]
  | c :: r, p, h => by
    unfold pcs at h
    by_cases hc : c = 44
    · rw [if_pos hc] at h
      rcases List.mem_cons.1 h with rfl | h
      · simp
      · have := pcs_size r p h; rw [List.length_cons]; omega
    · rw [if_neg hc] at h
      cases hp : pcs r with
      | nil => rw [hp] at h; simp at h; simp [h]
      | cons a q =>
        rw [hp] at h
        rcases List.mem_cons.1 h with rfl | h
        · have := pcs_size r a (by rw [hp]; simp); simp; omega
        · have := pcs_size r p (by rw [hp]; simp [h]); rw [List.length_cons]; omega
/-- A piece behind the first, without the blank in front. -/
def trim1 (p : List UInt8) : List UInt8 := if p.head? = some 32 then p.drop 1 else p
def flds : List (List UInt8) → List Fd
  | [] => []
  | p :: r => parseF p :: r.map fun q => parseF (trim1 q)
theorem flds_first (p : List UInt8) : flds ([] ++ [p]) = flds [] ++ [parseF p] := rfl
theorem flds_snoc {D : List (List UInt8)} (h : D ≠ []) (p : List UInt8) : flds (D ++ [p]) = flds D ++ [parseF (trim1 p)] := by
  match D, h with
  | d :: D, _ => simp [flds]
theorem flds_len (D : List (List UInt8)) : (flds D).length = D.length := by
  cases D with
  | nil => rfl
  | cons d D => simp [flds]
theorem parseF_n (T : List UInt8) : (parseF T).n.size ≤ T.length := by
  show (str (Lib.cut T [32]).1).size ≤ _
  rw [str_size]
  exact cut_le1 T [32]
theorem trim1_len (p : List UInt8) : (trim1 p).length ≤ p.length := by
  unfold trim1
  split
  · simp
  · exact Nat.le_refl _
theorem flds_n (s : List UInt8) : ∀ x ∈ flds (pcs s), x.n.size ≤ s.length := by
  intro x hx
  have key : ∀ D : List (List UInt8), (∀ p ∈ D, p.length ≤ s.length) → ∀ x ∈ flds D, x.n.size ≤ s.length := by
    intro D hD x hx
    cases D with
    | nil => exact absurd hx (by simp [flds])
    | cons d D =>
      rcases List.mem_cons.1 hx with rfl | hx
      · exact Nat.le_trans (parseF_n d) (hD d (by simp))
      · obtain ⟨q, hq, rfl⟩ := List.mem_map.1 hx
        exact Nat.le_trans (parseF_n _) (Nat.le_trans (trim1_len q) (hD q (by simp [hq])))
  exact key _ (fun p hp => pcs_size s p hp) x hx
/-- What a line says by the reference. -/
def rparse (s : ByteArray) : List Fd × Int := if s.data.toList = [45] then ([], 0) else if s.data.toList = [] ∨ showL (flds (pcs s.data.toList)) ≠ s.data.toList then ([], 3) else (flds (pcs s.data.toList), 0)
end Go.Proofs.YtnmfonpchbjeoaaGreatDoor
