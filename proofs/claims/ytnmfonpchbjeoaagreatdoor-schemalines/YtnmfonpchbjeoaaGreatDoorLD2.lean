/- What holds while the reference reads a line. -/
import Derived.Test.YtnmfonpchbjeoaaGreatDoorLD
namespace Go.Proofs.YtnmfonpchbjeoaaGreatDoor
open Go.RowKit

/-- What is read behind the first i bytes: the pieces D, the last one's start at fr. -/
def PInv (L : List UInt8) (D : List (List UInt8)) (fr i : Nat) : Prop :=
  (i ≤ L.length → pcs L = D ++ pcs (L.drop fr) ∧ ∀ j, fr ≤ j → j < i → L[j]? ≠ some 44) ∧ (i = L.length + 1 → pcs L = D) ∧ (fr = 0 ↔ D = []) ∧ D.length ≤ i
theorem pinv_start (L : List UInt8) : PInv L [] 0 0 := ⟨fun _ => ⟨by simp, fun j _ h => absurd h (by omega)⟩, fun h => absurd h (by omega), by simp, by simp⟩
theorem pinv_go {L : List UInt8} {D : List (List UInt8)} {fr i : Nat} (h : PInv L D fr i) (hi : i < L.length) (hc : L[i]? ≠ some 44) : PInv L D fr (i + 1) := by
  obtain ⟨h1, h2, h3, h4⟩ := h
  obtain ⟨e, hn⟩ := h1 (by omega)
  refine ⟨fun _ => ⟨e, fun j h5 h6 => ?_⟩, fun h => absurd h (by omega), h3, by omega⟩
  by_cases hj : j = i
  · subst hj; exact hc
  · exact hn j h5 (by omega)
theorem piece_no {L : List UInt8} {fr i : Nat} (hn : ∀ j, fr ≤ j → j < i → L[j]? ≠ some 44) : ∀ c ∈ (L.drop fr).take (i - fr), c ≠ 44 := by
  intro c hc e
  subst e
  obtain ⟨j, hj, hx⟩ := List.getElem_of_mem hc
  rw [List.length_take, List.length_drop] at hj
  have : ((L.drop fr).take (i - fr))[j]? = some 44 := by rw [List.getElem?_eq_getElem (by rw [List.length_take, List.length_drop]; exact hj), hx]
  rw [List.getElem?_take, if_pos (by omega), List.getElem?_drop] at this
  exact hn (fr + j) (by omega) (by omega) this
theorem pinv_cut {L : List UInt8} {D : List (List UInt8)} {fr i : Nat} (h : PInv L D fr i) (hfi : fr ≤ i) (hi : i ≤ L.length) (hc : i < L.length → L[i]? = some 44) :
    PInv L (D ++ [(L.drop fr).take (i - fr)]) (i + 1) (i + 1) := by
  obtain ⟨h1, h2, h3, h4⟩ := h
  obtain ⟨e, hn⟩ := h1 (by omega)
  have hp := piece_no hn
  refine ⟨fun hl => ⟨?_, fun j h5 h6 => absurd h6 (by omega)⟩, fun hl => ?_, ⟨fun h => absurd h (by omega), fun h => absurd h (by simp)⟩, by rw [List.length_append]; simp; omega⟩
  · have hi' : i < L.length := by omega
    have e2 : L.drop fr = (L.drop fr).take (i - fr) ++ 44 :: L.drop (i + 1) := by
      conv => lhs; rw [← List.take_append_drop (i - fr) (L.drop fr)]
      rw [List.drop_drop, show fr + (i - fr) = i by omega, List.drop_eq_getElem_cons hi']
      have := hc hi'
      rw [List.getElem?_eq_getElem hi'] at this
      rw [Option.some.inj this]
    have e3 := pcs_cons ((L.drop fr).take (i - fr)) (L.drop (i + 1)) hp
    rw [← e2] at e3
    rw [e, e3, List.append_assoc]
    rfl
  · have hi' : i = L.length := by omega
    have e2 : (L.drop fr).take (i - fr) = L.drop fr := List.take_of_length_le (by rw [List.length_drop]; omega)
    rw [e2] at hp ⊢
    rw [e, pcs_no _ hp]
theorem pinv_end {L : List UInt8} {D : List (List UInt8)} {fr : Nat} (h : PInv L D fr (L.length + 1)) : pcs L = D := h.2.1 rfl
theorem pinv_fld {L : List UInt8} {D : List (List UInt8)} {fr i : Nat} (h : PInv L D fr i) (p : List UInt8) : fCells (flds (D ++ [p])) = fCells (flds D) ++ enF (parseF (if fr = 0 then p else trim1 p)) := by
  have e : flds (D ++ [p]) = flds D ++ [parseF (if fr = 0 then p else trim1 p)] := by
    by_cases hf : fr = 0
    · rw [if_pos hf, h.2.2.1.1 hf]; rfl
    · rw [if_neg hf]; exact flds_snoc (fun e => hf (h.2.2.1.2 e)) p
  rw [e, fCells, List.flatMap_append]
  simp [fCells]
/-- The kind that is found among the kinds below k. -/
def kp (V : List UInt8) (k : Nat) : Int := if kindW V < (k : Int) then kindW V else 0
theorem kindW_rng (V : List UInt8) : 0 ≤ kindW V ∧ kindW V ≤ 4 := by
  unfold kindW
  split
  · omega
  split
  · omega
  split
  · omega
  split <;> omega
theorem kindW_iff {V : List UInt8} {k : Nat} (h1 : 1 ≤ k) (h5 : k < 5) : V = wordK k ↔ kindW V = (k : Int) := by
  have : k = 1 ∨ k = 2 ∨ k = 3 ∨ k = 4 := by omega
  constructor
  · intro h
    subst h
    rcases this with rfl | rfl | rfl | rfl <;> decide
  · unfold kindW
    intro h
    split at h
    · obtain rfl : k = 1 := by omega
      assumption
    split at h
    · obtain rfl : k = 2 := by omega
      assumption
    split at h
    · obtain rfl : k = 3 := by omega
      assumption
    split at h
    · obtain rfl : k = 4 := by omega
      assumption
    · omega
theorem kp_one (V : List UInt8) : kp V 1 = 0 := by
  have := kindW_rng V
  unfold kp
  split
  · omega
  · rfl
theorem kp_five (V : List UInt8) : kp V 5 = kindW V := by
  have := kindW_rng V
  unfold kp
  rw [if_pos (by omega)]
theorem kp_yes {V : List UInt8} {k : Nat} (h1 : 1 ≤ k) (h5 : k < 5) (h : V = wordK k) : kp V (k + 1) = (k : Int) := by
  have := (kindW_iff h1 h5).1 h
  unfold kp
  rw [if_pos (by omega), this]
theorem kp_no {V : List UInt8} {k : Nat} (h1 : 1 ≤ k) (h5 : k < 5) (h : V ≠ wordK k) : kp V (k + 1) = kp V k := by
  have : kindW V ≠ (k : Int) := fun e => h ((kindW_iff h1 h5).2 e)
  unfold kp
  by_cases hk : kindW V < (k : Int)
  · rw [if_pos hk, if_pos (by omega)]
  · rw [if_neg hk, if_neg (by omega)]
theorem byte_at (s : ByteArray) {i : Nat} (hi : i < s.size) : ∃ c : UInt8, s.data.toList[i]? = some c ∧ (s[i]'hi).toNat = c.toNat := by
  have hi' : i < s.data.toList.length := by simpa using hi
  refine ⟨s.data.toList[i], List.getElem?_eq_getElem hi', ?_⟩
  rfl
theorem byte_ne {c d : UInt8} (h : c ≠ d) : (((c.toNat : Nat) : Int) != ((d.toNat : Nat) : Int)) = true := by
  rw [bne_iff_ne]
  intro e
  exact h (UInt8.toNat_inj.1 (by omega))
theorem ext_mid (s : ByteArray) (a b : Nat) : (s.extract a b).data.toList = (s.data.toList.drop a).take (b - a) := by
  have := Lib.extract_toList s a b
  rw [ByteArray.toList_eq] at this
  exact this
end Go.Proofs.YtnmfonpchbjeoaaGreatDoor
