/- A line is read as it is written, by the program and by the reference: mathematics. -/
import Derived.Test.YtnmfonpchbjeoaaGreatDoorLD3
import Derived.Lib.SplitLaws
namespace Go.Proofs.YtnmfonpchbjeoaaGreatDoor
open Go.RowKit

theorem ofNat_ne' {n d : Nat} (h : n < 256) (hd : d < 128) (h2 : n ≠ d) : UInt8.ofNat d ≠ UInt8.ofNat n := by
  intro e
  have := congrArg UInt8.toNat e
  rw [toNat_of h, toNat_of (by omega)] at this
  exact h2 this.symm
theorem enc_no' {c d : Nat} (hs : scal c) (hd : d < 128) (h : c ≠ d) : UInt8.ofNat d ∉ enc c := by
  by_cases h1 : c < 128
  · rw [enc1 h1]
    simp only [List.mem_cons, List.not_mem_nil, or_false]
    exact ofNat_ne' (by omega) hd h
  by_cases h2 : c < 2048
  · rw [enc2 (by omega) h2]
    simp only [List.mem_cons, List.not_mem_nil, or_false, not_or]
    exact ⟨ofNat_ne' (by omega) hd (by omega), ofNat_ne' (by omega) hd (by omega)⟩
  by_cases h3 : c < 65536
  · rw [enc3 (by omega) h3 hs]
    simp only [List.mem_cons, List.not_mem_nil, or_false, not_or]
    exact ⟨ofNat_ne' (by omega) hd (by omega), ofNat_ne' (by omega) hd (by omega), ofNat_ne' (by omega) hd (by omega)⟩
  · rw [enc4 (by omega) hs]
    unfold scal at hs
    simp only [List.mem_cons, List.not_mem_nil, or_false, not_or]
    exact ⟨ofNat_ne' (by omega) hd (by omega), ofNat_ne' (by omega) hd (by omega), ofNat_ne' (by omega) hd (by omega), ofNat_ne' (by omega) hd (by omega)⟩
theorem chk_none {d : Nat} (hb : beginsN d = false) (h46 : d ≠ 46) (h45 : d ≠ 45 ∧ ¬ (48 ≤ d ∧ d ≤ 57)) : ∀ (cs : List Nat) (p r : Nat) (f : Bool), chk p r f cs = 0 → d ∉ cs
  | [], _, _, _ => by simp
  | c :: cs, p, r, f => by
    intro h hm
    rcases List.mem_cons.1 hm with rfl | hm
    · simp only [chk, hb] at h
      rw [if_neg (by simp), if_neg h46, if_pos h45] at h
      cases f <;> simp at h
    · simp only [chk] at h
      split at h
      · exact chk_none hb h46 h45 cs _ _ _ h hm
      split at h
      · cases h
      split at h
      · exact chk_none hb h46 h45 cs _ _ _ h hm
      split at h
      · cases h
      · exact chk_none hb h46 h45 cs _ _ _ h hm
theorem name_no {l : List UInt8} (h : checkL l = 0) {d : Nat} (hd : d < 128) (hb : beginsN d = false) (h46 : d ≠ 46) (h45 : d ≠ 45 ∧ ¬ (48 ≤ d ∧ d ≤ 57)) : UInt8.ofNat d ∉ l := by
  intro hm
  have hv := enc_rns l.length l (Nat.le_refl _) (valid_of_name h)
  rw [← hv] at hm
  obtain ⟨c, hc, hx⟩ := List.mem_flatMap.1 hm
  by_cases e : c = d
  · subst e
    exact chk_none hb h46 h45 _ _ _ _ h hc
  · exact enc_no' (rns_scal _ c hc) hd e hx
theorem name_ok {x : Fd} (h : mayF x = true) : (∀ c ∈ x.n.data.toList, c ≠ 44) ∧ (∀ c ∈ x.n.data.toList, c ≠ 32) := by
  have h1 := (may_k h).2.2
  unfold oneP at h1
  rw [Bool.and_eq_true] at h1
  have hc := of_decide_eq_true h1.1
  refine ⟨fun c hc' e => ?_, fun c hc' e => ?_⟩
  · subst e; exact name_no hc (d := 44) (by decide) (by decide) (by decide) (by decide) hc'
  · subst e; exact name_no hc (d := 32) (by decide) (by decide) (by decide) (by decide) hc'
theorem word_no (k : Nat) : ∀ c ∈ wordK k, c ≠ 44 := by
  unfold wordK
  split <;> decide
theorem word_not33 (k : Nat) : ¬ ∃ t, wordK k = t ++ [33] := by
  intro ⟨t, h⟩
  have := congrArg List.getLast? h
  rw [List.getLast?_concat] at this
  unfold wordK at this
  split at this <;> simp at this
theorem shF_no {x : Fd} (h : mayF x = true) : ∀ c ∈ shF x, c ≠ 44 := by
  intro c hc
  unfold shF at hc
  rw [List.mem_append, List.mem_append, List.mem_append] at hc
  rcases hc with ((hc | hc) | hc) | hc
  · exact (name_ok h).1 c hc
  · simp at hc; subst hc; decide
  · exact word_no _ c hc
  · split at hc
    · simp at hc; subst hc; decide
    · simp at hc
theorem fi_app : ∀ (a r : List UInt8), (∀ c ∈ a, c ≠ 32) → fi (a ++ 32 :: r) = a.length
  | [], r, _ => by simp [fi]
  | c :: a, r, h => by
    rw [List.cons_append, fi, if_neg (h c (by simp)), fi_app a r fun x hx => h x (by simp [hx])]
    rfl
theorem drop_aux (a r : List UInt8) : (a ++ 32 :: r).drop (a.length + 1) = r := by
  induction a with
  | nil => rfl
  | cons c a ih => exact ih
theorem take_aux (a r : List UInt8) : (a ++ 32 :: r).take a.length = a := by simp
theorem parse_show {x : Fd} (h : mayF x = true) : parseF (shF x) = x := by
  obtain ⟨h1, h5, -⟩ := may_k h
  have hn := (name_ok h).2
  obtain ⟨n, k, m⟩ := x
  have h1 : 1 ≤ k := h1
  have h5 : k < 5 := h5
  have hk : kindW (wordK k.toNat) = k := by
    have := (kindW_iff (V := wordK k.toNat) (k := k.toNat) (by omega) (by omega)).1 rfl
    omega
  have e : shF ⟨n, k, m⟩ = n.data.toList ++ 32 :: (wordK k.toNat ++ if m = true then [33] else []) := by simp [shF]
  have hf := fi_app n.data.toList (wordK k.toNat ++ if m = true then [33] else []) hn
  have hl : fi (shF ⟨n, k, m⟩) < (shF ⟨n, k, m⟩).length := by rw [e, hf]; simp
  have hd : (shF ⟨n, k, m⟩).drop (fi (shF ⟨n, k, m⟩) + 1) = wordK k.toNat ++ if m = true then [33] else [] := by
    rw [e, hf, drop_aux]
  have ht : (shF ⟨n, k, m⟩).take (fi (shF ⟨n, k, m⟩)) = n.data.toList := by
    rw [e, hf, take_aux]
  cases m with
  | true =>
    rw [parse_must hl (t := wordK k.toNat) (by rw [hd]; rfl), ht, str_of, hk]
  | false =>
    have hd : (shF ⟨n, k, false⟩).drop (fi (shF ⟨n, k, false⟩) + 1) = wordK k.toNat := by rw [hd]; simp
    rw [parse_may hl (by rw [hd]; exact word_not33 _), ht, str_of, hd, hk]
theorem show_parse {y : List UInt8} (h : mayF (parseF y) = true) : shF (parseF y) = y := by
  obtain ⟨h1, h5, -⟩ := may_k h
  by_cases hl : fi y < y.length
  · have ey : y = y.take (fi y) ++ 32 :: y.drop (fi y + 1) := by
      conv => lhs; rw [← List.take_append_drop (fi y) y]
      rw [List.drop_eq_getElem_cons hl]
      have := fi_at y hl
      rw [List.getElem?_eq_getElem hl] at this
      rw [Option.some.inj this]
    by_cases hm : ∃ t, y.drop (fi y + 1) = t ++ [33]
    · obtain ⟨t, ht⟩ := hm
      have e := parse_must hl ht
      rw [e] at h1 h5 ⊢
      have hw : t = wordK (kindW t).toNat := (kindW_iff (k := (kindW t).toNat) (by have : 1 ≤ kindW t := h1; omega) (by have : kindW t < 5 := h5; omega)).2 (by have : 1 ≤ kindW t := h1; omega)
      show (str (y.take (fi y))).data.toList ++ [32] ++ wordK (kindW t).toNat ++ [33] = y
      rw [str_data, ← hw]
      conv => rhs; rw [ey, ht]
      simp
    · have e := parse_may hl hm
      rw [e] at h1 h5 ⊢
      have hw : y.drop (fi y + 1) = wordK (kindW (y.drop (fi y + 1))).toNat := (kindW_iff (k := (kindW (y.drop (fi y + 1))).toNat) (by have : 1 ≤ kindW (y.drop (fi y + 1)) := h1; omega) (by have : kindW (y.drop (fi y + 1)) < 5 := h5; omega)).2 (by have : 1 ≤ kindW (y.drop (fi y + 1)) := h1; omega)
      show (str (y.take (fi y))).data.toList ++ [32] ++ wordK (kindW (y.drop (fi y + 1))).toNat ++ [] = y
      rw [str_data, ← hw]
      conv => rhs; rw [ey]
      simp
  · have e := parse_none hl
    rw [e] at h1
    exact absurd h1 (by show ¬ (1 : Int) ≤ 0; decide)
end Go.Proofs.YtnmfonpchbjeoaaGreatDoor
