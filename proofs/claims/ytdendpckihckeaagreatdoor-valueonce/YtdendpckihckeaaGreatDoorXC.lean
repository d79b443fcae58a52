/- Literals: what is read was shown so, and what is shown is read. Plain, of no program. -/
import Derived.Test.YtdendpckihckeaaGreatDoorXB
import Derived.Lib.ItoaNum
namespace Go.Proofs.YtdendpckihckeaaGreatDoor
open Go.Lib
set_option maxRecDepth 100000

/-! ### texts -/
theorem txs_once : ∀ (n : Nat) (acc l : List UInt8) (p : List UInt8 × List UInt8), l.length ≤ n → txs acc l = some p → ∃ cs : List Nat, (∀ c ∈ cs, scal c) ∧ p.1 = acc ++ cs.flatMap enc ∧ l = cs.flatMap shR ++ 34 :: p.2 := by
  intro n
  induction n with
  | zero =>
    intro acc l p hl h
    obtain rfl : l = [] := List.eq_nil_of_length_eq_zero (by omega)
    rw [txs_none (by simp) (by unfold runeL; simp)] at h
    cases h
  | succ n ih =>
    intro acc l p hl h
    by_cases hq : l.head? = some 34
    · rw [txs_end hq] at h
      cases h
      refine ⟨[], by simp, by simp, ?_⟩
      cases l with
      | nil => cases hq
      | cons b t => simp only [List.head?_cons, Option.some.injEq] at hq; subst hq; rfl
    · cases hr : runeL l with
      | none => rw [txs_none hq hr] at h; cases h
      | some q =>
        obtain ⟨c, d⟩ := q
        obtain ⟨h1, h2, h3, h4, -⟩ := runeL_spec hr hq
        rw [txs_step hq hr] at h
        obtain ⟨cs, a, b, e⟩ := ih _ _ _ (by rw [List.length_drop]; omega) h
        refine ⟨c :: cs, ?_, by rw [b]; simp, ?_⟩
        · intro x hx
          rcases List.mem_cons.1 hx with rfl | hx
          · exact h4
          · exact a x hx
        · rw [List.flatMap_cons, List.append_assoc, ← e, h1, List.take_append_drop]
theorem shR_head : ∀ c : Fin 128, (shR c.val).head? ≠ some 34 := by decide +kernel
theorem enc_head {c : Nat} (h : 128 ≤ c) (hs : scal c) : ∃ b t, enc c = b :: t ∧ 128 ≤ b.toNat := by
  have hm : c ≤ 1114111 := by unfold scal at hs; omega
  by_cases h2 : c < 2048
  · exact ⟨_, _, enc2 h h2, by rw [toNat_of (by omega)]; omega⟩
  by_cases h3 : c < 65536
  · exact ⟨_, _, enc3 (by omega) h3 hs, by rw [toNat_of (by omega)]; omega⟩
  · exact ⟨_, _, enc4 (by omega) hs, by rw [toNat_of (by omega)]; omega⟩
theorem shR_big {c : Nat} (h : 128 ≤ c) : shR c = enc c := shR_plain (by omega) (by omega) (by omega) (by omega)
theorem shR_ne : ∀ c : Fin 128, shR c.val ≠ [] := by decide +kernel
theorem shR_kind : ∀ c : Fin 128, (shR c.val).head? ≠ some 92 → 32 ≤ c.val ∧ c.val ≠ 127 ∧ c.val ≠ 34 ∧ c.val ≠ 92 := by decide +kernel
theorem rune_back {c : Nat} (hs : scal c) (u : List UInt8) : (shR c ++ u).head? ≠ some 34 ∧ runeL (shR c ++ u) = some (c, (shR c).length) := by
  have plain : (shR c ++ u).head? ≠ some 92 → shR c = enc c → 32 ≤ c → c ≠ 127 → runeL (shR c ++ u) = some (c, (shR c).length) := by
    intro h92 he h1 h2
    unfold runeL
    rw [if_neg h92, he, dec_enc c u hs, if_neg]
    simp only [not_or]
    refine ⟨?_, ?_, by omega, h2⟩
    · intro e
      have := congrArg List.length e
      have h3 := enc_len c
      rw [List.length_append] at this
      simp at this
      rw [this.1] at h3
      simp at h3
    · rintro ⟨e1, e2⟩
      have := enc_err c e1
      omega
  by_cases hc : c < 128
  · have hne := shR_ne ⟨c, hc⟩
    have hh := shR_head ⟨c, hc⟩
    have hk := shR_kind ⟨c, hc⟩
    simp only at hne hh hk
    have ehd : (shR c ++ u).head? = (shR c).head? := by
      cases e : shR c with
      | nil => exact absurd e hne
      | cons b t => rfl
    refine ⟨by rw [ehd]; exact hh, ?_⟩
    by_cases h92 : (shR c).head? = some 92
    · unfold runeL
      rw [if_pos (by rw [ehd]; exact h92), escL_of hc h92 ⟨u, rfl⟩]
      rfl
    · obtain ⟨a, b, d, e⟩ := hk h92
      exact plain (by rw [ehd]; exact h92) (shR_plain a b d e) a b
  · obtain ⟨b, t, he, hb⟩ := enc_head (c := c) (by omega) hs
    have e : shR c = enc c := shR_big (by omega)
    have hbn : ∀ x : UInt8, x.toNat < 128 → b ≠ x := fun x hx e => by subst e; omega
    have ehd : (shR c ++ u).head? = some b := by rw [e, he]; rfl
    refine ⟨by rw [ehd]; exact fun e => hbn 34 (by decide) (Option.some.inj e), plain (by rw [ehd]; exact fun e => hbn 92 (by decide) (Option.some.inj e)) e (by omega) (by omega)⟩
theorem txs_back : ∀ (cs : List Nat) (acc t : List UInt8), (∀ c ∈ cs, scal c) → txs acc (cs.flatMap shR ++ 34 :: t) = some (acc ++ cs.flatMap enc, t)
  | [], acc, t, _ => by rw [List.flatMap_nil, List.nil_append, txs_end rfl]; simp
  | c :: cs, acc, t, h => by
    obtain ⟨h1, h2⟩ := rune_back (h c (by simp)) (cs.flatMap shR ++ 34 :: t)
    rw [List.flatMap_cons, List.append_assoc, txs_step h1 h2, List.drop_left, txs_back cs _ t (fun x hx => h x (List.mem_cons_of_mem _ hx))]
    simp

/-! ### bytes -/
theorem hxd_dg : ∀ n : Fin 256, ∀ x : Fin 16, hxd (UInt8.ofNat n.val) = some x.val → dg x.val = UInt8.ofNat n.val := by decide +kernel
theorem hxd_lt {b : UInt8} {x : Nat} (h : hxd b = some x) : x < 16 := by
  unfold hxd at h
  split at h
  · cases h; omega
  split at h
  · cases h; omega
  · cases h
theorem hxd_of {b : UInt8} {x : Nat} (h : hxd b = some x) : dg x = b := by
  have := hxd_dg ⟨b.toNat, UInt8.toNat_lt b⟩ ⟨x, hxd_lt h⟩
  simp only [UInt8.ofNat_toNat] at this
  exact this h
theorem dg_hxd : ∀ x : Fin 16, hxd (dg x.val) = some x.val ∧ dg x.val ≠ 39 := by decide +kernel
theorem hex_pair {x y : Nat} (hx : x < 16) (hy : y < 16) : hex2 (UInt8.ofNat (16 * x + y)) = [dg x, dg y] := by
  unfold hex2
  rw [toNat_of (by omega), show (16 * x + y) / 16 = x by omega, show (16 * x + y) % 16 = y by omega]
theorem hxs_once : ∀ (l : List UInt8) (p : List UInt8 × List UInt8), hxs l = some p → l = hexs p.1 ++ 39 :: p.2
  | [], p, h => by cases h
  | [a], p, h => by
    unfold hxs at h
    split at h
    · rename_i e; cases h; subst e; rfl
    · cases h
  | a :: b :: t, p, h => by
    unfold hxs at h
    split at h
    · rename_i e; cases h; subst e; rfl
    · split at h
      · rename_i x y hx hy
        cases e : hxs t with
        | none => rw [e] at h; cases h
        | some q =>
          rw [e] at h
          simp only [Option.map_some, Option.some.injEq] at h
          subst h
          have := hxs_once t q e
          simp only [hexs, List.flatMap_cons] at this ⊢
          rw [hex_pair (hxd_lt hx) (hxd_lt hy), hxd_of hx, hxd_of hy, List.append_assoc, ← this]
          rfl
      · cases h
theorem hxs_back : ∀ (s t : List UInt8), hxs (hexs s ++ 39 :: t) = some (s, t)
  | [], [] => rfl
  | [], b :: t => by
    show hxs (39 :: b :: t) = _
    unfold hxs
    rw [if_pos rfl]
  | b :: s, t => by
    have hb := UInt8.toNat_lt b
    obtain ⟨h1, h2⟩ := dg_hxd ⟨b.toNat / 16, by omega⟩
    obtain ⟨h3, -⟩ := dg_hxd ⟨b.toNat % 16, by omega⟩
    simp only at h1 h2 h3
    simp only [hexs, List.flatMap_cons, hex2, List.cons_append, List.nil_append]
    unfold hxs
    rw [if_neg h2, h1, h3]
    simp only
    have := hxs_back s t
    simp only [hexs] at this
    rw [this]
    simp only [Option.map_some, Option.some.injEq, Prod.mk.injEq, List.cons.injEq, and_true]
    rw [show 16 * (b.toNat / 16) + b.toNat % 16 = b.toNat by omega]
    simp
theorem hxs_app : ∀ (D R : List UInt8), 39 ∉ D → hxs (D ++ 39 :: R) = (hxp D).map fun b => (b, R)
  | [], R, _ => by
    cases R with
    | nil => rfl
    | cons b R => show hxs (39 :: b :: R) = _; unfold hxs; rw [if_pos rfl]; rfl
  | [a], R, h => by
    have ha : a ≠ 39 := fun e => h (by simp [e])
    show hxs (a :: 39 :: R) = _
    unfold hxs
    rw [if_neg ha, show hxd 39 = none by decide]
    cases hxd a <;> rfl
  | a :: b :: t, R, h => by
    have ha : a ≠ 39 := fun e => h (by simp [e])
    have ht : 39 ∉ t := fun e => h (by simp [e])
    show hxs (a :: b :: (t ++ 39 :: R)) = _
    unfold hxs hxp
    rw [if_neg ha, hxs_app t R ht]
    cases hxd a <;> cases hxd b <;> cases hxp t <;> rfl
theorem hxs_open : ∀ (l : List UInt8), 39 ∉ l → hxs l = none
  | [], _ => rfl
  | [a], h => by
    have ha : a ≠ 39 := fun e => h (by simp [e])
    unfold hxs
    rw [if_neg ha]
  | a :: b :: t, h => by
    have ha : a ≠ 39 := fun e => h (by simp [e])
    have ht : 39 ∉ t := fun e => h (by simp [e])
    unfold hxs
    rw [if_neg ha, hxs_open t ht]
    cases hxd a <;> cases hxd b <;> rfl
theorem hxp_odd : ∀ (D : List UInt8), D.length % 2 ≠ 0 → hxp D = none
  | [], h => absurd rfl h
  | [a], _ => rfl
  | a :: b :: t, h => by
    unfold hxp
    rw [hxp_odd t (by simp only [List.length_cons] at h; omega)]
    cases hxd a <;> cases hxd b <;> rfl

/-! ### numbers -/
theorem snoc_of {l : List UInt8} (h : l ≠ []) : ∃ i b, l = i ++ [b] := ⟨l.dropLast, l.getLast h, (List.dropLast_concat_getLast h).symm⟩
theorem numOf_pos : ∀ (m : Nat) (l : List UInt8), l.length = m + 1 → (∀ b ∈ l, isD b = true) → l.head? ≠ some 48 → 1 ≤ numOf l
  | m, l, hl, hd, hh => by
    obtain ⟨i, b, rfl⟩ := snoc_of (l := l) (fun e => by subst e; simp at hl)
    have hb := hd b (by simp)
    simp only [isD, decide_eq_true_eq] at hb
    rw [numOf_snoc]
    cases i with
    | nil =>
      have : b ≠ 48 := fun e => hh (by simp [e])
      have h2 : b.toNat ≠ 48 := fun e => this (UInt8.toNat_inj.1 e)
      omega
    | cons a i =>
      cases m with
      | zero => simp at hl
      | succ m =>
        have := numOf_pos m (a :: i) (by simpa using hl) (fun x hx => hd x (List.mem_append_left _ hx)) (by simpa using hh)
        omega
theorem decDigits_numOf : ∀ (m : Nat) (l : List UInt8), l.length = m + 1 → (∀ b ∈ l, isD b = true) → (l.head? ≠ some 48 ∨ l.length = 1) → decDigits (numOf l) = l
  | m, l, hl, hd, hh => by
    obtain ⟨i, b, rfl⟩ := snoc_of (l := l) (fun e => by subst e; simp at hl)
    have hb := hd b (by simp)
    simp only [isD, decide_eq_true_eq] at hb
    have hlast : UInt8.ofNat (48 + (b.toNat - 48)) = b := by
      rw [show 48 + (b.toNat - 48) = b.toNat by omega]
      simp
    cases i with
    | nil =>
      rw [numOf_snoc, show numOf [] = 0 from rfl, decDigits, dif_pos (by omega)]
      simp only [List.nil_append, Nat.mul_zero, Nat.zero_add, hlast]
    | cons a i =>
      cases m with
      | zero => simp at hl
      | succ m =>
        have hh' : (a :: i).head? ≠ some 48 := by
          rcases hh with hh | hh
          · simpa using hh
          · simp at hh
        have hp := numOf_pos m (a :: i) (by simpa using hl) (fun x hx => hd x (List.mem_append_left _ hx)) hh'
        have ih := decDigits_numOf m (a :: i) (by simpa using hl) (fun x hx => hd x (List.mem_append_left _ hx)) (.inl hh')
        rw [numOf_snoc, decDigits, dif_neg (by omega), show (10 * numOf (a :: i) + (b.toNat - 48)) / 10 = numOf (a :: i) by omega, show (10 * numOf (a :: i) + (b.toNat - 48)) % 10 = b.toNat - 48 by omega, ih, hlast]
theorem decDigits_ok : ∀ n : Nat, decDigits n ≠ [] ∧ (∀ b ∈ decDigits n, isD b = true) ∧ numOf (decDigits n) = n ∧ ((decDigits n).head? = some 48 → n = 0) := by
  intro n
  induction n using Nat.strongRecOn with
  | ind n ih =>
    rw [decDigits]
    by_cases h : n < 10
    · rw [dif_pos h]
      have ht : (UInt8.ofNat (48 + n)).toNat = 48 + n := toNat_of (by omega)
      refine ⟨by simp, ?_, ?_, ?_⟩
      · intro b hb
        simp only [List.mem_singleton] at hb
        subst hb
        simp only [isD, decide_eq_true_eq, ht]
        omega
      · show 10 * 0 + ((UInt8.ofNat (48 + n)).toNat - 48) = n
        rw [ht]; omega
      · intro e
        simp only [List.head?_cons, Option.some.injEq] at e
        have := congrArg UInt8.toNat e
        rw [ht] at this
        have h48 : (48 : UInt8).toNat = 48 := rfl
        omega
    · rw [dif_neg h]
      obtain ⟨a, b, c, d⟩ := ih (n / 10) (by omega)
      have ht : (UInt8.ofNat (48 + n % 10)).toNat = 48 + n % 10 := toNat_of (by omega)
      refine ⟨by simp, ?_, ?_, ?_⟩
      · intro x hx
        rcases List.mem_append.1 hx with hx | hx
        · exact b x hx
        · simp only [List.mem_singleton] at hx
          subst hx
          simp only [isD, decide_eq_true_eq, ht]
          omega
      · rw [numOf_snoc, c, ht]; omega
      · intro e
        have : (decDigits (n / 10)).head? = some 48 := by
          cases hh : decDigits (n / 10) with
          | nil => exact absurd hh a
          | cons x t => rw [hh] at e; simpa using e
        have := d this
        omega
theorem digs_of {d t : List UInt8} (hd : ∀ b ∈ d, isD b = true) (ht : digs t = []) : digs (d ++ t) = d := by
  unfold digs at *
  rw [List.takeWhile_append_of_pos hd, ht, List.append_nil]
end Go.Proofs.YtdendpckihckeaaGreatDoor
