/- Runes within a text's literal: how they are written, and read. Plain, of no program. -/
import Derived.Test.YtdendpckihckeaaDoorZb2
import Derived.Lib.Bytealg
import Derived.Lib.ItoaNum
namespace Go.Proofs.YtdendpckihckeaaDoor
open Go.Lib
set_option maxRecDepth 100000

theorem esc_uniq : ∀ a b : Fin 128, (shR a.val).head? = some 92 → (shR b.val).head? = some 92 → (shR a.val).isPrefixOf (shR b.val) = true → a = b := by decide +kernel
theorem escL_spec {l : List UInt8} {c : Nat} (h : escL l = some c) : c < 128 ∧ (shR c).head? = some 92 ∧ shR c <+: l := by
  have h1 := List.find?_some h
  have h2 := List.mem_of_find?_eq_some h
  simp only [Bool.and_eq_true, decide_eq_true_eq] at h1
  exact ⟨List.mem_range.1 h2, h1.1, List.isPrefixOf_iff_prefix.1 h1.2⟩
theorem escL_of {l : List UInt8} {c : Nat} (h1 : c < 128) (h2 : (shR c).head? = some 92) (h3 : shR c <+: l) : escL l = some c := by
  have hs : (escL l).isSome := by
    rw [escL, List.find?_isSome]
    exact ⟨c, List.mem_range.2 h1, by simp [h2, List.isPrefixOf_iff_prefix.2 h3]⟩
  obtain ⟨d, hd⟩ := Option.isSome_iff_exists.1 hs
  obtain ⟨d1, d2, d3⟩ := escL_spec hd
  rcases Nat.le_total (shR c).length (shR d).length with hl | hl
  · have := esc_uniq ⟨c, h1⟩ ⟨d, d1⟩ h2 d2 (List.isPrefixOf_iff_prefix.2 (List.prefix_of_prefix_length_le h3 d3 hl))
    rw [hd]
    exact congrArg some (congrArg Fin.val this).symm
  · have := esc_uniq ⟨d, d1⟩ ⟨c, h1⟩ d2 h2 (List.isPrefixOf_iff_prefix.2 (List.prefix_of_prefix_length_le d3 h3 hl))
    rw [hd]
    exact congrArg some (congrArg Fin.val this)
theorem escL_no {l : List UInt8} (h : ∀ c, c < 128 → (shR c).head? = some 92 → ¬ shR c <+: l) : escL l = none := by
  cases e : escL l with
  | none => rfl
  | some c => obtain ⟨a, b, d⟩ := escL_spec e; exact absurd d (h c a b)
theorem esc_q (t : List UInt8) : escL (92 :: 34 :: t) = some 34 := escL_of (by decide) (by decide +kernel) ⟨t, rfl⟩
theorem esc_b (t : List UInt8) : escL (92 :: 92 :: t) = some 92 := escL_of (by decide) (by decide +kernel) ⟨t, rfl⟩
theorem esc_n (t : List UInt8) : escL (92 :: 110 :: t) = some 10 := escL_of (by decide) (by decide +kernel) ⟨t, rfl⟩
theorem esc_t (t : List UInt8) : escL (92 :: 116 :: t) = some 9 := escL_of (by decide) (by decide +kernel) ⟨t, rfl⟩
theorem esc_r (t : List UInt8) : escL (92 :: 114 :: t) = some 13 := escL_of (by decide) (by decide +kernel) ⟨t, rfl⟩
theorem esc_one : escL [92] = none := by decide +kernel
theorem esc_snd : ∀ c : Fin 128, (shR c.val).head? = some 92 → shR c.val = 92 :: (shR c.val).getD 1 0 :: (shR c.val).drop 2 ∧ ((shR c.val).getD 1 0 = 34 ∨ (shR c.val).getD 1 0 = 92 ∨ (shR c.val).getD 1 0 = 110 ∨ (shR c.val).getD 1 0 = 116 ∨ (shR c.val).getD 1 0 = 114 ∨ (shR c.val).getD 1 0 = 117) := by decide +kernel
theorem esc_other {b : UInt8} {t : List UInt8} (h1 : b ≠ 34) (h2 : b ≠ 92) (h3 : b ≠ 110) (h4 : b ≠ 116) (h5 : b ≠ 114) (h6 : b ≠ 117) : escL (92 :: b :: t) = none := by
  refine escL_no fun c hc hh hp => ?_
  obtain ⟨e, h⟩ := esc_snd ⟨c, hc⟩ hh
  simp only at e h
  rw [e] at hp
  obtain ⟨u, hu⟩ := hp
  simp only [List.cons_append, List.cons.injEq] at hu
  obtain ⟨-, e2, -⟩ := hu
  rw [e2] at h
  rcases h with h | h | h | h | h | h
  · exact h1 h
  · exact h2 h
  · exact h3 h
  · exact h4 h
  · exact h5 h
  · exact h6 h

/-- A digit of base 16, as it is parsed. -/
def puD (b : UInt8) : Option Nat := if 48 ≤ b.toNat ∧ b.toNat ≤ 57 then some (b.toNat - 48) else if 97 ≤ (b.toNat ||| 32) ∧ (b.toNat ||| 32) ≤ 102 then some ((b.toNat ||| 32) - 87) else none
def puL : List UInt8 → Option Nat
  | [x] => puD x
  | [x, y] => match puD x, puD y with
    | some a, some b => some (16 * a + b)
    | _, _ => none
  | _ => none
theorem puD_lt {b : UInt8} {n : Nat} (h : puD b = some n) : n < 16 := by
  unfold puD at h
  split at h
  · cases h; omega
  split at h
  · cases h; omega
  · cases h
theorem puL_lt {l : List UInt8} {n : Nat} (h : puL l = some n) : n < 256 := by
  unfold puL at h
  split at h
  · have := puD_lt h; omega
  · rename_i x y
    split at h
    · rename_i a b ha hb
      have := puD_lt ha
      have := puD_lt hb
      cases h
      omega
    · cases h
  · cases h
theorem num_form : ∀ c : Fin 128, (shR c.val).head? = some 92 → (shR c.val).getD 1 0 = 117 →
    (shR c.val = [92, 117, 123, (shR c.val).getD 3 0, 125] ∧ (shR c.val).getD 3 0 ≠ 125 ∧ puL [(shR c.val).getD 3 0] = some c.val) ∨
    (shR c.val = [92, 117, 123, (shR c.val).getD 3 0, (shR c.val).getD 4 0, 125] ∧ (shR c.val).getD 3 0 ≠ 125 ∧ (shR c.val).getD 4 0 ≠ 125 ∧ puL [(shR c.val).getD 3 0, (shR c.val).getD 4 0] = some c.val) := by decide +kernel
theorem num_small : ∀ n : Fin 256, (shR n.val).head? = some 92 → n.val < 128 := by decide +kernel
/-- A rune that stands there by its number. -/
theorem num_at {l u : List UInt8} (hl : l = 92 :: 117 :: u) {c : Nat} (h : escL l = some c) :
    (∃ x t, l = 92 :: 117 :: 123 :: x :: 125 :: t ∧ x ≠ 125 ∧ puL [x] = some c ∧ shR c = [92, 117, 123, x, 125]) ∨
    (∃ x y t, l = 92 :: 117 :: 123 :: x :: y :: 125 :: t ∧ x ≠ 125 ∧ y ≠ 125 ∧ puL [x, y] = some c ∧ shR c = [92, 117, 123, x, y, 125]) := by
  obtain ⟨hc, hh, ⟨t, ht⟩⟩ := escL_spec h
  have e1 := (esc_snd ⟨c, hc⟩ hh).1
  simp only at e1
  have h1 : (shR c).getD 1 0 = 117 := by
    rw [hl, e1] at ht
    simp only [List.cons_append, List.cons.injEq] at ht
    exact ht.2.1
  rcases num_form ⟨c, hc⟩ hh h1 with ⟨e, a, b⟩ | ⟨e, a, b, d⟩
  · simp only at e a b
    exact .inl ⟨_, t, by rw [← ht, e]; rfl, a, b, e⟩
  · simp only at e a b d
    exact .inr ⟨_, _, t, by rw [← ht, e]; rfl, a, b, d, e⟩
theorem ix4 {u : List UInt8} {a b : UInt8} {t : List UInt8} (ha : a ≠ 125) (hb : b ≠ 125) (hu : u = a :: b :: 125 :: t) : indexByte ((92 :: 117 :: u).take 6) 125 = 4 := by
  subst hu
  cases t <;> simp [indexByte, ha, hb]
theorem ix5 {u : List UInt8} {a b c : UInt8} {t : List UInt8} (ha : a ≠ 125) (hb : b ≠ 125) (hc : c ≠ 125) (hu : u = a :: b :: c :: 125 :: t) : indexByte ((92 :: 117 :: u).take 6) 125 = 5 := by
  subst hu
  simp [indexByte, ha, hb, hc]
/-- Where the closing brace stands. -/
theorem ix_cases (u : List UInt8) : indexByte ((92 :: 117 :: u).take 6) 125 < 4 ∨
    (indexByte ((92 :: 117 :: u).take 6) 125 = 4 ∧ ∃ a b t, u = a :: b :: 125 :: t) ∨
    (indexByte ((92 :: 117 :: u).take 6) 125 = 5 ∧ ∃ a b c t, u = a :: b :: c :: 125 :: t) := by
  match u with
  | [] => exact .inl (by decide)
  | [a] => left; simp only [List.take, indexByte]; repeat' split
           all_goals simp_all
  | [a, b] => left; simp only [List.take, indexByte]; repeat' split
              all_goals simp_all
  | [a, b, c] =>
    by_cases ha : a = 125
    · left; simp [ha, indexByte]
    by_cases hb : b = 125
    · left; simp [ha, hb, indexByte]
    by_cases hc : c = 125
    · right; left; subst hc; exact ⟨ix4 ha hb rfl, a, b, [], rfl⟩
    · left; simp [ha, hb, hc, indexByte]
  | a :: b :: c :: d :: t =>
    by_cases ha : a = 125
    · left; simp [ha, indexByte]
    by_cases hb : b = 125
    · left; simp [ha, hb, indexByte]
    by_cases hc : c = 125
    · right; left; subst hc; exact ⟨ix4 ha hb rfl, a, b, _, rfl⟩
    by_cases hd : d = 125
    · right; right; subst hd; exact ⟨ix5 ha hb hc rfl, a, b, c, t, rfl⟩
    · left; simp [ha, hb, hc, hd, indexByte]
theorem esc_num_no {u : List UInt8} (h : indexByte ((92 :: 117 :: u).take 6) 125 < 4) : escL (92 :: 117 :: u) = none := by
  cases e : escL (92 :: 117 :: u) with
  | none => rfl
  | some c =>
    rcases num_at rfl e with ⟨x, t, hl, hx, _, _⟩ | ⟨x, y, t, hl, hx, hy, _, _⟩
    · simp only [List.cons.injEq, true_and] at hl
      rw [ix4 (by decide) hx hl] at h
      omega
    · simp only [List.cons.injEq, true_and] at hl
      rw [ix5 (by decide) hx hy hl] at h
      omega
theorem esc_num1 {a b : UInt8} {t : List UInt8} (hi : indexByte ((92 :: 117 :: a :: b :: 125 :: t).take 6) 125 = 4) : escL (92 :: 117 :: a :: b :: 125 :: t) = (puL [b]).bind fun n => if shR n = [92, 117, a, b, 125] then some n else none := by
  cases e : escL (92 :: 117 :: a :: b :: 125 :: t) with
  | some c =>
    rcases num_at rfl e with ⟨x, t', hl, hx, hp, hs⟩ | ⟨x, y, t', hl, hx, hy, hp, hs⟩
    · simp only [List.cons.injEq, true_and] at hl
      obtain ⟨rfl, rfl, -⟩ := hl
      rw [hp]
      simp [hs]
    · have := ix5 (by decide) hx hy (show a :: b :: 125 :: t = 123 :: x :: y :: 125 :: t' by simpa using hl)
      rw [this] at hi
      omega
  | none =>
    cases hp : puL [b] with
    | none => rfl
    | some n =>
      show none = if _ then _ else _
      rw [if_neg]
      intro hs
      have hlt := num_small ⟨n, puL_lt hp⟩ (by show (shR n).head? = _; rw [hs]; rfl)
      rw [escL_of hlt (by rw [hs]; rfl) (by rw [hs]; exact ⟨t, rfl⟩)] at e
      cases e
theorem esc_num2 {a b c : UInt8} {t : List UInt8} (hi : indexByte ((92 :: 117 :: a :: b :: c :: 125 :: t).take 6) 125 = 5) : escL (92 :: 117 :: a :: b :: c :: 125 :: t) = (puL [b, c]).bind fun n => if shR n = [92, 117, a, b, c, 125] then some n else none := by
  cases e : escL (92 :: 117 :: a :: b :: c :: 125 :: t) with
  | some d =>
    rcases num_at rfl e with ⟨x, t', hl, hx, hp, hs⟩ | ⟨x, y, t', hl, hx, hy, hp, hs⟩
    · have := ix4 (by decide) hx (show a :: b :: c :: 125 :: t = 123 :: x :: 125 :: t' by simpa using hl)
      rw [this] at hi
      omega
    · simp only [List.cons.injEq, true_and] at hl
      obtain ⟨rfl, rfl, rfl, -⟩ := hl
      rw [hp]
      simp [hs]
  | none =>
    cases hp : puL [b, c] with
    | none => rfl
    | some n =>
      show none = if _ then _ else _
      rw [if_neg]
      intro hs
      have hlt := num_small ⟨n, puL_lt hp⟩ (by show (shR n).head? = _; rw [hs]; rfl)
      rw [escL_of hlt (by rw [hs]; rfl) (by rw [hs]; exact ⟨t, rfl⟩)] at e
      cases e

/-! ### a rune within a text -/
theorem shR_plain {c : Nat} (h1 : 32 ≤ c) (h2 : c ≠ 127) (h3 : c ≠ 34) (h4 : c ≠ 92) : shR c = enc c := by
  unfold shR
  rw [if_neg h3, if_neg h4, if_neg (by omega), if_neg (by omega), if_neg (by omega), if_neg (by omega), if_neg (by omega)]
theorem dec_ascii {b : UInt8} {t : List UInt8} (h : b.toNat < 128) : decodeL (b :: t) = (b.toNat, 1) := by
  rw [decodeL_N]
  unfold decodeN
  simp only [List.getD_cons_zero]
  rw [if_pos h]
theorem dec_small {l : List UInt8} {c : Nat} (hne : l ≠ []) (hc : (decodeL l).1 = c) (h : c < 128) : ∃ b t, l = b :: t ∧ b.toNat = c := by
  cases l with
  | nil => exact absurd rfl hne
  | cons b t =>
    refine ⟨b, t, rfl, ?_⟩
    by_cases hb : b.toNat < 128
    · rw [dec_ascii hb] at hc; exact hc
    · exfalso
      rw [decodeL_N] at hc
      unfold decodeN at hc
      simp only [List.getD_cons_zero] at hc
      rw [if_neg hb] at hc
      split at hc
      · split at hc <;> simp only at hc <;> omega
      split at hc
      · split at hc <;> simp only at hc <;> omega
      split at hc
      · split at hc <;> simp only at hc <;> omega
      · simp only at hc; omega
/-- What decodes well is what the rune encodes to. -/
theorem enc_dec {l : List UInt8} (hne : l ≠ []) (h : ¬ ((decodeL l).1 = 65533 ∧ (decodeL l).2 = 1)) : enc (decodeL l).1 = l.take (decodeL l).2 := by
  have he := encode_decode l hne h
  rw [← he]
  have hs := decodeL_scal l
  generalize (decodeL l).1 = c at hs
  by_cases h1 : c < 128
  · rw [enc1 h1, encodeRune, encodeRuneZ_one (by omega) (by omega)]; simp
  by_cases h2 : c < 2048
  · rw [enc2 (by omega) h2, encodeRune, encodeRuneZ_two (by omega) (by omega)]
    simp only [List.map_cons, List.map_nil]
    congr 1
  by_cases h3 : c < 65536
  · rw [enc3 (by omega) h3 hs, encodeRune, encodeRuneZ_three (by unfold scal at hs; omega)]
    simp only [List.map_cons, List.map_nil]
    congr 1
  · rw [enc4 (by omega) hs, encodeRune, encodeRuneZ_four (by omega) (by unfold scal at hs; omega)]
    simp only [List.map_cons, List.map_nil]
    congr 1
/-- What is said of a rune that was read: it is written so. -/
theorem runeL_spec {l : List UInt8} {c d : Nat} (h : runeL l = some (c, d)) (hq : l.head? ≠ some 34) : shR c = l.take d ∧ 1 ≤ d ∧ d ≤ l.length ∧ scal c ∧ (enc c).length ≤ d := by
  unfold runeL at h
  split at h
  · rename_i h92
    cases e : escL l with
    | none => rw [e] at h; cases h
    | some x =>
      rw [e] at h
      simp only [Option.map_some, Option.some.injEq, Prod.mk.injEq] at h
      obtain ⟨rfl, rfl⟩ := h
      obtain ⟨a, b, p⟩ := escL_spec e
      have hl := p.length_le
      have h1 : 1 ≤ (shR x).length := by
        cases hh : shR x with
        | nil => rw [hh] at b; cases b
        | cons _ _ => simp
      exact ⟨List.prefix_iff_eq_take.1 p, h1, hl, .inl (by omega), by rw [enc1 a]; exact h1⟩
  · rename_i h92
    split at h
    · cases h
    · rename_i hn
      simp only [not_or] at hn
      obtain ⟨hne, hbad, h32, h127⟩ := hn
      simp only [Option.some.injEq] at h
      have ed : enc c = l.take d := by have := enc_dec hne hbad; rw [h] at this; exact this
      have hw := decodeL_width l
      have hle := decodeL_le l hne
      rw [h] at hw hle h32 h127
      simp only at hw hle h32 h127
      have h34 : c ≠ 34 := fun e => by
        obtain ⟨b, t, rfl, hb⟩ := dec_small (c := 34) hne (by rw [h]; exact e) (by decide)
        exact hq (by simp only [List.head?_cons]; exact congrArg some (UInt8.toNat_inj.1 hb))
      have h92' : c ≠ 92 := fun e => by
        obtain ⟨b, t, rfl, hb⟩ := dec_small (c := 92) hne (by rw [h]; exact e) (by decide)
        exact h92 (by simp only [List.head?_cons]; exact congrArg some (UInt8.toNat_inj.1 hb))
      have hsc := decodeL_scal l
      rw [h] at hsc
      refine ⟨by rw [shR_plain (by omega) h127 h34 h92', ed], by omega, hle, hsc, ?_⟩
      rw [ed, List.length_take]
      omega
theorem txGo_fuel : ∀ (n m : Nat) (acc l : List UInt8), l.length < n → l.length < m → txGo n acc l = txGo m acc l
  | 0, _, _, _, h, _ => absurd h (by omega)
  | _ + 1, 0, _, _, _, h => absurd h (by omega)
  | n + 1, m + 1, acc, l, hn, hm => by
    unfold txGo
    by_cases hq : l.head? = some 34
    · rw [if_pos hq, if_pos hq]
    · rw [if_neg hq, if_neg hq]
      cases e : runeL l with
      | none => rfl
      | some p =>
        obtain ⟨c, d⟩ := p
        obtain ⟨-, h1, h2, -, -⟩ := runeL_spec e hq
        exact txGo_fuel n m _ _ (by rw [List.length_drop]; omega) (by rw [List.length_drop]; omega)
theorem txs_end {acc l : List UInt8} (h : l.head? = some 34) : txs acc l = some (acc, l.drop 1) := by
  unfold txs txGo
  rw [if_pos h]
theorem txs_none {acc l : List UInt8} (h : l.head? ≠ some 34) (hr : runeL l = none) : txs acc l = none := by
  unfold txs txGo
  rw [if_neg h, hr]
theorem txs_step {acc l : List UInt8} {c d : Nat} (h : l.head? ≠ some 34) (hr : runeL l = some (c, d)) : txs acc l = txs (acc ++ enc c) (l.drop d) := by
  obtain ⟨-, h1, h2, -, -⟩ := runeL_spec hr h
  conv => lhs; unfold txs txGo
  rw [if_neg h, hr]
  exact txGo_fuel _ _ _ _ (by rw [List.length_drop]; omega) (Nat.lt_succ_self _)
end Go.Proofs.YtdendpckihckeaaDoor
/- Literals: what is read was shown so, and what is shown is read. Plain, of no program. -/
namespace Go.Proofs.YtdendpckihckeaaDoor
open Go.Lib
set_option maxRecDepth 100000

/-! ### texts -/
theorem txs_once : ∀ (n : Nat) (acc l : List UInt8) (p : List UInt8 × List UInt8), l.length ≤ n → txs acc l = some p → ∃ cs : List Nat, (∀ c ∈ cs, scal c) ∧ p.1 = acc ++ cs.flatMap enc ∧ l = cs.flatMap shR ++ 34 :: p.2 := by
  intro n
  induction n with
  | zero =>
    intro acc l p hl h
    obtain rfl : l = [] := List.eq_nil_of_length_eq_zero (by omega)
    rw [txs_none (by simp) (by unfold runeL; simp)] at h
    cases h
  | succ n ih =>
    intro acc l p hl h
    by_cases hq : l.head? = some 34
    · rw [txs_end hq] at h
      cases h
      refine ⟨[], by simp, by simp, ?_⟩
      cases l with
      | nil => cases hq
      | cons b t => simp only [List.head?_cons, Option.some.injEq] at hq; subst hq; rfl
    · cases hr : runeL l with
      | none => rw [txs_none hq hr] at h; cases h
      | some q =>
        obtain ⟨c, d⟩ := q
        obtain ⟨h1, h2, h3, h4, -⟩ := runeL_spec hr hq
        rw [txs_step hq hr] at h
        obtain ⟨cs, a, b, e⟩ := ih _ _ _ (by rw [List.length_drop]; omega) h
        refine ⟨c :: cs, ?_, by rw [b]; simp, ?_⟩
        · intro x hx
          rcases List.mem_cons.1 hx with rfl | hx
          · exact h4
          · exact a x hx
        · rw [List.flatMap_cons, List.append_assoc, ← e, h1, List.take_append_drop]
theorem shR_head : ∀ c : Fin 128, (shR c.val).head? ≠ some 34 := by decide +kernel
theorem enc_head {c : Nat} (h : 128 ≤ c) (hs : scal c) : ∃ b t, enc c = b :: t ∧ 128 ≤ b.toNat := by
  have hm : c ≤ 1114111 := by unfold scal at hs; omega
  by_cases h2 : c < 2048
  · exact ⟨_, _, enc2 h h2, by rw [toNat_of (by omega)]; omega⟩
  by_cases h3 : c < 65536
  · exact ⟨_, _, enc3 (by omega) h3 hs, by rw [toNat_of (by omega)]; omega⟩
  · exact ⟨_, _, enc4 (by omega) hs, by rw [toNat_of (by omega)]; omega⟩
theorem shR_big {c : Nat} (h : 128 ≤ c) : shR c = enc c := shR_plain (by omega) (by omega) (by omega) (by omega)
theorem shR_ne : ∀ c : Fin 128, shR c.val ≠ [] := by decide +kernel
theorem shR_kind : ∀ c : Fin 128, (shR c.val).head? ≠ some 92 → 32 ≤ c.val ∧ c.val ≠ 127 ∧ c.val ≠ 34 ∧ c.val ≠ 92 := by decide +kernel
theorem rune_back {c : Nat} (hs : scal c) (u : List UInt8) : (shR c ++ u).head? ≠ some 34 ∧ runeL (shR c ++ u) = some (c, (shR c).length) := by
  have plain : (shR c ++ u).head? ≠ some 92 → shR c = enc c → 32 ≤ c → c ≠ 127 → runeL (shR c ++ u) = some (c, (shR c).length) := by
    intro h92 he h1 h2
    unfold runeL
    rw [if_neg h92, he, dec_enc c u hs, if_neg]
    simp only [not_or]
    refine ⟨?_, ?_, by omega, h2⟩
    · intro e
      have := congrArg List.length e
      have h3 := enc_len c
      rw [List.length_append] at this
      simp at this
      rw [this.1] at h3
      simp at h3
    · rintro ⟨e1, e2⟩
      have := enc_err c e1
      omega
  by_cases hc : c < 128
  · have hne := shR_ne ⟨c, hc⟩
    have hh := shR_head ⟨c, hc⟩
    have hk := shR_kind ⟨c, hc⟩
    simp only at hne hh hk
    have ehd : (shR c ++ u).head? = (shR c).head? := by
      cases e : shR c with
      | nil => exact absurd e hne
      | cons b t => rfl
    refine ⟨by rw [ehd]; exact hh, ?_⟩
    by_cases h92 : (shR c).head? = some 92
    · unfold runeL
      rw [if_pos (by rw [ehd]; exact h92), escL_of hc h92 ⟨u, rfl⟩]
      rfl
    · obtain ⟨a, b, d, e⟩ := hk h92
      exact plain (by rw [ehd]; exact h92) (shR_plain a b d e) a b
  · obtain ⟨b, t, he, hb⟩ := enc_head (c := c) (by omega) hs
    have e : shR c = enc c := shR_big (by omega)
    have hbn : ∀ x : UInt8, x.toNat < 128 → b ≠ x := fun x hx e => by subst e; omega
    have ehd : (shR c ++ u).head? = some b := by rw [e, he]; rfl
    refine ⟨by rw [ehd]; exact fun e => hbn 34 (by decide) (Option.some.inj e), plain (by rw [ehd]; exact fun e => hbn 92 (by decide) (Option.some.inj e)) e (by omega) (by omega)⟩
theorem txs_back : ∀ (cs : List Nat) (acc t : List UInt8), (∀ c ∈ cs, scal c) → txs acc (cs.flatMap shR ++ 34 :: t) = some (acc ++ cs.flatMap enc, t)
  | [], acc, t, _ => by rw [List.flatMap_nil, List.nil_append, txs_end rfl]; simp
  | c :: cs, acc, t, h => by
    obtain ⟨h1, h2⟩ := rune_back (h c (by simp)) (cs.flatMap shR ++ 34 :: t)
    rw [List.flatMap_cons, List.append_assoc, txs_step h1 h2, List.drop_left, txs_back cs _ t (fun x hx => h x (List.mem_cons_of_mem _ hx))]
    simp

/-! ### bytes -/
theorem hxd_dg : ∀ n : Fin 256, ∀ x : Fin 16, hxd (UInt8.ofNat n.val) = some x.val → dg x.val = UInt8.ofNat n.val := by decide +kernel
theorem hxd_lt {b : UInt8} {x : Nat} (h : hxd b = some x) : x < 16 := by
  unfold hxd at h
  split at h
  · cases h; omega
  split at h
  · cases h; omega
  · cases h
theorem hxd_of {b : UInt8} {x : Nat} (h : hxd b = some x) : dg x = b := by
  have := hxd_dg ⟨b.toNat, UInt8.toNat_lt b⟩ ⟨x, hxd_lt h⟩
  simp only [UInt8.ofNat_toNat] at this
  exact this h
theorem dg_hxd : ∀ x : Fin 16, hxd (dg x.val) = some x.val ∧ dg x.val ≠ 39 := by decide +kernel
theorem hex_pair {x y : Nat} (hx : x < 16) (hy : y < 16) : hex2 (UInt8.ofNat (16 * x + y)) = [dg x, dg y] := by
  unfold hex2
  rw [toNat_of (by omega), show (16 * x + y) / 16 = x by omega, show (16 * x + y) % 16 = y by omega]
theorem hxs_once : ∀ (l : List UInt8) (p : List UInt8 × List UInt8), hxs l = some p → l = hexs p.1 ++ 39 :: p.2
  | [], p, h => by cases h
  | [a], p, h => by
    unfold hxs at h
    split at h
    · rename_i e; cases h; subst e; rfl
    · cases h
  | a :: b :: t, p, h => by
    unfold hxs at h
    split at h
    · rename_i e; cases h; subst e; rfl
    · split at h
      · rename_i x y hx hy
        cases e : hxs t with
        | none => rw [e] at h; cases h
        | some q =>
          rw [e] at h
          simp only [Option.map_some, Option.some.injEq] at h
          subst h
          have := hxs_once t q e
          simp only [hexs, List.flatMap_cons] at this ⊢
          rw [hex_pair (hxd_lt hx) (hxd_lt hy), hxd_of hx, hxd_of hy, List.append_assoc, ← this]
          rfl
      · cases h
theorem hxs_back : ∀ (s t : List UInt8), hxs (hexs s ++ 39 :: t) = some (s, t)
  | [], [] => rfl
  | [], b :: t => by
    show hxs (39 :: b :: t) = _
    unfold hxs
    rw [if_pos rfl]
  | b :: s, t => by
    have hb := UInt8.toNat_lt b
    obtain ⟨h1, h2⟩ := dg_hxd ⟨b.toNat / 16, by omega⟩
    obtain ⟨h3, -⟩ := dg_hxd ⟨b.toNat % 16, by omega⟩
    simp only at h1 h2 h3
    simp only [hexs, List.flatMap_cons, hex2, List.cons_append, List.nil_append]
    unfold hxs
    rw [if_neg h2, h1, h3]
    simp only
    have := hxs_back s t
    simp only [hexs] at this
    rw [this]
    simp only [Option.map_some, Option.some.injEq, Prod.mk.injEq, List.cons.injEq, and_true]
    rw [show 16 * (b.toNat / 16) + b.toNat % 16 = b.toNat by omega]
    simp
theorem hxs_app : ∀ (D R : List UInt8), 39 ∉ D → hxs (D ++ 39 :: R) = (hxp D).map fun b => (b, R)
  | [], R, _ => by
    cases R with
    | nil => rfl
    | cons b R => show hxs (39 :: b :: R) = _; unfold hxs; rw [if_pos rfl]; rfl
  | [a], R, h => by
    have ha : a ≠ 39 := fun e => h (by simp [e])
    show hxs (a :: 39 :: R) = _
    unfold hxs
    rw [if_neg ha, show hxd 39 = none by decide]
    cases hxd a <;> rfl
  | a :: b :: t, R, h => by
    have ha : a ≠ 39 := fun e => h (by simp [e])
    have ht : 39 ∉ t := fun e => h (by simp [e])
    show hxs (a :: b :: (t ++ 39 :: R)) = _
    unfold hxs hxp
    rw [if_neg ha, hxs_app t R ht]
    cases hxd a <;> cases hxd b <;> cases hxp t <;> rfl
theorem hxs_open : ∀ (l : List UInt8), 39 ∉ l → hxs l = none
  | [], _ => rfl
  | [a], h => by
    have ha : a ≠ 39 := fun e => h (by simp [e])
    unfold hxs
    rw [if_neg ha]
  | a :: b :: t, h => by
    have ha : a ≠ 39 := fun e => h (by simp [e])
    have ht : 39 ∉ t := fun e => h (by simp [e])
    unfold hxs
    rw [if_neg ha, hxs_open t ht]
    cases hxd a <;> cases hxd b <;> rfl
theorem hxp_odd : ∀ (D : List UInt8), D.length % 2 ≠ 0 → hxp D = none
  | [], h => absurd rfl h
  | [a], _ => rfl
  | a :: b :: t, h => by
    unfold hxp
    rw [hxp_odd t (by simp only [List.length_cons] at h; omega)]
    cases hxd a <;> cases hxd b <;> rfl

/-! ### numbers -/
theorem snoc_of {l : List UInt8} (h : l ≠ []) : ∃ i b, l = i ++ [b] := ⟨l.dropLast, l.getLast h, (List.dropLast_concat_getLast h).symm⟩
theorem numOf_pos : ∀ (m : Nat) (l : List UInt8), l.length = m + 1 → (∀ b ∈ l, isD b = true) → l.head? ≠ some 48 → 1 ≤ numOf l
  | m, l, hl, hd, hh => by
    obtain ⟨i, b, rfl⟩ := snoc_of (l := l) (fun e => by subst e; simp at hl)
    have hb := hd b (by simp)
    simp only [isD, decide_eq_true_eq] at hb
    rw [numOf_snoc]
    cases i with
    | nil =>
      have : b ≠ 48 := fun e => hh (by simp [e])
      have h2 : b.toNat ≠ 48 := fun e => this (UInt8.toNat_inj.1 e)
      omega
    | cons a i =>
      cases m with
      | zero => simp at hl
      | succ m =>
        have := numOf_pos m (a :: i) (by simpa using hl) (fun x hx => hd x (List.mem_append_left _ hx)) (by simpa using hh)
        omega
theorem decDigits_numOf : ∀ (m : Nat) (l : List UInt8), l.length = m + 1 → (∀ b ∈ l, isD b = true) → (l.head? ≠ some 48 ∨ l.length = 1) → decDigits (numOf l) = l
  | m, l, hl, hd, hh => by
    obtain ⟨i, b, rfl⟩ := snoc_of (l := l) (fun e => by subst e; simp at hl)
    have hb := hd b (by simp)
    simp only [isD, decide_eq_true_eq] at hb
    have hlast : UInt8.ofNat (48 + (b.toNat - 48)) = b := by
      rw [show 48 + (b.toNat - 48) = b.toNat by omega]
      simp
    cases i with
    | nil =>
      rw [numOf_snoc, show numOf [] = 0 from rfl, decDigits, dif_pos (by omega)]
      simp only [List.nil_append, Nat.mul_zero, Nat.zero_add, hlast]
    | cons a i =>
      cases m with
      | zero => simp at hl
      | succ m =>
        have hh' : (a :: i).head? ≠ some 48 := by
          rcases hh with hh | hh
          · simpa using hh
          · simp at hh
        have hp := numOf_pos m (a :: i) (by simpa using hl) (fun x hx => hd x (List.mem_append_left _ hx)) hh'
        have ih := decDigits_numOf m (a :: i) (by simpa using hl) (fun x hx => hd x (List.mem_append_left _ hx)) (.inl hh')
        rw [numOf_snoc, decDigits, dif_neg (by omega), show (10 * numOf (a :: i) + (b.toNat - 48)) / 10 = numOf (a :: i) by omega, show (10 * numOf (a :: i) + (b.toNat - 48)) % 10 = b.toNat - 48 by omega, ih, hlast]
theorem decDigits_ok : ∀ n : Nat, decDigits n ≠ [] ∧ (∀ b ∈ decDigits n, isD b = true) ∧ numOf (decDigits n) = n ∧ ((decDigits n).head? = some 48 → n = 0) := by
  intro n
  induction n using Nat.strongRecOn with
  | ind n ih =>
    rw [decDigits]
    by_cases h : n < 10
    · rw [dif_pos h]
      have ht : (UInt8.ofNat (48 + n)).toNat = 48 + n := toNat_of (by omega)
      refine ⟨by simp, ?_, ?_, ?_⟩
      · intro b hb
        simp only [List.mem_singleton] at hb
        subst hb
        simp only [isD, decide_eq_true_eq, ht]
        omega
      · show 10 * 0 + ((UInt8.ofNat (48 + n)).toNat - 48) = n
        rw [ht]; omega
      · intro e
        simp only [List.head?_cons, Option.some.injEq] at e
        have := congrArg UInt8.toNat e
        rw [ht] at this
        have h48 : (48 : UInt8).toNat = 48 := rfl
        omega
    · rw [dif_neg h]
      obtain ⟨a, b, c, d⟩ := ih (n / 10) (by omega)
      have ht : (UInt8.ofNat (48 + n % 10)).toNat = 48 + n % 10 := toNat_of (by omega)
      refine ⟨by simp, ?_, ?_, ?_⟩
      · intro x hx
        rcases List.mem_append.1 hx with hx | hx
        · exact b x hx
        · simp only [List.mem_singleton] at hx
          subst hx
          simp only [isD, decide_eq_true_eq, ht]
          omega
      · rw [numOf_snoc, c, ht]; omega
      · intro e
        have : (decDigits (n / 10)).head? = some 48 := by
          cases hh : decDigits (n / 10) with
          | nil => exact absurd hh a
          | cons x t => rw [hh] at e; simpa using e
        have := d this
        omega
theorem digs_of {d t : List UInt8} (hd : ∀ b ∈ d, isD b = true) (ht : digs t = []) : digs (d ++ t) = d := by
  unfold digs at *
  rw [List.takeWhile_append_of_pos hd, ht, List.append_nil]
end Go.Proofs.YtdendpckihckeaaDoor
/- Literals: once and back, whole. Plain, of no program. -/
namespace Go.Proofs.YtdendpckihckeaaDoor
open Go.Lib
set_option maxRecDepth 100000

/-- May a value be? (As a proposition, over lists.) -/
def okL (k n : Int) (s : List UInt8) : Prop :=
  (k = 1 ∧ s = [] ∧ -9007199254740991 ≤ n ∧ n ≤ 9007199254740991) ∨ (k = 2 ∧ n = 0 ∧ s.length ≤ 200 ∧ validD s = true) ∨ (k = 3 ∧ s = [] ∧ (n = 0 ∨ n = 1)) ∨ (k = 4 ∧ n = 0 ∧ s.length ≤ 200)
/-- A value's literal. -/
def shwL (k n : Int) (s : List UInt8) : List UInt8 :=
  if k = 1 then itoa n else if k = 3 then (if n = 1 then [116, 114, 117, 101] else [102, 97, 108, 115, 101])
  else if k = 4 then 120 :: 39 :: hexs s ++ [39] else 34 :: (rns s).flatMap shR ++ [34]

theorem scT_once {l : List UInt8} (h : (scT l).e = 0) : okL (scT l).k (scT l).n (scT l).s ∧ shwL (scT l).k (scT l).n (scT l).s ++ (scT l).r = 34 :: l := by
  unfold scT at *
  cases e : txs [] l with
  | none => rw [e] at h; simp at h
  | some p =>
    rw [e] at h
    simp only at h ⊢
    split at h
    · simp at h
    rename_i h200
    rw [if_neg h200]
    simp only
    obtain ⟨cs, a, b, d⟩ := txs_once l.length [] l p (Nat.le_refl _) e
    rw [List.nil_append] at b
    obtain ⟨r1, r2⟩ := rns_enc cs a
    refine ⟨.inr (.inl ⟨rfl, rfl, by omega, by rw [b]; exact r2⟩), ?_⟩
    unfold shwL
    rw [if_neg (by decide), if_neg (by decide), if_neg (by decide), b, r1, d]
    simp
theorem scX_once {l : List UInt8} (h : (scX l).e = 0) : okL (scX l).k (scX l).n (scX l).s ∧ shwL (scX l).k (scX l).n (scX l).s ++ (scX l).r = 120 :: 39 :: l := by
  unfold scX at *
  cases e : hxs l with
  | none => rw [e] at h; simp at h
  | some p =>
    rw [e] at h
    simp only at h ⊢
    split at h
    · simp at h
    rename_i h200
    rw [if_neg h200]
    simp only
    have d := hxs_once l p e
    refine ⟨.inr (.inr (.inr ⟨rfl, rfl, by omega⟩)), ?_⟩
    unfold shwL
    rw [if_neg (by decide), if_neg (by decide), if_pos rfl]
    conv => rhs; rw [d]
    simp
theorem scB_once {n : Int} {l : List UInt8} (hn : n = 0 ∨ n = 1) (h : (scB n l).e = 0) : okL (scB n l).k (scB n l).n (scB n l).s ∧ shwL (scB n l).k (scB n l).n (scB n l).s ++ (scB n l).r = (if n = 1 then [116, 114, 117, 101] else [102, 97, 108, 115, 101]) ++ l := by
  unfold scB at *
  split at h
  · simp at h
  rename_i hg
  rw [if_neg hg]
  exact ⟨.inr (.inr (.inl ⟨rfl, rfl, hn⟩)), rfl⟩
theorem scI_once {neg : Bool} {l : List UInt8} (h : (scI neg l).e = 0) : okL (scI neg l).k (scI neg l).n (scI neg l).s ∧ shwL (scI neg l).k (scI neg l).n (scI neg l).s ++ (scI neg l).r = if neg = true then 45 :: l else l := by
  unfold scI at *
  split at h
  · simp at h
  rename_i h1
  split at h
  · simp at h
  rename_i h2
  rw [if_neg h1, if_neg h2]
  simp only [not_or, not_and] at h1 h2
  have hd := digs_all l
  have hne := h1.1
  obtain ⟨m, hm⟩ : ∃ m, (digs l).length = m + 1 := by
    cases e : digs l with
    | nil => exact absurd e hne
    | cons b t => exact ⟨t.length, rfl⟩
  have happ : digs l ++ l.drop (digs l).length = l := by rw [digs_drop]; exact digs_app l
  cases neg with
  | true =>
    have hh : (digs l).head? ≠ some 48 := fun e => (h1.2 e).1 rfl
    have hp := numOf_pos m (digs l) hm hd hh
    have hdd := decDigits_numOf m (digs l) hm hd (.inl hh)
    refine ⟨.inl ⟨rfl, rfl, by simp only [if_true]; omega, by simp only [if_true]; omega⟩, ?_⟩
    simp only [if_true]
    unfold shwL itoa
    rw [if_pos rfl, if_pos (by omega), show (-(numOf (digs l) : Int)).natAbs = numOf (digs l) by omega, hdd, List.cons_append, happ]
  | false =>
    have hh : (digs l).head? ≠ some 48 ∨ (digs l).length = 1 := by
      by_cases e : (digs l).head? = some 48
      · right
        have := (h1.2 e).2
        omega
      · exact .inl e
    have hdd := decDigits_numOf m (digs l) hm hd hh
    refine ⟨.inl ⟨rfl, rfl, by simp only [Bool.false_eq_true, if_false]; omega, by simp only [Bool.false_eq_true, if_false]; omega⟩, ?_⟩
    simp only [Bool.false_eq_true, if_false]
    unfold shwL itoa
    rw [if_pos rfl, if_neg (by omega), show ((numOf (digs l) : Int)).toNat = numOf (digs l) by omega, hdd, happ]
theorem pre_drop {p l : List UInt8} (h : hasPrefix l p = true) : p ++ l.drop p.length = l := by
  obtain ⟨t, rfl⟩ := List.isPrefixOf_iff_prefix.1 h
  rw [List.drop_left]
/-- What is read was shown so. -/
theorem scn_once {l : List UInt8} (h : (scn l).e = 0) : okL (scn l).k (scn l).n (scn l).s ∧ shwL (scn l).k (scn l).n (scn l).s ++ (scn l).r = l := by
  unfold scn at *
  split at h
  · rename_i hp
    rw [if_pos hp]
    have := pre_drop hp
    obtain ⟨a, b⟩ := scT_once h
    exact ⟨a, by rw [b]; exact this⟩
  rename_i n1
  rw [if_neg n1]
  split at h
  · rename_i hp
    rw [if_pos hp]
    have := pre_drop hp
    obtain ⟨a, b⟩ := scX_once h
    exact ⟨a, by rw [b]; exact this⟩
  rename_i n2
  rw [if_neg n2]
  split at h
  · rename_i hp
    rw [if_pos hp]
    have := pre_drop hp
    obtain ⟨a, b⟩ := scB_once (.inr rfl) h
    exact ⟨a, by rw [b]; exact this⟩
  rename_i n3
  rw [if_neg n3]
  split at h
  · rename_i hp
    rw [if_pos hp]
    have := pre_drop hp
    obtain ⟨a, b⟩ := scB_once (.inl rfl) h
    exact ⟨a, by rw [b]; exact this⟩
  rename_i n4
  rw [if_neg n4]
  split at h
  · rename_i hp
    rw [if_pos hp]
    have := pre_drop hp
    obtain ⟨a, b⟩ := scI_once h
    exact ⟨a, by rw [b]; exact this⟩
  rename_i n5
  rw [if_neg n5]
  exact scI_once h
theorem goes_digs {t : List UInt8} (h : goesL t = false) : digs t = [] := by
  cases t with
  | nil => rfl
  | cons b t =>
    unfold digs
    rw [List.takeWhile_cons_of_neg]
    intro hd
    simp only [isD, decide_eq_true_eq] at hd
    unfold goesL at h
    rw [dec_ascii (by omega)] at h
    simp only [Bool.or_eq_false_iff, decide_eq_false_iff_not] at h
    exact h.2.1 hd
theorem dec_len' : ∀ (k n : Nat), n < 10 ^ k → 0 < k → (decDigits n).length ≤ k
  | 0, _, _, h => absurd h (by decide)
  | k + 1, n, h, _ => by
    rw [decDigits]
    by_cases hn : n < 10
    · rw [dif_pos hn]
      show 1 ≤ k + 1
      omega
    · rw [dif_neg hn, List.length_append]
      have hp : 10 ^ (k + 1) = 10 ^ k * 10 := Nat.pow_succ 10 k
      have h1 : n / 10 < 10 ^ k := by omega
      have hk : 0 < k := by
        cases k with
        | zero => simp at h; omega
        | succ k => omega
      have := dec_len' k (n / 10) h1 hk
      show _ + 1 ≤ _
      omega
theorem scI_back {neg : Bool} {m : Nat} {t : List UInt8} (hm : m ≤ 9007199254740991) (hn : neg = true → m ≠ 0) (ht : goesL t = false) : scI neg (decDigits m ++ t) = ⟨1, if neg = true then -(m : Int) else m, [], t, 0⟩ := by
  obtain ⟨a, b, c, d⟩ := decDigits_ok m
  have e : digs (decDigits m ++ t) = decDigits m := digs_of b (goes_digs ht)
  have hl := dec_len' 16 m (by omega) (by decide)
  unfold scI
  rw [e, if_neg, if_neg, c, List.drop_left]
  · rw [c]; omega
  · simp only [not_or, not_and]
    refine ⟨a, fun h48 => ?_⟩
    have m0 := d h48
    subst m0
    refine ⟨fun hh => hn hh rfl, ?_⟩
    have : (decDigits 0).length = 1 := by rw [decDigits, dif_pos (by decide)]; rfl
    omega
theorem pre_of (p l : List UInt8) : hasPrefix (p ++ l) p = true := List.isPrefixOf_iff_prefix.2 ⟨l, rfl⟩
theorem pre_not {a b : UInt8} (p l : List UInt8) (h : a ≠ b) : hasPrefix (a :: l) (b :: p) = false := by
  simp only [hasPrefix, List.isPrefixOf, Bool.and_eq_false_iff, beq_eq_false_iff_ne]
  exact .inl (Ne.symm h)
theorem scn_num (a : UInt8) (l : List UInt8) (h : a = 45 ∨ isD a = true) : scn (a :: l) = if a = 45 then scI true l else scI false (a :: l) := by
  have hx : ∀ x : UInt8, x.toNat ≠ 45 → (x.toNat < 48 ∨ 57 < x.toNat) → a ≠ x := by
    intro x h1 h2 e
    subst e
    rcases h with h | h
    · subst h; exact h1 rfl
    · simp only [isD, decide_eq_true_eq] at h; omega
  have m1 := hx 34 (by decide) (by decide)
  have m2 := hx 120 (by decide) (by decide)
  have m3 := hx 116 (by decide) (by decide)
  have m4 := hx 102 (by decide) (by decide)
  unfold scn
  rw [pre_not [] l m1, pre_not [39] l m2, pre_not [114, 117, 101] l m3, pre_not [97, 108, 115, 101] l m4]
  simp only [Bool.false_eq_true, if_false]
  by_cases e : a = 45
  · rw [if_pos e, if_pos (by subst e; exact pre_of [45] l)]
    rfl
  · rw [if_neg e, pre_not [] l e]
    rfl
/-- What is shown is read, whatever stands behind it with which no word goes on. -/
theorem scn_back {k n : Int} {s t : List UInt8} (h : okL k n s) (ht : goesL t = false) : scn (shwL k n s ++ t) = ⟨k, n, s, t, 0⟩ := by
  rcases h with ⟨rfl, rfl, h1, h2⟩ | ⟨rfl, rfl, h1, h2⟩ | ⟨rfl, rfl, h1⟩ | ⟨rfl, rfl, h1⟩
  · unfold shwL itoa
    rw [if_pos rfl]
    by_cases hn : n < 0
    · rw [if_pos hn, List.cons_append, scn_num _ _ (.inl rfl), if_pos rfl, scI_back (by omega) (fun _ => by omega) ht, if_pos rfl, show (-(n.natAbs : Int)) = n by omega]
    · rw [if_neg hn]
      obtain ⟨a, b, -, -⟩ := decDigits_ok n.toNat
      have hb := scI_back (neg := false) (m := n.toNat) (t := t) (by omega) (fun e => by cases e) ht
      cases e : decDigits n.toNat with
      | nil => exact absurd e a
      | cons x u =>
        have hx := b x (by rw [e]; simp)
        have h45 : x ≠ 45 := fun e => by subst e; revert hx; decide
        rw [List.cons_append, scn_num _ _ (.inr hx), if_neg h45, ← List.cons_append, ← e, hb, if_neg (by decide), show ((n.toNat : Int)) = n by omega]
  · unfold shwL
    rw [if_neg (by decide), if_neg (by decide), if_neg (by decide)]
    have e : (34 :: (rns s).flatMap shR ++ [34]) ++ t = [34] ++ ((rns s).flatMap shR ++ 34 :: t) := by simp
    rw [e]
    unfold scn
    rw [if_pos (pre_of _ _)]
    show scT ((rns s).flatMap shR ++ 34 :: t) = _
    unfold scT
    rw [txs_back _ [] t (rns_scal s), List.nil_append, enc_rns s.length s (Nat.le_refl _) h2]
    simp only
    rw [if_neg (by omega)]
  · unfold shwL
    rw [if_neg (by decide), if_pos rfl]
    rcases h1 with rfl | rfl
    · rw [if_neg (by decide)]
      unfold scn
      rw [show hasPrefix ([102, 97, 108, 115, 101] ++ t) [34] = false from pre_not _ _ (by decide), show hasPrefix ([102, 97, 108, 115, 101] ++ t) [120, 39] = false from pre_not _ _ (by decide), show hasPrefix ([102, 97, 108, 115, 101] ++ t) [116, 114, 117, 101] = false from pre_not _ _ (by decide), pre_of]
      simp only [Bool.false_eq_true, if_false, if_true]
      show scB 0 t = _
      unfold scB
      rw [ht]
      rfl
    · rw [if_pos rfl]
      unfold scn
      rw [show hasPrefix ([116, 114, 117, 101] ++ t) [34] = false from pre_not _ _ (by decide), show hasPrefix ([116, 114, 117, 101] ++ t) [120, 39] = false from pre_not _ _ (by decide), pre_of]
      simp only [Bool.false_eq_true, if_false, if_true]
      show scB 1 t = _
      unfold scB
      rw [ht]
      rfl
  · unfold shwL
    rw [if_neg (by decide), if_neg (by decide), if_pos rfl]
    have e : (120 :: 39 :: hexs s ++ [39]) ++ t = [120, 39] ++ (hexs s ++ 39 :: t) := by simp
    rw [e]
    unfold scn
    rw [show hasPrefix ([120, 39] ++ (hexs s ++ 39 :: t)) [34] = false from pre_not _ _ (by decide), pre_of]
    simp only [Bool.false_eq_true, if_false, if_true]
    show scX (hexs s ++ 39 :: t) = _
    unfold scX
    rw [hxs_back]
    simp only
    rw [if_neg (by omega)]
end Go.Proofs.YtdendpckihckeaaDoor
