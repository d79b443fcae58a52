/- Runes within a text's literal: how they are written, and read. Plain, of no program. -/
import Derived.Test.YtdendpckihckeaaGreatDoorXA
import Derived.Lib.Bytealg
namespace Go.Proofs.YtdendpckihckeaaGreatDoor
open Go.Lib
set_option maxRecDepth 100000

theorem esc_uniq : ∀ a b : Fin 128, (shR a.val).head? = some 92 → (shR b.val).head? = some 92 → (shR a.val).isPrefixOf (shR b.val) = true → a = b := by decide +kernel
theorem escL_spec {l : List UInt8} {c : Nat} (h : escL l = some c) : c < 128 ∧ (shR c).head? = some 92 ∧ shR c <+: l := by
  have h1 := List.find?_some h
  have h2 := List.mem_of_find?_eq_some h
  simp only [Bool.and_eq_true, decide_eq_true_eq] at h1
  exact ⟨List.mem_range.1 h2, h1.1, List.isPrefixOf_iff_prefix.1 h1.2⟩
theorem escL_of {l : List UInt8} {c : Nat} (h1 : c < 128) (h2 : (shR c).head? = some 92) (h3 : shR c <+: l) : escL l = some c := by
  have hs : (escL l).isSome := by
    rw [escL, List.find?_isSome]
    exact ⟨c, List.mem_range.2 h1, by simp [h2, List.isPrefixOf_iff_prefix.2 h3]⟩
  obtain ⟨d, hd⟩ := Option.isSome_iff_exists.1 hs
  obtain ⟨d1, d2, d3⟩ := escL_spec hd
  rcases Nat.le_total (shR c).length (shR d).length with hl | hl
  · have := esc_uniq ⟨c, h1⟩ ⟨d, d1⟩ h2 d2 (List.isPrefixOf_iff_prefix.2 (List.prefix_of_prefix_length_le h3 d3 hl))
    rw [hd]
    exact congrArg some (congrArg Fin.val this).symm
  · have := esc_uniq ⟨d, d1⟩ ⟨c, h1⟩ d2 h2 (List.isPrefixOf_iff_prefix.2 (List.prefix_of_prefix_length_le d3 h3 hl))
    rw [hd]
    exact congrArg some (congrArg Fin.val this)
theorem escL_no {l : List UInt8} (h : ∀ c, c < 128 → (shR c).head? = some 92 → ¬ shR c <+: l) : escL l = none := by
  cases e : escL l with
  | none => rfl
  | some c => obtain ⟨a, b, d⟩ := escL_spec e; exact absurd d (h c a b)
theorem esc_q (t : List UInt8) : escL (92 :: 34 :: t) = some 34 := escL_of (by decide) (by decide +kernel) ⟨t, rfl⟩
theorem esc_b (t : List UInt8) : escL (92 :: 92 :: t) = some 92 := escL_of (by decide) (by decide +kernel) ⟨t, rfl⟩
theorem esc_n (t : List UInt8) : escL (92 :: 110 :: t) = some 10 := escL_of (by decide) (by decide +kernel) ⟨t, rfl⟩
theorem esc_t (t : List UInt8) : escL (92 :: 116 :: t) = some 9 := escL_of (by decide) (by decide +kernel) ⟨t, rfl⟩
theorem esc_r (t : List UInt8) : escL (92 :: 114 :: t) = some 13 := escL_of (by decide) (by decide +kernel) ⟨t, rfl⟩
theorem esc_one : escL [92] = none := by decide +kernel
theorem esc_snd : ∀ c : Fin 128, (shR c.val).head? = some 92 → shR c.val = 92 :: (shR c.val).getD 1 0 :: (shR c.val).drop 2 ∧ ((shR c.val).getD 1 0 = 34 ∨ (shR c.val).getD 1 0 = 92 ∨ (shR c.val).getD 1 0 = 110 ∨ (shR c.val).getD 1 0 = 116 ∨ (shR c.val).getD 1 0 = 114 ∨ (shR c.val).getD 1 0 = 117) := by decide +kernel
theorem esc_other {b : UInt8} {t : List UInt8} (h1 : b ≠ 34) (h2 : b ≠ 92) (h3 : b ≠ 110) (h4 : b ≠ 116) (h5 : b ≠ 114) (h6 : b ≠ 117) : escL (92 :: b :: t) = none := by
  refine escL_no fun c hc hh hp => ?_
  obtain ⟨e, h⟩ := esc_snd ⟨c, hc⟩ hh
  simp only at e h
  rw [e] at hp
  obtain ⟨u, hu⟩ := hp
  simp only [List.cons_append, List.cons.injEq] at hu
  obtain ⟨-, e2, -⟩ := hu
  rw [e2] at h
  rcases h with h | h | h | h | h | h
  · exact h1 h
  · exact h2 h
  · exact h3 h
  · exact h4 h
  · exact h5 h
  · exact h6 h

/-- A digit of base 16, as it is parsed. -/
def puD (b : UInt8) : Option Nat := if 48 ≤ b.toNat ∧ b.toNat ≤ 57 then some (b.toNat - 48) else if 97 ≤ (b.toNat ||| 32) ∧ (b.toNat ||| 32) ≤ 102 then some ((b.toNat ||| 32) - 87) else none
def puL : List UInt8 → Option Nat
  | [x] => puD x
  | [x, y] => match puD x, puD y with
    | some a, some b => some (16 * a + b)
    | _, _ => none
  | _ => none
theorem puD_lt {b : UInt8} {n : Nat} (h : puD b = some n) : n < 16 := by
  unfold puD at h
  split at h
  · cases h; omega
  split at h
  · cases h; omega
  · cases h
theorem puL_lt {l : List UInt8} {n : Nat} (h : puL l = some n) : n < 256 := by
  unfold puL at h
  split at h
  · have := puD_lt h; omega
  · rename_i x y
    split at h
    · rename_i a b ha hb
      have := puD_lt ha
      have := puD_lt hb
      cases h
      omega
    · cases h
  · cases h
theorem num_form : ∀ c : Fin 128, (shR c.val).head? = some 92 → (shR c.val).getD 1 0 = 117 →
    (shR c.val = [92, 117, 123, (shR c.val).getD 3 0, 125] ∧ (shR c.val).getD 3 0 ≠ 125 ∧ puL [(shR c.val).getD 3 0] = some c.val) ∨
    (shR c.val = [92, 117, 123, (shR c.val).getD 3 0, (shR c.val).getD 4 0, 125] ∧ (shR c.val).getD 3 0 ≠ 125 ∧ (shR c.val).getD 4 0 ≠ 125 ∧ puL [(shR c.val).getD 3 0, (shR c.val).getD 4 0] = some c.val) := by decide +kernel
theorem num_small : ∀ n : Fin 256, (shR n.val).head? = some 92 → n.val < 128 := by decide +kernel
/-- A rune that stands there by its number. -/
theorem num_at {l u : List UInt8} (hl : l = 92 :: 117 :: u) {c : Nat} (h : escL l = some c) :
    (∃ x t, l = 92 :: 117 :: 123 :: x :: 125 :: t ∧ x ≠ 125 ∧ puL [x] = some c ∧ shR c = [92, 117, 123, x, 125]) ∨
    (∃ x y t, l = 92 :: 117 :: 123 :: x :: y :: 125 :: t ∧ x ≠ 125 ∧ y ≠ 125 ∧ puL [x, y] = some c ∧ shR c = [92, 117, 123, x, y, 125]) := by
  obtain ⟨hc, hh, ⟨t, ht⟩⟩ := escL_spec h
  have e1 := (esc_snd ⟨c, hc⟩ hh).1
  simp only at e1
  have h1 : (shR c).getD 1 0 = 117 := by
    rw [hl, e1] at ht
    simp only [List.cons_append, List.cons.injEq] at ht
    exact ht.2.1
  rcases num_form ⟨c, hc⟩ hh h1 with ⟨e, a, b⟩ | ⟨e, a, b, d⟩
  · simp only at e a b
    exact .inl ⟨_, t, by rw [← ht, e]; rfl, a, b, e⟩
  · simp only at e a b d
    exact .inr ⟨_, _, t, by rw [← ht, e]; rfl, a, b, d, e⟩
theorem ix4 {u : List UInt8} {a b : UInt8} {t : List UInt8} (ha : a ≠ 125) (hb : b ≠ 125) (hu : u = a :: b :: 125 :: t) : indexByte ((92 :: 117 :: u).take 6) 125 = 4 := by
  subst hu
  cases t <;> simp [indexByte, ha, hb]
theorem ix5 {u : List UInt8} {a b c : UInt8} {t : List UInt8} (ha : a ≠ 125) (hb : b ≠ 125) (hc : c ≠ 125) (hu : u = a :: b :: c :: 125 :: t) : indexByte ((92 :: 117 :: u).take 6) 125 = 5 := by
  subst hu
  simp [indexByte, ha, hb, hc]
/-- Where the closing brace stands. -/
theorem ix_cases (u : List UInt8) : indexByte ((92 :: 117 :: u).take 6) 125 < 4 ∨
    (indexByte ((92 :: 117 :: u).take 6) 125 = 4 ∧ ∃ a b t, u = a :: b :: 125 :: t) ∨
    (indexByte ((92 :: 117 :: u).take 6) 125 = 5 ∧ ∃ a b c t, u = a :: b :: c :: 125 :: t) := by
  match u with
  | [] => exact .inl (by decide)
  | [a] => left; simp only [List.take, indexByte]; repeat' split
           all_goals simp_all
  | [a, b] => left; simp only [List.take, indexByte]; repeat' split
              all_goals simp_all
  | [a, b, c] =>
    by_cases ha : a = 125
    · left; simp [ha, indexByte]
    by_cases hb : b = 125
    · left; simp [ha, hb, indexByte]
    by_cases hc : c = 125
    · right; left; subst hc; exact ⟨ix4 ha hb rfl, a, b, [], rfl⟩
    · left; simp [ha, hb, hc, indexByte]
  | a :: b :: c :: d :: t =>
    by_cases ha : a = 125
    · left; simp [ha, indexByte]
    by_cases hb : b = 125
    · left; simp [ha, hb, indexByte]
    by_cases hc : c = 125
    · right; left; subst hc; exact ⟨ix4 ha hb rfl, a, b, _, rfl⟩
    by_cases hd : d = 125
    · right; right; subst hd; exact ⟨ix5 ha hb hc rfl, a, b, c, t, rfl⟩
    · left; simp [ha, hb, hc, hd, indexByte]
theorem esc_num_no {u : List UInt8} (h : indexByte ((92 :: 117 :: u).take 6) 125 < 4) : escL (92 :: 117 :: u) = none := by
  cases e : escL (92 :: 117 :: u) with
  | none => rfl
  | some c =>
    rcases num_at rfl e with ⟨x, t, hl, hx, _, _⟩ | ⟨x, y, t, hl, hx, hy, _, _⟩
    · simp only [List.cons.injEq, true_and] at hl
      rw [ix4 (by decide) hx hl] at h
      omega
    · simp only [List.cons.injEq, true_and] at hl
      rw [ix5 (by decide) hx hy hl] at h
      omega
theorem esc_num1 {a b : UInt8} {t : List UInt8} (hi : indexByte ((92 :: 117 :: a :: b :: 125 :: t).take 6) 125 = 4) : escL (92 :: 117 :: a :: b :: 125 :: t) = (puL [b]).bind fun n => if shR n = [92, 117, a, b, 125] then some n else none := by
  cases e : escL (92 :: 117 :: a :: b :: 125 :: t) with
  | some c =>
    rcases num_at rfl e with ⟨x, t', hl, hx, hp, hs⟩ | ⟨x, y, t', hl, hx, hy, hp, hs⟩
    · simp only [List.cons.injEq, true_and] at hl
      obtain ⟨rfl, rfl, -⟩ := hl
      rw [hp]
      simp [hs]
    · have := ix5 (by decide) hx hy (show a :: b :: 125 :: t = 123 :: x :: y :: 125 :: t' by simpa using hl)
      rw [this] at hi
      omega
  | none =>
    cases hp : puL [b] with
    | none => rfl
    | some n =>
      show none = if _ then _ else _
      rw [if_neg]
      intro hs
      have hlt := num_small ⟨n, puL_lt hp⟩ (by show (shR n).head? = _; rw [hs]; rfl)
      rw [escL_of hlt (by rw [hs]; rfl) (by rw [hs]; exact ⟨t, rfl⟩)] at e
      cases e
theorem esc_num2 {a b c : UInt8} {t : List UInt8} (hi : indexByte ((92 :: 117 :: a :: b :: c :: 125 :: t).take 6) 125 = 5) : escL (92 :: 117 :: a :: b :: c :: 125 :: t) = (puL [b, c]).bind fun n => if shR n = [92, 117, a, b, c, 125] then some n else none := by
  cases e : escL (92 :: 117 :: a :: b :: c :: 125 :: t) with
  | some d =>
    rcases num_at rfl e with ⟨x, t', hl, hx, hp, hs⟩ | ⟨x, y, t', hl, hx, hy, hp, hs⟩
    · have := ix4 (by decide) hx (show a :: b :: c :: 125 :: t = 123 :: x :: 125 :: t' by simpa using hl)
      rw [this] at hi
      omega
    · simp only [List.cons.injEq, true_and] at hl
      obtain ⟨rfl, rfl, rfl, -⟩ := hl
      rw [hp]
      simp [hs]
  | none =>
    cases hp : puL [b, c] with
    | none => rfl
    | some n =>
      show none = if _ then _ else _
      rw [if_neg]
      intro hs
      have hlt := num_small ⟨n, puL_lt hp⟩ (by show (shR n).head? = _; rw [hs]; rfl)
      rw [escL_of hlt (by rw [hs]; rfl) (by rw [hs]; exact ⟨t, rfl⟩)] at e
      cases e

/-! ### a rune within a text -/
theorem shR_plain {c : Nat} (h1 : 32 ≤ c) (h2 : c ≠ 127) (h3 : c ≠ 34) (h4 : c ≠ 92) : shR c = enc c := by
  unfold shR
  rw [if_neg h3, if_neg h4, if_neg (by omega), if_neg (by omega), if_neg (by omega), if_neg (by omega), if_neg (by omega)]
theorem dec_ascii {b : UInt8} {t : List UInt8} (h : b.toNat < 128) : decodeL (b :: t) = (b.toNat, 1) := by
  rw [decodeL_N]
  unfold decodeN
  simp only [List.getD_cons_zero]
  rw [if_pos h]
theorem dec_small {l : List UInt8} {c : Nat} (hne : l ≠ []) (hc : (decodeL l).1 = c) (h : c < 128) : ∃ b t, l = b :: t ∧ b.toNat = c := by
  cases l with
  | nil => exact absurd rfl hne
  | cons b t =>
    refine ⟨b, t, rfl, ?_⟩
    by_cases hb : b.toNat < 128
    · rw [dec_ascii hb] at hc; exact hc
    · exfalso
      rw [decodeL_N] at hc
      unfold decodeN at hc
      simp only [List.getD_cons_zero] at hc
      rw [if_neg hb] at hc
      split at hc
      · split at hc <;> simp only at hc <;> omega
      split at hc
      · split at hc <;> simp only at hc <;> omega
      split at hc
      · split at hc <;> simp only at hc <;> omega
      · simp only at hc; omega
/-- What decodes well is what the rune encodes to. -/
theorem enc_dec {l : List UInt8} (hne : l ≠ []) (h : ¬ ((decodeL l).1 = 65533 ∧ (decodeL l).2 = 1)) : enc (decodeL l).1 = l.take (decodeL l).2 := by
  have he := encode_decode l hne h
  rw [← he]
  have hs := decodeL_scal l
  generalize (decodeL l).1 = c at hs
  by_cases h1 : c < 128
  · rw [enc1 h1, encodeRune, encodeRuneZ_one (by omega) (by omega)]; simp
  by_cases h2 : c < 2048
  · rw [enc2 (by omega) h2, encodeRune, encodeRuneZ_two (by omega) (by omega)]
    simp only [List.map_cons, List.map_nil]
    congr 1
  by_cases h3 : c < 65536
  · rw [enc3 (by omega) h3 hs, encodeRune, encodeRuneZ_three (by unfold scal at hs; omega)]
    simp only [List.map_cons, List.map_nil]
    congr 1
  · rw [enc4 (by omega) hs, encodeRune, encodeRuneZ_four (by omega) (by unfold scal at hs; omega)]
    simp only [List.map_cons, List.map_nil]
    congr 1
/-- What is said of a rune that was read: it is written so. -/
theorem runeL_spec {l : List UInt8} {c d : Nat} (h : runeL l = some (c, d)) (hq : l.head? ≠ some 34) : shR c = l.take d ∧ 1 ≤ d ∧ d ≤ l.length ∧ scal c ∧ (enc c).length ≤ d := by
  unfold runeL at h
  split at h
  · rename_i h92
    cases e : escL l with
    | none => rw [e] at h; cases h
    | some x =>
      rw [e] at h
      simp only [Option.map_some, Option.some.injEq, Prod.mk.injEq] at h
      obtain ⟨rfl, rfl⟩ := h
      obtain ⟨a, b, p⟩ := escL_spec e
      have hl := p.length_le
      have h1 : 1 ≤ (shR x).length := by
        cases hh : shR x with
        | nil => rw [hh] at b; cases b
        | cons _ _ => simp
      exact ⟨List.prefix_iff_eq_take.1 p, h1, hl, .inl (by omega), by rw [enc1 a]; exact h1⟩
  · rename_i h92
    split at h
    · cases h
    · rename_i hn
      simp only [not_or] at hn
      obtain ⟨hne, hbad, h32, h127⟩ := hn
      simp only [Option.some.injEq] at h
      have ed : enc c = l.take d := by have := enc_dec hne hbad; rw [h] at this; exact this
      have hw := decodeL_width l
      have hle := decodeL_le l hne
      rw [h] at hw hle h32 h127
      simp only at hw hle h32 h127
      have h34 : c ≠ 34 := fun e => by
        obtain ⟨b, t, rfl, hb⟩ := dec_small (c := 34) hne (by rw [h]; exact e) (by decide)
        exact hq (by simp only [List.head?_cons]; exact congrArg some (UInt8.toNat_inj.1 hb))
      have h92' : c ≠ 92 := fun e => by
        obtain ⟨b, t, rfl, hb⟩ := dec_small (c := 92) hne (by rw [h]; exact e) (by decide)
        exact h92 (by simp only [List.head?_cons]; exact congrArg some (UInt8.toNat_inj.1 hb))
      have hsc := decodeL_scal l
      rw [h] at hsc
      refine ⟨by rw [shR_plain (by omega) h127 h34 h92', ed], by omega, hle, hsc, ?_⟩
      rw [ed, List.length_take]
      omega
theorem txGo_fuel : ∀ (n m : Nat) (acc l : List UInt8), l.length < n → l.length < m → txGo n acc l = txGo m acc l
  | 0, _, _, _, h, _ => absurd h (by omega)
  | _ + 1, 0, _, _, _, h => absurd h (by omega)
  | n + 1, m + 1, acc, l, hn, hm => by
    unfold txGo
    by_cases hq : l.head? = some 34
    · rw [if_pos hq, if_pos hq]
    · rw [if_neg hq, if_neg hq]
      cases e : runeL l with
      | none => rfl
      | some p =>
        obtain ⟨c, d⟩ := p
        obtain ⟨-, h1, h2, -, -⟩ := runeL_spec e hq
        exact txGo_fuel n m _ _ (by rw [List.length_drop]; omega) (by rw [List.length_drop]; omega)
theorem txs_end {acc l : List UInt8} (h : l.head? = some 34) : txs acc l = some (acc, l.drop 1) := by
  unfold txs txGo
  rw [if_pos h]
theorem txs_none {acc l : List UInt8} (h : l.head? ≠ some 34) (hr : runeL l = none) : txs acc l = none := by
  unfold txs txGo
  rw [if_neg h, hr]
theorem txs_step {acc l : List UInt8} {c d : Nat} (h : l.head? ≠ some 34) (hr : runeL l = some (c, d)) : txs acc l = txs (acc ++ enc c) (l.drop d) := by
  obtain ⟨-, h1, h2, -, -⟩ := runeL_spec hr h
  conv => lhs; unfold txs txGo
  rw [if_neg h, hr]
  exact txGo_fuel _ _ _ _ (by rw [List.length_drop]; omega) (Nat.lt_succ_self _)
end Go.Proofs.YtdendpckihckeaaGreatDoor
