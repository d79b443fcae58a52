/- Literals: once and back, whole. Plain, of no program. -/
import Derived.Test.YtdendpckihckeaaGreatDoorXC
namespace Go.Proofs.YtdendpckihckeaaGreatDoor
open Go.Lib
set_option maxRecDepth 100000

/-- May a value be? (As a proposition, over lists.) -/
def okL (k n : Int) (s : List UInt8) : Prop :=
  (k = 1 ∧ s = [] ∧ -9007199254740991 ≤ n ∧ n ≤ 9007199254740991) ∨ (k = 2 ∧ n = 0 ∧ s.length ≤ 200 ∧ validD s = true) ∨ (k = 3 ∧ s = [] ∧ (n = 0 ∨ n = 1)) ∨ (k = 4 ∧ n = 0 ∧ s.length ≤ 200)
/-- A value's literal. -/
def shwL (k n : Int) (s : List UInt8) : List UInt8 :=
  if k = 1 then itoa n else if k = 3 then (if n = 1 then [116, 114, 117, 101] else [102, 97, 108, 115, 101])
  else if k = 4 then 120 :: 39 :: hexs s ++ [39] else 34 :: (rns s).flatMap shR ++ [34]

theorem scT_once {l : List UInt8} (h : (scT l).e = 0) : okL (scT l).k (scT l).n (scT l).s ∧ shwL (scT l).k (scT l).n (scT l).s ++ (scT l).r = 34 :: l := by
  unfold scT at *
  cases e : txs [] l with
  | none => rw [e] at h; simp at h
  | some p =>
    rw [e] at h
    simp only at h ⊢
    split at h
    · simp at h
    rename_i h200
    rw [if_neg h200]
    simp only
    obtain ⟨cs, a, b, d⟩ := txs_once l.length [] l p (Nat.le_refl _) e
    rw [List.nil_append] at b
    obtain ⟨r1, r2⟩ := rns_enc cs a
    refine ⟨.inr (.inl ⟨rfl, rfl, by omega, by rw [b]; exact r2⟩), ?_⟩
    unfold shwL
    rw [if_neg (by decide), if_neg (by decide), if_neg (by decide), b, r1, d]
    simp
theorem scX_once {l : List UInt8} (h : (scX l).e = 0) : okL (scX l).k (scX l).n (scX l).s ∧ shwL (scX l).k (scX l).n (scX l).s ++ (scX l).r = 120 :: 39 :: l := by
  unfold scX at *
  cases e : hxs l with
  | none => rw [e] at h; simp at h
  | some p =>
    rw [e] at h
    simp only at h ⊢
    split at h
    · simp at h
    rename_i h200
    rw [if_neg h200]
    simp only
    have d := hxs_once l p e
    refine ⟨.inr (.inr (.inr ⟨rfl, rfl, by omega⟩)), ?_⟩
    unfold shwL
    rw [if_neg (by decide), if_neg (by decide), if_pos rfl]
    conv => rhs; rw [d]
    simp
theorem scB_once {n : Int} {l : List UInt8} (hn : n = 0 ∨ n = 1) (h : (scB n l).e = 0) : okL (scB n l).k (scB n l).n (scB n l).s ∧ shwL (scB n l).k (scB n l).n (scB n l).s ++ (scB n l).r = (if n = 1 then [116, 114, 117, 101] else [102, 97, 108, 115, 101]) ++ l := by
  unfold scB at *
  split at h
  · simp at h
  rename_i hg
  rw [if_neg hg]
  exact ⟨.inr (.inr (.inl ⟨rfl, rfl, hn⟩)), rfl⟩
theorem scI_once {neg : Bool} {l : List UInt8} (h : (scI neg l).e = 0) : okL (scI neg l).k (scI neg l).n (scI neg l).s ∧ shwL (scI neg l).k (scI neg l).n (scI neg l).s ++ (scI neg l).r = if neg = true then 45 :: l else l := by
  unfold scI at *
  split at h
  · simp at h
  rename_i h1
  split at h
  · simp at h
  rename_i h2
  rw [if_neg h1, if_neg h2]
  simp only [not_or, not_and] at h1 h2
  have hd := digs_all l
  have hne := h1.1
  obtain ⟨m, hm⟩ : ∃ m, (digs l).length = m + 1 := by
    cases e : digs l with
    | nil => exact absurd e hne
    | cons b t => exact ⟨t.length, rfl⟩
  have happ : digs l ++ l.drop (digs l).length = l := by rw [digs_drop]; exact digs_app l
  cases neg with
  | true =>
    have hh : (digs l).head? ≠ some 48 := fun e => (h1.2 e).1 rfl
    have hp := numOf_pos m (digs l) hm hd hh
    have hdd := decDigits_numOf m (digs l) hm hd (.inl hh)
    refine ⟨.inl ⟨rfl, rfl, by simp only [if_true]; omega, by simp only [if_true]; omega⟩, ?_⟩
    simp only [if_true]
    unfold shwL itoa
    rw [if_pos rfl, if_pos (by omega), show (-(numOf (digs l) : Int)).natAbs = numOf (digs l) by omega, hdd, List.cons_append, happ]
  | false =>
    have hh : (digs l).head? ≠ some 48 ∨ (digs l).length = 1 := by
      by_cases e : (digs l).head? = some 48
      · right
        have := (h1.2 e).2
        omega
      · exact .inl e
    have hdd := decDigits_numOf m (digs l) hm hd hh
    refine ⟨.inl ⟨rfl, rfl, by simp only [Bool.false_eq_true, if_false]; omega, by simp only [Bool.false_eq_true, if_false]; omega⟩, ?_⟩
    simp only [Bool.false_eq_true, if_false]
    unfold shwL itoa
    rw [if_pos rfl, if_neg (by omega), show ((numOf (digs l) : Int)).toNat = numOf (digs l) by omega, hdd, happ]
theorem pre_drop {p l : List UInt8} (h : hasPrefix l p = true) : p ++ l.drop p.length = l := by
  obtain ⟨t, rfl⟩ := List.isPrefixOf_iff_prefix.1 h
  rw [List.drop_left]
/-- What is read was shown so. -/
theorem scn_once {l : List UInt8} (h : (scn l).e = 0) : okL (scn l).k (scn l).n (scn l).s ∧ shwL (scn l).k (scn l).n (scn l).s ++ (scn l).r = l := by
  unfold scn at *
  split at h
  · rename_i hp
    rw [if_pos hp]
    have := pre_drop hp
    obtain ⟨a, b⟩ := scT_once h
    exact ⟨a, by rw [b]; exact this⟩
  rename_i n1
  rw [if_neg n1]
  split at h
  · rename_i hp
    rw [if_pos hp]
    have := pre_drop hp
    obtain ⟨a, b⟩ := scX_once h
    exact ⟨a, by rw [b]; exact this⟩
  rename_i n2
  rw [if_neg n2]
  split at h
  · rename_i hp
    rw [if_pos hp]
    have := pre_drop hp
    obtain ⟨a, b⟩ := scB_once (.inr rfl) h
    exact ⟨a, by rw [b]; exact this⟩
  rename_i n3
  rw [if_neg n3]
  split at h
  · rename_i hp
    rw [if_pos hp]
    have := pre_drop hp
    obtain ⟨a, b⟩ := scB_once (.inl rfl) h
    exact ⟨a, by rw [b]; exact this⟩
  rename_i n4
  rw [if_neg n4]
  split at h
  · rename_i hp
    rw [if_pos hp]
    have := pre_drop hp
    obtain ⟨a, b⟩ := scI_once h
    exact ⟨a, by rw [b]; exact this⟩
  rename_i n5
  rw [if_neg n5]
  exact scI_once h
theorem goes_digs {t : List UInt8} (h : goesL t = false) : digs t = [] := by
  cases t with
  | nil => rfl
  | cons b t =>
    unfold digs
    rw [List.takeWhile_cons_of_neg]
    intro hd
    simp only [isD, decide_eq_true_eq] at hd
    unfold goesL at h
    rw [dec_ascii (by omega)] at h
    simp only [Bool.or_eq_false_iff, decide_eq_false_iff_not] at h
    exact h.2.1 hd
theorem dec_len' : ∀ (k n : Nat), n < 10 ^ k → 0 < k → (decDigits n).length ≤ k
  | 0, _, _, h => absurd h (by decide)
  | k + 1, n, h, _ => by
    rw [decDigits]
    by_cases hn : n < 10
    · rw [dif_pos hn]
      show 1 ≤ k + 1
      omega
    · rw [dif_neg hn, List.length_append]
      have hp : 10 ^ (k + 1) = 10 ^ k * 10 := Nat.pow_succ 10 k
      have h1 : n / 10 < 10 ^ k := by omega
      have hk : 0 < k := by
        cases k with
        | zero => simp at h; omega
        | succ k => omega
      have := dec_len' k (n / 10) h1 hk
      show _ + 1 ≤ _
      omega
theorem scI_back {neg : Bool} {m : Nat} {t : List UInt8} (hm : m ≤ 9007199254740991) (hn : neg = true → m ≠ 0) (ht : goesL t = false) : scI neg (decDigits m ++ t) = ⟨1, if neg = true then -(m : Int) else m, [], t, 0⟩ := by
  obtain ⟨a, b, c, d⟩ := decDigits_ok m
  have e : digs (decDigits m ++ t) = decDigits m := digs_of b (goes_digs ht)
  have hl := dec_len' 16 m (by omega) (by decide)
  unfold scI
  rw [e, if_neg, if_neg, c, List.drop_left]
  · rw [c]; omega
  · simp only [not_or, not_and]
    refine ⟨a, fun h48 => ?_⟩
    have m0 := d h48
    subst m0
    refine ⟨fun hh => hn hh rfl, ?_⟩
    have : (decDigits 0).length = 1 := by rw [decDigits, dif_pos (by decide)]; rfl
    omega
theorem pre_of (p l : List UInt8) : hasPrefix (p ++ l) p = true := List.isPrefixOf_iff_prefix.2 ⟨l, rfl⟩
theorem pre_not {a b : UInt8} (p l : List UInt8) (h : a ≠ b) : hasPrefix (a :: l) (b :: p) = false := by
  simp only [hasPrefix, List.isPrefixOf, Bool.and_eq_false_iff, beq_eq_false_iff_ne]
  exact .inl (Ne.symm h)
theorem scn_num (a : UInt8) (l : List UInt8) (h : a = 45 ∨ isD a = true) : scn (a :: l) = if a = 45 then scI true l else scI false (a :: l) := by
  have hx : ∀ x : UInt8, x.toNat ≠ 45 → (x.toNat < 48 ∨ 57 < x.toNat) → a ≠ x := by
    intro x h1 h2 e
    subst e
    rcases h with h | h
    · subst h; exact h1 rfl
    · simp only [isD, decide_eq_true_eq] at h; omega
  have m1 := hx 34 (by decide) (by decide)
  have m2 := hx 120 (by decide) (by decide)
  have m3 := hx 116 (by decide) (by decide)
  have m4 := hx 102 (by decide) (by decide)
  unfold scn
  rw [pre_not [] l m1, pre_not [39] l m2, pre_not [114, 117, 101] l m3, pre_not [97, 108, 115, 101] l m4]
  simp only [Bool.false_eq_true, if_false]
  by_cases e : a = 45
  · rw [if_pos e, if_pos (by subst e; exact pre_of [45] l)]
    rfl
  · rw [if_neg e, pre_not [] l e]
    rfl
/-- What is shown is read, whatever stands behind it with which no word goes on. -/
theorem scn_back {k n : Int} {s t : List UInt8} (h : okL k n s) (ht : goesL t = false) : scn (shwL k n s ++ t) = ⟨k, n, s, t, 0⟩ := by
  rcases h with ⟨rfl, rfl, h1, h2⟩ | ⟨rfl, rfl, h1, h2⟩ | ⟨rfl, rfl, h1⟩ | ⟨rfl, rfl, h1⟩
  · unfold shwL itoa
    rw [if_pos rfl]
    by_cases hn : n < 0
    · rw [if_pos hn, List.cons_append, scn_num _ _ (.inl rfl), if_pos rfl, scI_back (by omega) (fun _ => by omega) ht, if_pos rfl, show (-(n.natAbs : Int)) = n by omega]
    · rw [if_neg hn]
      obtain ⟨a, b, -, -⟩ := decDigits_ok n.toNat
      have hb := scI_back (neg := false) (m := n.toNat) (t := t) (by omega) (fun e => by cases e) ht
      cases e : decDigits n.toNat with
      | nil => exact absurd e a
      | cons x u =>
        have hx := b x (by rw [e]; simp)
        have h45 : x ≠ 45 := fun e => by subst e; revert hx; decide
        rw [List.cons_append, scn_num _ _ (.inr hx), if_neg h45, ← List.cons_append, ← e, hb, if_neg (by decide), show ((n.toNat : Int)) = n by omega]
  · unfold shwL
    rw [if_neg (by decide), if_neg (by decide), if_neg (by decide)]
    have e : (34 :: (rns s).flatMap shR ++ [34]) ++ t = [34] ++ ((rns s).flatMap shR ++ 34 :: t) := by simp
    rw [e]
    unfold scn
    rw [if_pos (pre_of _ _)]
    show scT ((rns s).flatMap shR ++ 34 :: t) = _
    unfold scT
    rw [txs_back _ [] t (rns_scal s), List.nil_append, enc_rns s.length s (Nat.le_refl _) h2]
    simp only
    rw [if_neg (by omega)]
  · unfold shwL
    rw [if_neg (by decide), if_pos rfl]
    rcases h1 with rfl | rfl
    · rw [if_neg (by decide)]
      unfold scn
      rw [show hasPrefix ([102, 97, 108, 115, 101] ++ t) [34] = false from pre_not _ _ (by decide), show hasPrefix ([102, 97, 108, 115, 101] ++ t) [120, 39] = false from pre_not _ _ (by decide), show hasPrefix ([102, 97, 108, 115, 101] ++ t) [116, 114, 117, 101] = false from pre_not _ _ (by decide), pre_of]
      simp only [Bool.false_eq_true, if_false, if_true]
      show scB 0 t = _
      unfold scB
      rw [ht]
      rfl
    · rw [if_pos rfl]
      unfold scn
      rw [show hasPrefix ([116, 114, 117, 101] ++ t) [34] = false from pre_not _ _ (by decide), show hasPrefix ([116, 114, 117, 101] ++ t) [120, 39] = false from pre_not _ _ (by decide), pre_of]
      simp only [Bool.false_eq_true, if_false, if_true]
      show scB 1 t = _
      unfold scB
      rw [ht]
      rfl
  · unfold shwL
    rw [if_neg (by decide), if_neg (by decide), if_pos rfl]
    have e : (120 :: 39 :: hexs s ++ [39]) ++ t = [120, 39] ++ (hexs s ++ 39 :: t) := by simp
    rw [e]
    unfold scn
    rw [show hasPrefix ([120, 39] ++ (hexs s ++ 39 :: t)) [34] = false from pre_not _ _ (by decide), pre_of]
    simp only [Bool.false_eq_true, if_false, if_true]
    show scX (hexs s ++ 39 :: t) = _
    unfold scX
    rw [hxs_back]
    simp only
    rw [if_neg (by omega)]
end Go.Proofs.YtdendpckihckeaaGreatDoor
