/- Literals: once and back, whole. Plain, of no program. -/
import Derived.Test.YtmfeoiblhjfpjaaGreatDoorZb3
import Derived.Lib.ValidLaws
import Derived.Lib.DecodeN
namespace Go.Proofs.YtmfeoiblhjfpjaaGreatDoor
open Go.Lib
set_option maxRecDepth 100000

/-- May a value be? (As a proposition, over lists.) -/
def okL (k n : Int) (s : List UInt8) : Prop :=
  (k = 1 ∧ s = [] ∧ -9007199254740991 ≤ n ∧ n ≤ 9007199254740991) ∨ (k = 2 ∧ n = 0 ∧ s.length ≤ 200 ∧ validD s = true) ∨ (k = 3 ∧ s = [] ∧ (n = 0 ∨ n = 1)) ∨ (k = 4 ∧ n = 0 ∧ s.length ≤ 200)
/-- A value's literal. -/
def shwL (k n : Int) (s : List UInt8) : List UInt8 :=
  if k = 1 then itoa n else if k = 3 then (if n = 1 then [116, 114, 117, 101] else [102, 97, 108, 115, 101])
  else if k = 4 then 120 :: 39 :: hexs s ++ [39] else 34 :: (rns s).flatMap shR ++ [34]

theorem scT_once {l : List UInt8} (h : (scT l).e = 0) : okL (scT l).k (scT l).n (scT l).s ∧ shwL (scT l).k (scT l).n (scT l).s ++ (scT l).r = 34 :: l := by
  unfold scT at *
  cases e : txs [] l with
  | none => rw [e] at h; simp at h
  | some p =>
    rw [e] at h
    simp only at h ⊢
    split at h
    · simp at h
    rename_i h200
    rw [if_neg h200]
    simp only
    obtain ⟨cs, a, b, d⟩ := txs_once l.length [] l p (Nat.le_refl _) e
    rw [List.nil_append] at b
    obtain ⟨r1, r2⟩ := rns_enc cs a
    refine ⟨.inr (.inl ⟨rfl, rfl, by omega, by rw [b]; exact r2⟩), ?_⟩
    unfold shwL
    rw [if_neg (by decide), if_neg (by decide), if_neg (by decide), b, r1, d]
    simp
theorem scX_once {l : List UInt8} (h : (scX l).e = 0) : okL (scX l).k (scX l).n (scX l).s ∧ shwL (scX l).k (scX l).n (scX l).s ++ (scX l).r = 120 :: 39 :: l := by
  unfold scX at *
  cases e : hxs l with
  | none => rw [e] at h; simp at h
  | some p =>
    rw [e] at h
    simp only at h ⊢
    split at h
    · simp at h
    rename_i h200
    rw [if_neg h200]
    simp only
    have d := hxs_once l p e
    refine ⟨.inr (.inr (.inr ⟨rfl, rfl, by omega⟩)), ?_⟩
    unfold shwL
    rw [if_neg (by decide), if_neg (by decide), if_pos rfl]
    conv => rhs; rw [d]
    simp
theorem scB_once {n : Int} {l : List UInt8} (hn : n = 0 ∨ n = 1) (h : (scB n l).e = 0) : okL (scB n l).k (scB n l).n (scB n l).s ∧ shwL (scB n l).k (scB n l).n (scB n l).s ++ (scB n l).r = (if n = 1 then [116, 114, 117, 101] else [102, 97, 108, 115, 101]) ++ l := by
  unfold scB at *
  split at h
  · simp at h
  rename_i hg
  rw [if_neg hg]
  exact ⟨.inr (.inr (.inl ⟨rfl, rfl, hn⟩)), rfl⟩
theorem scI_once {neg : Bool} {l : List UInt8} (h : (scI neg l).e = 0) : okL (scI neg l).k (scI neg l).n (scI neg l).s ∧ shwL (scI neg l).k (scI neg l).n (scI neg l).s ++ (scI neg l).r = if neg = true then 45 :: l else l := by
  unfold scI at *
  split at h
  · simp at h
  rename_i h1
  split at h
  · simp at h
  rename_i h2
  rw [if_neg h1, if_neg h2]
  simp only [not_or, not_and] at h1 h2
  have hd := digs_all l
  have hne := h1.1
  obtain ⟨m, hm⟩ : ∃ m, (digs l).length = m + 1 := by
    cases e : digs l with
    | nil => exact absurd e hne
    | cons b t => exact ⟨t.length, rfl⟩
  have happ : digs l ++ l.drop (digs l).length = l := by rw [digs_drop]; exact digs_app l
  cases neg with
  | true =>
    have hh : (digs l).head? ≠ some 48 := fun e => (h1.2 e).1 rfl
    have hp := numOf_pos m (digs l) hm hd hh
    have hdd := decDigits_numOf m (digs l) hm hd (.inl hh)
    refine ⟨.inl ⟨rfl, rfl, by simp only [if_true]; omega, by simp only [if_true]; omega⟩, ?_⟩
    simp only [if_true]
    unfold shwL itoa
    rw [if_pos rfl, if_pos (by omega), show (-(numOf (digs l) : Int)).natAbs = numOf (digs l) by omega, hdd, List.cons_append, happ]
  | false =>
    have hh : (digs l).head? ≠ some 48 ∨ (digs l).length = 1 := by
      by_cases e : (digs l).head? = some 48
      · right
        have := (h1.2 e).2
        omega
      · exact .inl e
    have hdd := decDigits_numOf m (digs l) hm hd hh
    refine ⟨.inl ⟨rfl, rfl, by simp only [Bool.false_eq_true, if_false]; omega, by simp only [Bool.false_eq_true, if_false]; omega⟩, ?_⟩
    simp only [Bool.false_eq_true, if_false]
    unfold shwL itoa
    rw [if_pos rfl, if_neg (by omega), show ((numOf (digs l) : Int)).toNat = numOf (digs l) by omega, hdd, happ]
theorem pre_drop {p l : List UInt8} (h : hasPrefix l p = true) : p ++ l.drop p.length = l := by
  obtain ⟨t, rfl⟩ := List.isPrefixOf_iff_prefix.1 h
  rw [List.drop_left]
/-- What is read was shown so. -/
theorem scn_once {l : List UInt8} (h : (scn l).e = 0) : okL (scn l).k (scn l).n (scn l).s ∧ shwL (scn l).k (scn l).n (scn l).s ++ (scn l).r = l := by
  unfold scn at *
  split at h
  · rename_i hp
    rw [if_pos hp]
    have := pre_drop hp
    obtain ⟨a, b⟩ := scT_once h
    exact ⟨a, by rw [b]; exact this⟩
  rename_i n1
  rw [if_neg n1]
  split at h
  · rename_i hp
    rw [if_pos hp]
    have := pre_drop hp
    obtain ⟨a, b⟩ := scX_once h
    exact ⟨a, by rw [b]; exact this⟩
  rename_i n2
  rw [if_neg n2]
  split at h
  · rename_i hp
    rw [if_pos hp]
    have := pre_drop hp
    obtain ⟨a, b⟩ := scB_once (.inr rfl) h
    exact ⟨a, by rw [b]; exact this⟩
  rename_i n3
  rw [if_neg n3]
  split at h
  · rename_i hp
    rw [if_pos hp]
    have := pre_drop hp
    obtain ⟨a, b⟩ := scB_once (.inl rfl) h
    exact ⟨a, by rw [b]; exact this⟩
  rename_i n4
  rw [if_neg n4]
  split at h
  · rename_i hp
    rw [if_pos hp]
    have := pre_drop hp
    obtain ⟨a, b⟩ := scI_once h
    exact ⟨a, by rw [b]; exact this⟩
  rename_i n5
  rw [if_neg n5]
  exact scI_once h
theorem goes_digs {t : List UInt8} (h : goesL t = false) : digs t = [] := by
  cases t with
  | nil => rfl
  | cons b t =>
    unfold digs
    rw [List.takeWhile_cons_of_neg]
    intro hd
    simp only [isD, decide_eq_true_eq] at hd
    unfold goesL at h
    rw [dec_ascii (by omega)] at h
    simp only [Bool.or_eq_false_iff, decide_eq_false_iff_not] at h
    exact h.2.1 hd
theorem dec_len' : ∀ (k n : Nat), n < 10 ^ k → 0 < k → (decDigits n).length ≤ k
  | 0, _, _, h => absurd h (by decide)
  | k + 1, n, h, _ => by
    rw [decDigits]
    by_cases hn : n < 10
    · rw [dif_pos hn]
      show 1 ≤ k + 1
      omega
    · rw [dif_neg hn, List.length_append]
      have hp : 10 ^ (k + 1) = 10 ^ k * 10 := Nat.pow_succ 10 k
      have h1 : n / 10 < 10 ^ k := by omega
      have hk : 0 < k := by
        cases k with
        | zero => simp at h; omega
        | succ k => omega
      have := dec_len' k (n / 10) h1 hk
      show _ + 1 ≤ _
      omega
theorem scI_back {neg : Bool} {m : Nat} {t : List UInt8} (hm : m ≤ 9007199254740991) (hn : neg = true → m ≠ 0) (ht : goesL t = false) : scI neg (decDigits m ++ t) = ⟨1, if neg = true then -(m : Int) else m, [], t, 0⟩ := by
  obtain ⟨a, b, c, d⟩ := decDigits_ok m
  have e : digs (decDigits m ++ t) = decDigits m := digs_of b (goes_digs ht)
  have hl := dec_len' 16 m (by omega) (by decide)
  unfold scI
  rw [e, if_neg, if_neg, c, List.drop_left]
  · rw [c]; omega
  · simp only [not_or, not_and]
    refine ⟨a, fun h48 => ?_⟩
    have m0 := d h48
    subst m0
    refine ⟨fun hh => hn hh rfl, ?_⟩
    have : (decDigits 0).length = 1 := by rw [decDigits, dif_pos (by decide)]; rfl
    omega
theorem pre_of (p l : List UInt8) : hasPrefix (p ++ l) p = true := List.isPrefixOf_iff_prefix.2 ⟨l, rfl⟩
theorem pre_not {a b : UInt8} (p l : List UInt8) (h : a ≠ b) : hasPrefix (a :: l) (b :: p) = false := by
  simp only [hasPrefix, List.isPrefixOf, Bool.and_eq_false_iff, beq_eq_false_iff_ne]
  exact .inl (Ne.symm h)
theorem scn_num (a : UInt8) (l : List UInt8) (h : a = 45 ∨ isD a = true) : scn (a :: l) = if a = 45 then scI true l else scI false (a :: l) := by
  have hx : ∀ x : UInt8, x.toNat ≠ 45 → (x.toNat < 48 ∨ 57 < x.toNat) → a ≠ x := by
    intro x h1 h2 e
    subst e
    rcases h with h | h
    · subst h; exact h1 rfl
    · simp only [isD, decide_eq_true_eq] at h; omega
  have m1 := hx 34 (by decide) (by decide)
  have m2 := hx 120 (by decide) (by decide)
  have m3 := hx 116 (by decide) (by decide)
  have m4 := hx 102 (by decide) (by decide)
  unfold scn
  rw [pre_not [] l m1, pre_not [39] l m2, pre_not [114, 117, 101] l m3, pre_not [97, 108, 115, 101] l m4]
  simp only [Bool.false_eq_true, if_false]
  by_cases e : a = 45
  · rw [if_pos e, if_pos (by subst e; exact pre_of [45] l)]
    rfl
  · rw [if_neg e, pre_not [] l e]
    rfl
/-- What is shown is read, whatever stands behind it with which no word goes on. -/
theorem scn_back {k n : Int} {s t : List UInt8} (h : okL k n s) (ht : goesL t = false) : scn (shwL k n s ++ t) = ⟨k, n, s, t, 0⟩ := by
  rcases h with ⟨rfl, rfl, h1, h2⟩ | ⟨rfl, rfl, h1, h2⟩ | ⟨rfl, rfl, h1⟩ | ⟨rfl, rfl, h1⟩
  · unfold shwL itoa
    rw [if_pos rfl]
    by_cases hn : n < 0
    · rw [if_pos hn, List.cons_append, scn_num _ _ (.inl rfl), if_pos rfl, scI_back (by omega) (fun _ => by omega) ht, if_pos rfl, show (-(n.natAbs : Int)) = n by omega]
    · rw [if_neg hn]
      obtain ⟨a, b, -, -⟩ := decDigits_ok n.toNat
      have hb := scI_back (neg := false) (m := n.toNat) (t := t) (by omega) (fun e => by cases e) ht
      cases e : decDigits n.toNat with
      | nil => exact absurd e a
      | cons x u =>
        have hx := b x (by rw [e]; simp)
        have h45 : x ≠ 45 := fun e => by subst e; revert hx; decide
        rw [List.cons_append, scn_num _ _ (.inr hx), if_neg h45, ← List.cons_append, ← e, hb, if_neg (by decide), show ((n.toNat : Int)) = n by omega]
  · unfold shwL
    rw [if_neg (by decide), if_neg (by decide), if_neg (by decide)]
    have e : (34 :: (rns s).flatMap shR ++ [34]) ++ t = [34] ++ ((rns s).flatMap shR ++ 34 :: t) := by simp
    rw [e]
    unfold scn
    rw [if_pos (pre_of _ _)]
    show scT ((rns s).flatMap shR ++ 34 :: t) = _
    unfold scT
    rw [txs_back _ [] t (rns_scal s), List.nil_append, enc_rns s.length s (Nat.le_refl _) h2]
    simp only
    rw [if_neg (by omega)]
  · unfold shwL
    rw [if_neg (by decide), if_pos rfl]
    rcases h1 with rfl | rfl
    · rw [if_neg (by decide)]
      unfold scn
      rw [show hasPrefix ([102, 97, 108, 115, 101] ++ t) [34] = false from pre_not _ _ (by decide), show hasPrefix ([102, 97, 108, 115, 101] ++ t) [120, 39] = false from pre_not _ _ (by decide), show hasPrefix ([102, 97, 108, 115, 101] ++ t) [116, 114, 117, 101] = false from pre_not _ _ (by decide), pre_of]
      simp only [Bool.false_eq_true, if_false, if_true]
      show scB 0 t = _
      unfold scB
      rw [ht]
      rfl
    · rw [if_pos rfl]
      unfold scn
      rw [show hasPrefix ([116, 114, 117, 101] ++ t) [34] = false from pre_not _ _ (by decide), show hasPrefix ([116, 114, 117, 101] ++ t) [120, 39] = false from pre_not _ _ (by decide), pre_of]
      simp only [Bool.false_eq_true, if_false, if_true]
      show scB 1 t = _
      unfold scB
      rw [ht]
      rfl
  · unfold shwL
    rw [if_neg (by decide), if_neg (by decide), if_pos rfl]
    have e : (120 :: 39 :: hexs s ++ [39]) ++ t = [120, 39] ++ (hexs s ++ 39 :: t) := by simp
    rw [e]
    unfold scn
    rw [show hasPrefix ([120, 39] ++ (hexs s ++ 39 :: t)) [34] = false from pre_not _ _ (by decide), pre_of]
    simp only [Bool.false_eq_true, if_false, if_true]
    show scX (hexs s ++ 39 :: t) = _
    unfold scX
    rw [hxs_back]
    simp only
    rw [if_neg (by omega)]
end Go.Proofs.YtmfeoiblhjfpjaaGreatDoor
/- Tokens: which stands at the front of a text; all of a text's. Plain, of no program. -/
namespace Go.Proofs.YtmfeoiblhjfpjaaGreatDoor
open Go.Lib
set_option maxRecDepth 100000

/-- Does a word, once begun, go on with a rune? -/
def goC (c : Nat) : Bool := letterN c || (decide (48 ≤ c ∧ c ≤ 57) || (c == 95 || c == 45))
def wgGo : Nat → List UInt8 → Nat
  | 0, _ => 0
  | n + 1, l => if l = [] then 0 else if goC (decodeL l).1 = true then (decodeL l).2 + wgGo n (l.drop (decodeL l).2) else 0
/-- With how many bytes a word, once begun, goes on. -/
def wgo (l : List UInt8) : Nat := wgGo l.length l
theorem wgGo_fuel : ∀ (n m : Nat) (l : List UInt8), l.length ≤ n → l.length ≤ m → wgGo n l = wgGo m l
  | 0, m, l, hn, _ => by
    obtain rfl : l = [] := List.eq_nil_of_length_eq_zero (by omega)
    cases m <;> simp [wgGo]
  | n + 1, 0, l, _, hm => by
    obtain rfl : l = [] := List.eq_nil_of_length_eq_zero (by omega)
    simp [wgGo]
  | n + 1, m + 1, l, hn, hm => by
    unfold wgGo
    by_cases hne : l = []
    · rw [if_pos hne, if_pos hne]
    · have hw := decodeL_width l
      have hl : 0 < l.length := List.length_pos_iff.2 hne
      rw [if_neg hne, if_neg hne, wgGo_fuel n m (l.drop (decodeL l).2) (by rw [List.length_drop]; omega) (by rw [List.length_drop]; omega)]
theorem wgo_nil : wgo [] = 0 := rfl
theorem wgo_step {l : List UInt8} (hne : l ≠ []) : wgo l = if goC (decodeL l).1 = true then (decodeL l).2 + wgo (l.drop (decodeL l).2) else 0 := by
  have hw := decodeL_width l
  have hl : 0 < l.length := List.length_pos_iff.2 hne
  obtain ⟨n, hn⟩ : ∃ n, l.length = n + 1 := ⟨l.length - 1, by omega⟩
  conv => lhs; unfold wgo; rw [hn]; unfold wgGo
  rw [if_neg hne, wgGo_fuel n (l.drop (decodeL l).2).length _ (by rw [List.length_drop]; omega) (Nat.le_refl _)]
  rfl
theorem wgo_le : ∀ (n : Nat) (l : List UInt8), l.length ≤ n → wgo l ≤ l.length
  | 0, l, h => by
    obtain rfl : l = [] := List.eq_nil_of_length_eq_zero (by omega)
    exact Nat.le_refl _
  | n + 1, l, h => by
    by_cases hne : l = []
    · subst hne; exact Nat.le_refl _
    · have hw := decodeL_width l
      have hle := decodeL_le l hne
      rw [wgo_step hne]
      split
      · have := wgo_le n (l.drop (decodeL l).2) (by rw [List.length_drop]; omega)
        rw [List.length_drop] at this
        omega
      · exact Nat.zero_le _
/-- How many bytes the word at the front has. -/
def wsz (l : List UInt8) : Nat := if l ≠ [] ∧ ((decodeL l).1 = 95 ∨ letterN (decodeL l).1 = true) then wgo l else 0
def marks1 : List UInt8 := [61, 60, 62, 123, 125, 40, 41, 44]
/-- How many bytes the mark at the front has. -/
def msz (l : List UInt8) : Nat :=
  if hasPrefix l [33, 61] = true ∨ hasPrefix l [60, 61] = true ∨ hasPrefix l [62, 61] = true then 2
  else if 0 ≤ indexByte marks1 (l.getD 0 0) then 1 else 0
/-- A token. -/
structure Tk where
  k : Int
  p : Int
  s : List UInt8
  vk : Int
  vn : Int
  vs : List UInt8
/-- A token at the front, its size, and the error. -/
structure Ct where
  t : Tk
  z : Nat
  e : Int
def Ct.bad (e : Int) : Ct := ⟨⟨0, 0, [], 0, 0, []⟩, 0, e⟩
def cutL (l : List UInt8) : Ct :=
  if (scn l).e = 2 then .bad 2
  else if (scn l).e = 0 ∧ wgo (scn l).r = 0 then ⟨⟨2, 0, [], (scn l).k, (scn l).n, (scn l).s⟩, l.length - (scn l).r.length, 0⟩
  else if 0 < wsz l then ⟨⟨1, 0, l.take (wsz l), 0, 0, []⟩, wsz l, 0⟩
  else if 0 < msz l then ⟨⟨3, 0, l.take (msz l), 0, 0, []⟩, msz l, 0⟩
  else .bad 3
def blankN (c : Nat) : Bool := c == 32 || (c == 9 || (c == 10 || c == 13))
/-- What cutting answers: the tokens, a place, the error. -/
structure Lx where
  l : List Tk
  a : Int
  e : Int
def lxEnd (at' : Nat) (long : Int) (acc : List Tk) : Lx := if 0 ≤ long then ⟨[], long, 2⟩ else ⟨acc, at', 0⟩
def lxGo : Nat → List UInt8 → Nat → Nat → Nat → Int → List Tk → Lx
  | 0, _, _, at', _, long, acc => lxEnd at' long acc
  | n + 1, l, pos, at', en, long, acc =>
    if l = [] then lxEnd at' long acc
    else if en ≤ pos ∧ blankN (decodeL l).1 = false then
      if (cutL l).e = 3 then ⟨[], at', 3⟩
      else if (cutL l).e = 2 then ⟨[], if long < 0 then at' else long, 2⟩
      else if long < 0 ∧ acc.length ≠ 300 then lxGo n (l.drop (decodeL l).2) (pos + (decodeL l).2) (at' + 1) (pos + (cutL l).z) long (acc ++ [{ (cutL l).t with p := at' }])
      else lxGo n (l.drop (decodeL l).2) (pos + (decodeL l).2) (at' + 1) (pos + (cutL l).z) (if long < 0 then at' else long) acc
    else lxGo n (l.drop (decodeL l).2) (pos + (decodeL l).2) (at' + 1) en long acc
/-- All tokens of a text. -/
def lexL (l : List UInt8) : Lx := if validD l = true then lxGo l.length l 0 0 0 (-1) [] else ⟨[], 0, 3⟩
theorem lxGo_fuel : ∀ (n m : Nat) (l : List UInt8) (pos at' en : Nat) (long : Int) (acc : List Tk), l.length ≤ n → l.length ≤ m → lxGo n l pos at' en long acc = lxGo m l pos at' en long acc
  | 0, m, l, _, _, _, _, _, hn, _ => by
    obtain rfl : l = [] := List.eq_nil_of_length_eq_zero (by omega)
    cases m <;> simp [lxGo]
  | n + 1, 0, l, _, _, _, _, _, _, hm => by
    obtain rfl : l = [] := List.eq_nil_of_length_eq_zero (by omega)
    simp [lxGo]
  | n + 1, m + 1, l, pos, at', en, long, acc, hn, hm => by
    unfold lxGo
    by_cases hne : l = []
    · rw [if_pos hne, if_pos hne]
    · have hw := decodeL_width l
      have hl : 0 < l.length := List.length_pos_iff.2 hne
      have f := fun p a e lo ac => lxGo_fuel n m (l.drop (decodeL l).2) p a e lo ac (by rw [List.length_drop]; omega) (by rw [List.length_drop]; omega)
      rw [if_neg hne, if_neg hne]
      simp only [f]
/-- From a state on. -/
def lxs (l : List UInt8) (pos at' en : Nat) (long : Int) (acc : List Tk) : Lx := lxGo l.length l pos at' en long acc
theorem lxs_nil (pos at' en : Nat) (long : Int) (acc : List Tk) : lxs [] pos at' en long acc = lxEnd at' long acc := rfl
theorem lxs_step {l : List UInt8} (hne : l ≠ []) (pos at' en : Nat) (long : Int) (acc : List Tk) : lxs l pos at' en long acc =
    if en ≤ pos ∧ blankN (decodeL l).1 = false then
      if (cutL l).e = 3 then ⟨[], at', 3⟩
      else if (cutL l).e = 2 then ⟨[], if long < 0 then at' else long, 2⟩
      else if long < 0 ∧ acc.length ≠ 300 then lxs (l.drop (decodeL l).2) (pos + (decodeL l).2) (at' + 1) (pos + (cutL l).z) long (acc ++ [{ (cutL l).t with p := at' }])
      else lxs (l.drop (decodeL l).2) (pos + (decodeL l).2) (at' + 1) (pos + (cutL l).z) (if long < 0 then at' else long) acc
    else lxs (l.drop (decodeL l).2) (pos + (decodeL l).2) (at' + 1) en long acc := by
  have hw := decodeL_width l
  have hl : 0 < l.length := List.length_pos_iff.2 hne
  obtain ⟨n, hn⟩ : ∃ n, l.length = n + 1 := ⟨l.length - 1, by omega⟩
  conv => lhs; unfold lxs; rw [hn]; unfold lxGo
  have f := fun p a e lo ac => lxGo_fuel n (l.drop (decodeL l).2).length (l.drop (decodeL l).2) p a e lo ac (by rw [List.length_drop]; omega) (Nat.le_refl _)
  rw [if_neg hne]
  simp only [f]
  rfl
def Tk.cells (x : Tk) : List Go.Value := [.int .i64 x.k, .int .i64 x.p, .string (str x.s), .int .i64 x.vk, .int .i64 x.vn, .string (str x.vs)]
def tkCells (l : List Tk) : List Go.Value := l.flatMap Tk.cells
theorem tkCells_len (l : List Tk) : (tkCells l).length = l.length * 6 := by
  induction l with
  | nil => rfl
  | cons x l ih => simp only [tkCells, List.flatMap_cons, List.length_append, List.length_cons] at ih ⊢; rw [ih]; simp [Tk.cells]; omega
theorem tkCells_snoc (l : List Tk) (x : Tk) : tkCells (l ++ [x]) = tkCells l ++ Tk.cells x := by simp [tkCells]
end Go.Proofs.YtmfeoiblhjfpjaaGreatDoor
/- Tokens with a blank behind: what stands in front of a blank is cut as if nothing stood behind. Plain, of no program. -/
namespace Go.Proofs.YtmfeoiblhjfpjaaGreatDoor
open Go.Lib
set_option maxRecDepth 100000

theorem decN_big {n m b0 b1 b2 b3 : Nat} (hn : 3 < n) (hm : 3 < m) : decodeN n b0 b1 b2 b3 = decodeN m b0 b1 b2 b3 := by
  unfold decodeN
  simp only [show (1 < n) = True from eq_true (by omega), show (2 < n) = True from eq_true (by omega), show (3 < n) = True from eq_true (by omega), show (1 < m) = True from eq_true (by omega), show (2 < m) = True from eq_true (by omega), show (3 < m) = True from eq_true (by omega)]
theorem dec_sp : ∀ (r x : List UInt8), r ≠ [] → decodeL (r ++ 32 :: x) = decodeL r
  | [], _, h => absurd rfl h
  | [a], x, _ => by
    rw [decodeL_N, decodeL_N]
    simp [decodeN]
  | [a, b], x, _ => by
    rw [decodeL_N, decodeL_N]
    simp [decodeN]
  | [a, b, c], x, _ => by
    rw [decodeL_N, decodeL_N]
    simp [decodeN]
  | a :: b :: c :: d :: t, x, _ => by
    rw [decodeL_N, decodeL_N]
    exact decN_big (by simp) (by simp)
theorem drop_sp {l x : List UInt8} {d : Nat} (h : d ≤ l.length) : (l ++ 32 :: x).drop d = l.drop d ++ 32 :: x := List.drop_append_of_le_length h
theorem valid_sp : ∀ (n : Nat) (l x : List UInt8), l.length ≤ n → validD (l ++ 32 :: x) = (validD l && validD x)
  | 0, l, x, h => by
    obtain rfl : l = [] := List.eq_nil_of_length_eq_zero (by omega)
    rw [List.nil_append, validD_cons _ _ (by decide)]
    rfl
  | n + 1, l, x, h => by
    by_cases hne : l = []
    · subst hne
      rw [List.nil_append, validD_cons _ _ (by decide)]
      rfl
    · have hw := decodeL_width l
      have hle := decodeL_le l hne
      rw [validD_step _ (by simp [hne]), dec_sp l x hne, validD_step l hne]
      split
      · rfl
      · rw [drop_sp hle]
        exact valid_sp n _ x (by rw [List.length_drop]; omega)
theorem wgo32 (x : List UInt8) : wgo (32 :: x) = 0 := by
  rw [wgo_step (by simp), dec_ascii (b := 32) (by decide), if_neg (by decide)]
theorem wgo_sp : ∀ (n : Nat) (l x : List UInt8), l.length ≤ n → wgo (l ++ 32 :: x) = wgo l
  | 0, l, x, h => by
    obtain rfl : l = [] := List.eq_nil_of_length_eq_zero (by omega)
    exact wgo32 x
  | n + 1, l, x, h => by
    by_cases hne : l = []
    · subst hne
      exact wgo32 x
    · have hw := decodeL_width l
      have hle := decodeL_le l hne
      rw [wgo_step (by simp [hne]), dec_sp l x hne, wgo_step hne, drop_sp hle, wgo_sp n _ x (by rw [List.length_drop]; omega)]
theorem goes_sp (l x : List UInt8) : goesL (l ++ 32 :: x) = goesL l := by
  by_cases hne : l = []
  · subst hne
    have e1 : goesL (32 :: x) = false := by unfold goesL; rw [dec_ascii (b := 32) (by decide)]; decide
    have e2 : goesL [] = false := by decide +kernel
    rw [List.nil_append, e1, e2]
  · unfold goesL
    rw [dec_sp l x hne]
theorem wsz_sp (l x : List UInt8) (hne : l ≠ []) : wsz (l ++ 32 :: x) = wsz l := by
  unfold wsz
  rw [dec_sp l x hne, wgo_sp l.length l x (Nat.le_refl _)]
  simp [hne]
/-- A beginning without a blank. -/
theorem pre_sp : ∀ (p l x : List UInt8), 32 ∉ p → hasPrefix (l ++ 32 :: x) p = hasPrefix l p
  | [], l, x, _ => by simp [hasPrefix]
  | a :: p, [], x, h => by
    have : (a == 32) = false := by rw [beq_eq_false_iff_ne]; exact fun e => h (by simp [e])
    simp only [hasPrefix, List.nil_append]
    rw [List.isPrefixOf_cons_cons, this]
    rfl
  | a :: p, b :: l, x, h => by
    have := pre_sp p l x (fun e => h (List.mem_cons_of_mem _ e))
    simp only [hasPrefix] at this ⊢
    rw [List.cons_append, List.isPrefixOf_cons_cons, List.isPrefixOf_cons_cons, this]
theorem msz_sp (l x : List UInt8) (hne : l ≠ []) : msz (l ++ 32 :: x) = msz l := by
  unfold msz
  rw [pre_sp _ _ _ (by decide), pre_sp _ _ _ (by decide), pre_sp _ _ _ (by decide)]
  cases l with
  | nil => exact absurd rfl hne
  | cons b t => rfl
theorem goes_wgo {r : List UInt8} (h : goesL r = false) : wgo r = 0 := by
  by_cases hne : r = []
  · subst hne; rfl
  · rw [wgo_step hne, if_neg (by rw [show goC (decodeL r).1 = goesL r from rfl, h]; decide)]
theorem wgo_goes {r : List UInt8} (h : wgo r = 0) : goesL r = false := by
  by_cases hne : r = []
  · subst hne; decide +kernel
  · have hw := decodeL_width r
    rw [wgo_step hne] at h
    cases e : goesL r
    · rfl
    · rw [if_pos (show goC (decodeL r).1 = true from e)] at h
      omega
theorem hxs_sp : ∀ (m x : List UInt8), hxs m = none → hxs (m ++ 32 :: x) = none
  | [], [], _ => by decide +kernel
  | [], c :: t, _ => by simp [hxs, hxd]
  | [a], x, h => by
    have ha : a ≠ 39 := fun e => by subst e; simp [hxs] at h
    simp only [List.cons_append, List.nil_append, hxs, if_neg ha, show hxd 32 = none from by decide +kernel]
    cases hxd a <;> rfl
  | a :: b :: t, x, h => by
    have ha : a ≠ 39 := fun e => by subst e; simp [hxs] at h
    simp only [List.cons_append, hxs, if_neg ha] at h ⊢
    cases ea : hxd a with
    | none => rfl
    | some p =>
      cases eb : hxd b with
      | none => rfl
      | some q =>
        rw [ea, eb] at h
        simp only [Option.map_eq_none_iff] at h ⊢
        exact hxs_sp t x h
/-- What begins a literal alone begins no word and no mark. -/
theorem first_no {b : UInt8} {t : List UInt8} (hf : 0 < wsz (b :: t) ∨ 0 < msz (b :: t)) : b ≠ 34 ∧ b ≠ 45 ∧ isD b = false := by
  have key : ∀ n : Fin 256, (UInt8.ofNat n.val = 34 ∨ UInt8.ofNat n.val = 45 ∨ isD (UInt8.ofNat n.val) = true) → n.val < 128 ∧ n.val ≠ 95 ∧ letterN n.val = false ∧ UInt8.ofNat n.val ≠ 33 ∧ UInt8.ofNat n.val ≠ 60 ∧ UInt8.ofNat n.val ≠ 62 ∧ ¬ 0 ≤ indexByte marks1 (UInt8.ofNat n.val) := by decide +kernel
  have kb := key ⟨b.toNat, UInt8.toNat_lt b⟩
  simp only [UInt8.ofNat_toNat] at kb
  apply Classical.byContradiction
  intro hno
  have hb : b = 34 ∨ b = 45 ∨ isD b = true := by
    rcases Classical.em (b = 34) with h | h
    · exact .inl h
    rcases Classical.em (b = 45) with h' | h'
    · exact .inr (.inl h')
    refine .inr (.inr ?_)
    cases e : isD b
    · exact absurd ⟨h, h', e⟩ hno
    · rfl
  obtain ⟨k1, k2, k3, k4, k5, k6, k7⟩ := kb hb
  have w0 : wsz (b :: t) = 0 := by
    unfold wsz
    rw [dec_ascii k1, if_neg (by rintro ⟨-, h | h⟩; exact k2 h; rw [k3] at h; cases h)]
  have m0 : msz (b :: t) = 0 := by
    unfold msz
    rw [if_neg ?_, if_neg (show ¬ 0 ≤ indexByte marks1 ((b :: t).getD 0 0) from k7)]
    have pn := fun (c : UInt8) (h : b ≠ c) => pre_not [61] t h
    rw [pn 33 k4, pn 60 k5, pn 62 k6]
    simp
  omega
theorem scX_sp {m x : List UInt8} (h2 : (scX m).e ≠ 2) (h : ¬ ((scX m).e = 0 ∧ wgo (scX m).r = 0)) : (scX (m ++ 32 :: x)).e ≠ 2 ∧ ¬ ((scX (m ++ 32 :: x)).e = 0 ∧ wgo (scX (m ++ 32 :: x)).r = 0) := by
  cases e : hxs m with
  | none =>
    have e1 : scX (m ++ 32 :: x) = .bad 3 := by unfold scX; rw [hxs_sp m x e]
    rw [e1]
    exact ⟨by decide, fun h => absurd h.1 (by decide)⟩
  | some p =>
    have em := hxs_once m p e
    have e1 : hxs (m ++ 32 :: x) = some (p.1, p.2 ++ 32 :: x) := by
      have := hxs_back p.1 (p.2 ++ 32 :: x)
      conv => lhs; rw [em]
      rw [List.append_assoc]
      exact this
    unfold scX at h2 h ⊢
    rw [e] at h2 h
    rw [e1]
    simp only at h2 h ⊢
    split at h2
    · exact absurd rfl h2
    · rename_i hl
      rw [if_neg hl] at h ⊢
      simp only at h ⊢
      rw [wgo_sp p.2.length p.2 x (Nat.le_refl _)]
      exact ⟨by decide, h⟩
theorem scB_sp {n : Int} {m x : List UInt8} (h : ¬ ((scB n m).e = 0 ∧ wgo (scB n m).r = 0)) : (scB n (m ++ 32 :: x)).e ≠ 2 ∧ ¬ ((scB n (m ++ 32 :: x)).e = 0 ∧ wgo (scB n (m ++ 32 :: x)).r = 0) := by
  unfold scB at h ⊢
  rw [goes_sp]
  cases e : goesL m
  · rw [e, if_neg (by decide)] at h
    exact absurd ⟨rfl, goes_wgo e⟩ h
  · rw [if_pos rfl]
    exact ⟨by decide, fun h => absurd h.1 (by decide)⟩
theorem scn_no_sp {l x : List UInt8} (hne : l ≠ []) (hf : 0 < wsz l ∨ 0 < msz l) (h2 : (scn l).e ≠ 2) (h : ¬ ((scn l).e = 0 ∧ wgo (scn l).r = 0)) :
    (scn (l ++ 32 :: x)).e ≠ 2 ∧ ¬ ((scn (l ++ 32 :: x)).e = 0 ∧ wgo (scn (l ++ 32 :: x)).r = 0) := by
  obtain ⟨b, t, rfl⟩ := List.exists_cons_of_ne_nil hne
  obtain ⟨f1, f2, f3⟩ := first_no hf
  have q1 : hasPrefix (b :: t) [34] = false := pre_not [] t f1
  have q5 : hasPrefix (b :: t) [45] = false := pre_not [] t f2
  unfold scn at h2 h ⊢
  rw [pre_sp _ _ _ (by decide), pre_sp _ _ _ (by decide), pre_sp _ _ _ (by decide), pre_sp _ _ _ (by decide), pre_sp _ _ _ (by decide), q1, if_neg (by decide)]
  rw [q1, if_neg (by decide)] at h2 h
  cases p2 : hasPrefix (b :: t) [120, 39]
  · rw [p2, if_neg (by decide)] at h2 h
    rw [if_neg (by decide)]
    cases p3 : hasPrefix (b :: t) [116, 114, 117, 101]
    · rw [p3, if_neg (by decide)] at h2 h
      rw [if_neg (by decide)]
      cases p4 : hasPrefix (b :: t) [102, 97, 108, 115, 101]
      · rw [if_neg (by decide), q5, if_neg (by decide)]
        have e : scI false (b :: t ++ 32 :: x) = .bad 3 := by
          unfold scI
          rw [if_pos (.inl (by simp [digs, f3]))]
        rw [e]
        exact ⟨by decide, fun h => absurd h.1 (by decide)⟩
      · rw [p4, if_pos rfl] at h2 h
        rw [if_pos rfl, drop_sp (by have := congrArg List.length (pre_drop p4); simp only [List.length_append, List.length_cons, List.length_nil] at this ⊢; omega)]
        exact scB_sp h
    · rw [p3, if_pos rfl] at h2 h
      rw [if_pos rfl, drop_sp (by have := congrArg List.length (pre_drop p3); simp only [List.length_append, List.length_cons, List.length_nil] at this ⊢; omega)]
      exact scB_sp h
  · rw [p2, if_pos rfl] at h2 h
    rw [if_pos rfl, drop_sp (by have := congrArg List.length (pre_drop p2); simp only [List.length_append, List.length_cons, List.length_nil] at this ⊢; omega)]
    exact scX_sp h2 h
theorem scn_ok_sp {l x : List UInt8} (h : (scn l).e = 0) (hg : wgo (scn l).r = 0) : scn (l ++ 32 :: x) = ⟨(scn l).k, (scn l).n, (scn l).s, (scn l).r ++ 32 :: x, 0⟩ := by
  obtain ⟨a, b⟩ := scn_once h
  have := scn_back a (t := (scn l).r ++ 32 :: x) (by rw [goes_sp]; exact wgo_goes hg)
  rw [← this, ← List.append_assoc, b]
/-- WHAT STANDS IN FRONT OF A BLANK is cut as if nothing stood behind. -/
theorem cut_sp {l x : List UInt8} (hne : l ≠ []) (h : (cutL l).e = 0) : cutL (l ++ 32 :: x) = cutL l := by
  have hC : ∀ l, cutL l = if (scn l).e = 2 then .bad 2 else if (scn l).e = 0 ∧ wgo (scn l).r = 0 then ⟨⟨2, 0, [], (scn l).k, (scn l).n, (scn l).s⟩, l.length - (scn l).r.length, 0⟩ else if 0 < wsz l then ⟨⟨1, 0, l.take (wsz l), 0, 0, []⟩, wsz l, 0⟩ else if 0 < msz l then ⟨⟨3, 0, l.take (msz l), 0, 0, []⟩, msz l, 0⟩ else .bad 3 := fun _ => rfl
  rw [hC] at h
  rw [hC, hC l]
  by_cases h2 : (scn l).e = 2
  · rw [if_pos h2] at h; cases h
  rw [if_neg h2] at h ⊢
  by_cases hv : (scn l).e = 0 ∧ wgo (scn l).r = 0
  · have e := scn_ok_sp (x := x) hv.1 hv.2
    rw [e, if_neg (show ¬ (0 : Int) = 2 by decide), if_pos ⟨rfl, by rw [wgo_sp _ _ x (Nat.le_refl _)]; exact hv.2⟩, if_pos hv]
    simp only [List.length_append, List.length_cons, Ct.mk.injEq, true_and, and_true]
    omega
  rw [if_neg hv] at h ⊢
  by_cases hw : 0 < wsz l
  · obtain ⟨g2, g3⟩ := scn_no_sp (x := x) hne (.inl hw) h2 hv
    have hle : wsz l ≤ l.length := by
      unfold wsz; split
      · exact wgo_le _ _ (Nat.le_refl _)
      · exact Nat.zero_le _
    rw [if_neg g2, if_neg g3, wsz_sp l x hne, if_pos hw, if_pos hw, List.take_append_of_le_length hle]
  rw [if_neg hw] at h ⊢
  by_cases hm : 0 < msz l
  · obtain ⟨g2, g3⟩ := scn_no_sp (x := x) hne (.inr hm) h2 hv
    have hle : msz l ≤ l.length := by
      have h1 : 1 ≤ l.length := List.length_pos_iff.2 hne
      unfold msz
      split
      · rename_i hp
        have pl : ∀ {p : List UInt8}, hasPrefix l p = true → p.length ≤ l.length := fun hp => by have := congrArg List.length (pre_drop hp); rw [List.length_append] at this; omega
        rcases hp with hp | hp | hp <;> exact pl hp
      · split <;> omega
    rw [if_neg g2, if_neg g3, wsz_sp l x hne, if_neg hw, msz_sp l x hne, if_pos hm, if_pos hm, List.take_append_of_le_length hle]
  · rw [if_neg hm] at h; cases h
end Go.Proofs.YtmfeoiblhjfpjaaGreatDoor
/- Tokens of two texts with a blank between; the same tokens elsewhere. Plain, of no program. -/
namespace Go.Proofs.YtmfeoiblhjfpjaaGreatDoor
open Go.Lib
set_option maxRecDepth 100000

theorem lxs_blank' (r : List UInt8) (pos at' en : Nat) (long : Int) (acc : List Tk) : lxs (32 :: r) pos at' en long acc = lxs r (pos + 1) (at' + 1) en long acc := by
  rw [lxs_step (by simp), dec_ascii (b := 32) (by decide)]
  rw [if_neg (by simp [blankN])]
  rfl
theorem cut_sizeP (l : List UInt8) : (cutL l).z ≤ l.length ∧ ((cutL l).e = 0 ∨ (cutL l).e = 2 ∨ (cutL l).e = 3) := by
  unfold cutL
  split
  · exact ⟨Nat.zero_le _, .inr (.inl rfl)⟩
  split
  · exact ⟨Nat.sub_le _ _, .inl rfl⟩
  split
  · refine ⟨?_, .inl rfl⟩
    show wsz l ≤ _
    unfold wsz
    split
    · exact wgo_le _ _ (Nat.le_refl _)
    · exact Nat.zero_le _
  split
  · refine ⟨?_, .inl rfl⟩
    show msz l ≤ _
    rename_i hm
    unfold msz at hm ⊢
    have pl : ∀ {p : List UInt8}, hasPrefix l p = true → p.length ≤ l.length := fun hp => by have := congrArg List.length (pre_drop hp); rw [List.length_append] at this; omega
    split
    · rename_i hp
      rcases hp with hp | hp | hp <;> exact pl hp
    · rename_i hp
      rw [if_neg hp] at hm
      split at hm
      · rename_i hi
        rw [if_pos hi]
        cases l with
        | nil => exfalso; revert hi; decide
        | cons b t => simp
      · simp at hm
  · exact ⟨Nat.zero_le _, .inr (.inr rfl)⟩
theorem lxs_bad : ∀ (n : Nat) (l : List UInt8) (pos at' en : Nat) (long : Int) (acc : List Tk), l.length ≤ n → 0 ≤ long → (lxs l pos at' en long acc).e ≠ 0
  | 0, l, pos, at', en, long, acc, h, hl => by
    obtain rfl : l = [] := List.eq_nil_of_length_eq_zero (by omega)
    rw [lxs_nil, lxEnd, if_pos hl]
    exact show (2 : Int) ≠ 0 by decide
  | n + 1, l, pos, at', en, long, acc, h, hl => by
    by_cases hne : l = []
    · subst hne
      rw [lxs_nil, lxEnd, if_pos hl]
      exact show (2 : Int) ≠ 0 by decide
    · have hw := decodeL_width l
      have hr : ∀ p a e ac, (lxs (l.drop (decodeL l).2) p a e long ac).e ≠ 0 := fun p a e ac => lxs_bad n _ p a e long ac (by rw [List.length_drop]; omega) hl
      rw [lxs_step hne]
      split
      · split
        · simp
        split
        · simp
        split
        · exact hr _ _ _ _
        · rw [if_neg (by omega)]
          exact hr _ _ _ _
      · exact hr _ _ _ _
theorem lxs_sp (x : List UInt8) : ∀ (n : Nat) (l : List UInt8) (pos at' en : Nat) (acc L : List Tk) (N : Int), l.length ≤ n → lxs l pos at' en (-1) acc = ⟨L, N, 0⟩ → en ≤ pos + l.length →
    ∃ (en' a2 : Nat), en' ≤ pos + l.length ∧ N = (a2 : Int) ∧ lxs (l ++ 32 :: x) pos at' en (-1) acc = lxs x (pos + l.length + 1) (a2 + 1) en' (-1) L
  | 0, l, pos, at', en, acc, L, N, h, hx, he => by
    obtain rfl : l = [] := List.eq_nil_of_length_eq_zero (by omega)
    rw [lxs_nil, lxEnd, if_neg (by decide)] at hx
    cases hx
    exact ⟨en, at', he, rfl, lxs_blank' x pos at' en (-1) acc⟩
  | n + 1, l, pos, at', en, acc, L, N, h, hx, he => by
    by_cases hne : l = []
    · subst hne
      rw [lxs_nil, lxEnd, if_neg (by decide)] at hx
      cases hx
      exact ⟨en, at', he, rfl, lxs_blank' x pos at' en (-1) acc⟩
    · have hw := decodeL_width l
      have hle := decodeL_le l hne
      have hld : (l.drop (decodeL l).2).length = l.length - (decodeL l).2 := List.length_drop
      have ih := fun a e ac hx he => lxs_sp x n (l.drop (decodeL l).2) (pos + (decodeL l).2) a e ac L N (by omega) hx he
      rw [show pos + (decodeL l).2 + (l.drop (decodeL l).2).length = pos + l.length by omega] at ih
      rw [lxs_step hne] at hx
      rw [lxs_step (by simp [hne]), dec_sp l x hne, drop_sp hle]
      by_cases hg : en ≤ pos ∧ blankN (decodeL l).1 = false
      · rw [if_pos hg] at hx ⊢
        by_cases h3 : (cutL l).e = 3
        · rw [if_pos h3] at hx; cases hx
        by_cases h2 : (cutL l).e = 2
        · rw [if_neg h3, if_pos h2] at hx; cases hx
        have h0 : (cutL l).e = 0 := (cut_sizeP l).2.elim id fun h => h.elim (fun h => absurd h h2) fun h => absurd h h3
        rw [if_neg h3, if_neg h2] at hx
        rw [cut_sp hne h0, if_neg h3, if_neg h2]
        by_cases hc : (-1 : Int) < 0 ∧ acc.length ≠ 300
        · rw [if_pos hc] at hx ⊢
          exact ih _ _ _ hx (by have := (cut_sizeP l).1; omega)
        · rw [if_neg hc, if_pos (by decide)] at hx
          exact absurd (congrArg Lx.e hx) (lxs_bad _ _ _ _ _ _ _ (Nat.le_refl _) (by omega))
      · rw [if_neg hg] at hx ⊢
        exact ih _ _ _ hx he
def bare (l : List Tk) : List Tk := l.map fun t => { t with p := 0 }
theorem lxs_shift : ∀ (n : Nat) (x : List UInt8) (pos at' en : Nat) (acc L : List Tk) (N : Int) (pos2 at2 en2 : Nat) (acc2 : List Tk), x.length ≤ n → en - pos = en2 - pos2 → lxs x pos at' en (-1) acc = ⟨L, N, 0⟩ →
    ∃ T, L = acc ++ T ∧ (acc2.length + T.length ≤ 300 → ∃ (T2 : List Tk) (N2 : Int), lxs x pos2 at2 en2 (-1) acc2 = ⟨acc2 ++ T2, N2, 0⟩ ∧ bare T2 = bare T)
  | 0, x, pos, at', en, acc, L, N, pos2, at2, en2, acc2, h, he, hx => by
    obtain rfl : x = [] := List.eq_nil_of_length_eq_zero (by omega)
    rw [lxs_nil, lxEnd, if_neg (by decide)] at hx
    cases hx
    exact ⟨[], by simp, fun _ => ⟨[], at2, by rw [lxs_nil, lxEnd, if_neg (by decide), List.append_nil], rfl⟩⟩
  | n + 1, x, pos, at', en, acc, L, N, pos2, at2, en2, acc2, h, he, hx => by
    by_cases hne : x = []
    · subst hne
      rw [lxs_nil, lxEnd, if_neg (by decide)] at hx
      cases hx
      exact ⟨[], by simp, fun _ => ⟨[], at2, by rw [lxs_nil, lxEnd, if_neg (by decide), List.append_nil], rfl⟩⟩
    · have hw := decodeL_width x
      have hld : (x.drop (decodeL x).2).length = x.length - (decodeL x).2 := List.length_drop
      have ih := fun p a e ac p2 a2 e2 ac2 he hx => lxs_shift n (x.drop (decodeL x).2) p a e ac L N p2 a2 e2 ac2 (by omega) he hx
      rw [lxs_step hne] at hx
      rw [lxs_step hne]
      by_cases hg : en ≤ pos ∧ blankN (decodeL x).1 = false
      · have hg2 : en2 ≤ pos2 ∧ blankN (decodeL x).1 = false := ⟨by omega, hg.2⟩
        rw [if_pos hg] at hx
        rw [if_pos hg2]
        by_cases h3 : (cutL x).e = 3
        · rw [if_pos h3] at hx; cases hx
        by_cases h2 : (cutL x).e = 2
        · rw [if_neg h3, if_pos h2] at hx; cases hx
        rw [if_neg h3, if_neg h2] at hx
        rw [if_neg h3, if_neg h2]
        by_cases hc : (-1 : Int) < 0 ∧ acc.length ≠ 300
        · rw [if_pos hc] at hx
          obtain ⟨T, hL, hT⟩ := ih _ _ _ _ (pos2 + (decodeL x).2) (at2 + 1) (pos2 + (cutL x).z) (acc2 ++ [{ (cutL x).t with p := at2 }]) (by omega) hx
          refine ⟨{ (cutL x).t with p := at' } :: T, by rw [hL, List.append_assoc]; rfl, fun hl => ?_⟩
          rw [List.length_cons] at hl
          rw [if_pos ⟨by decide, by omega⟩]
          obtain ⟨T2, N2, e1, e2⟩ := hT (by rw [List.length_append, List.length_singleton]; omega)
          refine ⟨{ (cutL x).t with p := at2 } :: T2, N2, by rw [e1, List.append_assoc]; rfl, ?_⟩
          unfold bare at e2 ⊢
          rw [List.map_cons, List.map_cons, e2]
        · rw [if_neg hc, if_pos (by decide)] at hx
          exact absurd (congrArg Lx.e hx) (lxs_bad _ _ _ _ _ _ _ (Nat.le_refl _) (by omega))
      · have hg2 : ¬ (en2 ≤ pos2 ∧ blankN (decodeL x).1 = false) := fun g => hg ⟨by omega, g.2⟩
        rw [if_neg hg] at hx
        rw [if_neg hg2]
        exact ih _ _ _ _ _ _ _ _ (by omega) hx
/-- TWO TEXTS WITH A BLANK BETWEEN: the tokens of both, but for their places. -/
theorem lex_two {a b bl : List UInt8} {L M : List Tk} {n m : Int} (ha : lexL a = ⟨L, n, 0⟩) (hb : lexL b = ⟨M, m, 0⟩) (hl : L.length + M.length ≤ 300) (hbl : ∀ c ∈ bl, c = 32 ∨ c = 9 ∨ c = 10 ∨ c = 13) :
    ∃ (M2 : List Tk) (k : Int), lexL (a ++ 32 :: (bl ++ b)) = ⟨L ++ M2, k, 0⟩ ∧ bare M2 = bare M := by
  unfold lexL at ha hb
  by_cases va : validD a = true
  rotate_left
  · rw [if_neg va] at ha; cases ha
  by_cases vb : validD b = true
  rotate_left
  · rw [if_neg vb] at hb; cases hb
  rw [if_pos va] at ha
  rw [if_pos vb] at hb
  have vbl : ∀ (bl : List UInt8), (∀ c ∈ bl, c = 32 ∨ c = 9 ∨ c = 10 ∨ c = 13) → validD (bl ++ b) = true := by
    intro bl
    induction bl with
    | nil => exact fun _ => vb
    | cons c t ih =>
      intro h
      rw [List.cons_append, validD_cons _ _ (by rcases h c (by simp) with rfl | rfl | rfl | rfl <;> decide)]
      exact ih fun d hd => h d (List.mem_cons_of_mem _ hd)
  have skip : ∀ (bl : List UInt8), (∀ c ∈ bl, c = 32 ∨ c = 9 ∨ c = 10 ∨ c = 13) → ∀ pos at' en acc, lxs (bl ++ b) pos at' en (-1) acc = lxs b (pos + bl.length) (at' + bl.length) en (-1) acc := by
    intro bl
    induction bl with
    | nil => intros; rfl
    | cons c t ih =>
      intro h pos at' en acc
      have hc : c.toNat < 128 ∧ blankN c.toNat = true := by rcases h c (by simp) with rfl | rfl | rfl | rfl <;> decide
      rw [List.cons_append, lxs_step (by simp), dec_ascii hc.1, if_neg (by rw [hc.2]; simp)]
      show lxs (t ++ b) (pos + 1) (at' + 1) en (-1) acc = _
      rw [ih (fun d hd => h d (List.mem_cons_of_mem _ hd)), List.length_cons, show pos + 1 + t.length = pos + (t.length + 1) by omega, show at' + 1 + t.length = at' + (t.length + 1) by omega]
  obtain ⟨en', a2, h1, -, h3⟩ := lxs_sp (bl ++ b) a.length a 0 0 0 [] L n (Nat.le_refl _) ha (Nat.zero_le _)
  rw [skip bl hbl] at h3
  obtain ⟨T, hT, hT2⟩ := lxs_shift b.length b 0 0 0 [] M m (0 + a.length + 1 + bl.length) (a2 + 1 + bl.length) en' L (Nat.le_refl _) (by omega) hb
  rw [List.nil_append] at hT
  subst hT
  obtain ⟨M2, k, e1, e2⟩ := hT2 hl
  refine ⟨M2, k, ?_, e2⟩
  unfold lexL
  rw [if_pos (by rw [valid_sp a.length a _ (Nat.le_refl _), va, vbl bl hbl]; rfl)]
  show lxs (a ++ 32 :: (bl ++ b)) 0 0 0 (-1) [] = _
  rw [h3, e1]
end Go.Proofs.YtmfeoiblhjfpjaaGreatDoor
