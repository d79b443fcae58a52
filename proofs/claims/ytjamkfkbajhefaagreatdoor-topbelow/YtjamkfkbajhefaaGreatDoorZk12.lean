/- Literals: what is read was shown so, and what is shown is read. Plain, of no program. -/
import Derived.Test.YtjamkfkbajhefaaGreatDoorZk11
import Derived.Lib.ItoaNum
import Derived.Shelf.Small.Strs
import Derived.Shelf.Utf8.AppendRune
import Derived.Shelf.Pu.ToError
import Derived.Ground.MpProg
import Derived.Test.YtjamkfkbajhefaaGreatDoorProg
import Derived.Test.YtjamkfkbajhefaaGreatDoorZk6
import Derived.Lib.ConvBytes
namespace Go.Proofs.YtjamkfkbajhefaaGreatDoor.V
open Go.Lib
set_option maxRecDepth 100000

/-! ### texts -/
theorem txs_once : ∀ (n : Nat) (acc l : List UInt8) (p : List UInt8 × List UInt8), l.length ≤ n → txs acc l = some p → ∃ cs : List Nat, (∀ c ∈ cs, scal c) ∧ p.1 = acc ++ cs.flatMap enc ∧ l = cs.flatMap shR ++ 34 :: p.2 := by
  intro n
  induction n with
  | zero =>
    intro acc l p hl h
    obtain rfl : l = [] := List.eq_nil_of_length_eq_zero (by omega)
    rw [txs_none (by simp) (by unfold runeL; simp)] at h
    cases h
  | succ n ih =>
    intro acc l p hl h
    by_cases hq : l.head? = some 34
    · rw [txs_end hq] at h
      cases h
      refine ⟨[], by simp, by simp, ?_⟩
      cases l with
      | nil => cases hq
      | cons b t => simp only [List.head?_cons, Option.some.injEq] at hq; subst hq; rfl
    · cases hr : runeL l with
      | none => rw [txs_none hq hr] at h; cases h
      | some q =>
        obtain ⟨c, d⟩ := q
        obtain ⟨h1, h2, h3, h4, -⟩ := runeL_spec hr hq
        rw [txs_step hq hr] at h
        obtain ⟨cs, a, b, e⟩ := ih _ _ _ (by rw [List.length_drop]; omega) h
        refine ⟨c :: cs, ?_, by rw [b]; simp, ?_⟩
        · intro x hx
          rcases List.mem_cons.1 hx with rfl | hx
          · exact h4
          · exact a x hx
        · rw [List.flatMap_cons, List.append_assoc, ← e, h1, List.take_append_drop]
/-! ### bytes -/
theorem hxd_dg : ∀ n : Fin 256, ∀ x : Fin 16, hxd (UInt8.ofNat n.val) = some x.val → dg x.val = UInt8.ofNat n.val := by decide +kernel
theorem hxd_lt {b : UInt8} {x : Nat} (h : hxd b = some x) : x < 16 := by
  unfold hxd at h
  split at h
  · cases h; omega
  split at h
  · cases h; omega
  · cases h
theorem hxd_of {b : UInt8} {x : Nat} (h : hxd b = some x) : dg x = b := by
  have := hxd_dg ⟨b.toNat, UInt8.toNat_lt b⟩ ⟨x, hxd_lt h⟩
  simp only [UInt8.ofNat_toNat] at this
  exact this h
theorem hex_pair {x y : Nat} (hx : x < 16) (hy : y < 16) : hex2 (UInt8.ofNat (16 * x + y)) = [dg x, dg y] := by
  unfold hex2
  rw [toNat_of (by omega), show (16 * x + y) / 16 = x by omega, show (16 * x + y) % 16 = y by omega]
theorem hxs_once : ∀ (l : List UInt8) (p : List UInt8 × List UInt8), hxs l = some p → l = hexs p.1 ++ 39 :: p.2
  | [], p, h => by cases h
  | [a], p, h => by
    unfold hxs at h
    split at h
    · rename_i e; cases h; subst e; rfl
    · cases h
  | a :: b :: t, p, h => by
    unfold hxs at h
    split at h
    · rename_i e; cases h; subst e; rfl
    · split at h
      · rename_i x y hx hy
        cases e : hxs t with
        | none => rw [e] at h; cases h
        | some q =>
          rw [e] at h
          simp only [Option.map_some, Option.some.injEq] at h
          subst h
          have := hxs_once t q e
          simp only [hexs, List.flatMap_cons] at this ⊢
          rw [hex_pair (hxd_lt hx) (hxd_lt hy), hxd_of hx, hxd_of hy, List.append_assoc, ← this]
          rfl
      · cases h
theorem hxs_app : ∀ (D R : List UInt8), 39 ∉ D → hxs (D ++ 39 :: R) = (hxp D).map fun b => (b, R)
  | [], R, _ => by
    cases R with
    | nil => rfl
    | cons b R => show hxs (39 :: b :: R) = _; unfold hxs; rw [if_pos rfl]; rfl
  | [a], R, h => by
    have ha : a ≠ 39 := fun e => h (by simp [e])
    show hxs (a :: 39 :: R) = _
    unfold hxs
    rw [if_neg ha, show hxd 39 = none by decide]
    cases hxd a <;> rfl
  | a :: b :: t, R, h => by
    have ha : a ≠ 39 := fun e => h (by simp [e])
    have ht : 39 ∉ t := fun e => h (by simp [e])
    show hxs (a :: b :: (t ++ 39 :: R)) = _
    unfold hxs hxp
    rw [if_neg ha, hxs_app t R ht]
    cases hxd a <;> cases hxd b <;> cases hxp t <;> rfl
theorem hxs_open : ∀ (l : List UInt8), 39 ∉ l → hxs l = none
  | [], _ => rfl
  | [a], h => by
    have ha : a ≠ 39 := fun e => h (by simp [e])
    unfold hxs
    rw [if_neg ha]
  | a :: b :: t, h => by
    have ha : a ≠ 39 := fun e => h (by simp [e])
    have ht : 39 ∉ t := fun e => h (by simp [e])
    unfold hxs
    rw [if_neg ha, hxs_open t ht]
    cases hxd a <;> cases hxd b <;> rfl
theorem hxp_odd : ∀ (D : List UInt8), D.length % 2 ≠ 0 → hxp D = none
  | [], h => absurd rfl h
  | [a], _ => rfl
  | a :: b :: t, h => by
    unfold hxp
    rw [hxp_odd t (by simp only [List.length_cons] at h; omega)]
    cases hxd a <;> cases hxd b <;> rfl

/-! ### numbers -/
theorem snoc_of {l : List UInt8} (h : l ≠ []) : ∃ i b, l = i ++ [b] := ⟨l.dropLast, l.getLast h, (List.dropLast_concat_getLast h).symm⟩
theorem numOf_pos : ∀ (m : Nat) (l : List UInt8), l.length = m + 1 → (∀ b ∈ l, isD b = true) → l.head? ≠ some 48 → 1 ≤ numOf l
  | m, l, hl, hd, hh => by
    obtain ⟨i, b, rfl⟩ := snoc_of (l := l) (fun e => by subst e; simp at hl)
    have hb := hd b (by simp)
    simp only [isD, decide_eq_true_eq] at hb
    rw [numOf_snoc]
    cases i with
    | nil =>
      have : b ≠ 48 := fun e => hh (by simp [e])
      have h2 : b.toNat ≠ 48 := fun e => this (UInt8.toNat_inj.1 e)
      omega
    | cons a i =>
      cases m with
      | zero => simp at hl
      | succ m =>
        have := numOf_pos m (a :: i) (by simpa using hl) (fun x hx => hd x (List.mem_append_left _ hx)) (by simpa using hh)
        omega
theorem decDigits_numOf : ∀ (m : Nat) (l : List UInt8), l.length = m + 1 → (∀ b ∈ l, isD b = true) → (l.head? ≠ some 48 ∨ l.length = 1) → decDigits (numOf l) = l
  | m, l, hl, hd, hh => by
    obtain ⟨i, b, rfl⟩ := snoc_of (l := l) (fun e => by subst e; simp at hl)
    have hb := hd b (by simp)
    simp only [isD, decide_eq_true_eq] at hb
    have hlast : UInt8.ofNat (48 + (b.toNat - 48)) = b := by
      rw [show 48 + (b.toNat - 48) = b.toNat by omega]
      simp
    cases i with
    | nil =>
      rw [numOf_snoc, show numOf [] = 0 from rfl, decDigits, dif_pos (by omega)]
      simp only [List.nil_append, Nat.mul_zero, Nat.zero_add, hlast]
    | cons a i =>
      cases m with
      | zero => simp at hl
      | succ m =>
        have hh' : (a :: i).head? ≠ some 48 := by
          rcases hh with hh | hh
          · simpa using hh
          · simp at hh
        have hp := numOf_pos m (a :: i) (by simpa using hl) (fun x hx => hd x (List.mem_append_left _ hx)) hh'
        have ih := decDigits_numOf m (a :: i) (by simpa using hl) (fun x hx => hd x (List.mem_append_left _ hx)) (.inl hh')
        rw [numOf_snoc, decDigits, dif_neg (by omega), show (10 * numOf (a :: i) + (b.toNat - 48)) / 10 = numOf (a :: i) by omega, show (10 * numOf (a :: i) + (b.toNat - 48)) % 10 = b.toNat - 48 by omega, ih, hlast]
end Go.Proofs.YtjamkfkbajhefaaGreatDoor.V
/- Literals: once and back, whole. Plain, of no program. -/
namespace Go.Proofs.YtjamkfkbajhefaaGreatDoor.V
open Go.Lib
set_option maxRecDepth 100000

/-- May a value be? (As a proposition, over lists.) -/
def okL (k n : Int) (s : List UInt8) : Prop :=
  (k = 1 ∧ s = [] ∧ -9007199254740991 ≤ n ∧ n ≤ 9007199254740991) ∨ (k = 2 ∧ n = 0 ∧ s.length ≤ 200 ∧ validD s = true) ∨ (k = 3 ∧ s = [] ∧ (n = 0 ∨ n = 1)) ∨ (k = 4 ∧ n = 0 ∧ s.length ≤ 200)
/-- A value's literal. -/
def shwL (k n : Int) (s : List UInt8) : List UInt8 :=
  if k = 1 then itoa n else if k = 3 then (if n = 1 then [116, 114, 117, 101] else [102, 97, 108, 115, 101])
  else if k = 4 then 120 :: 39 :: hexs s ++ [39] else 34 :: (rns s).flatMap shR ++ [34]

theorem scT_once {l : List UInt8} (h : (scT l).e = 0) : okL (scT l).k (scT l).n (scT l).s ∧ shwL (scT l).k (scT l).n (scT l).s ++ (scT l).r = 34 :: l := by
  unfold scT at *
  cases e : txs [] l with
  | none => rw [e] at h; simp at h
  | some p =>
    rw [e] at h
    simp only at h ⊢
    split at h
    · simp at h
    rename_i h200
    rw [if_neg h200]
    simp only
    obtain ⟨cs, a, b, d⟩ := txs_once l.length [] l p (Nat.le_refl _) e
    rw [List.nil_append] at b
    obtain ⟨r1, r2⟩ := rns_enc cs a
    refine ⟨.inr (.inl ⟨rfl, rfl, by omega, by rw [b]; exact r2⟩), ?_⟩
    unfold shwL
    rw [if_neg (by decide), if_neg (by decide), if_neg (by decide), b, r1, d]
    simp
theorem scX_once {l : List UInt8} (h : (scX l).e = 0) : okL (scX l).k (scX l).n (scX l).s ∧ shwL (scX l).k (scX l).n (scX l).s ++ (scX l).r = 120 :: 39 :: l := by
  unfold scX at *
  cases e : hxs l with
  | none => rw [e] at h; simp at h
  | some p =>
    rw [e] at h
    simp only at h ⊢
    split at h
    · simp at h
    rename_i h200
    rw [if_neg h200]
    simp only
    have d := hxs_once l p e
    refine ⟨.inr (.inr (.inr ⟨rfl, rfl, by omega⟩)), ?_⟩
    unfold shwL
    rw [if_neg (by decide), if_neg (by decide), if_pos rfl]
    conv => rhs; rw [d]
    simp
theorem scB_once {n : Int} {l : List UInt8} (hn : n = 0 ∨ n = 1) (h : (scB n l).e = 0) : okL (scB n l).k (scB n l).n (scB n l).s ∧ shwL (scB n l).k (scB n l).n (scB n l).s ++ (scB n l).r = (if n = 1 then [116, 114, 117, 101] else [102, 97, 108, 115, 101]) ++ l := by
  unfold scB at *
  split at h
  · simp at h
  rename_i hg
  rw [if_neg hg]
  exact ⟨.inr (.inr (.inl ⟨rfl, rfl, hn⟩)), rfl⟩
theorem scI_once {neg : Bool} {l : List UInt8} (h : (scI neg l).e = 0) : okL (scI neg l).k (scI neg l).n (scI neg l).s ∧ shwL (scI neg l).k (scI neg l).n (scI neg l).s ++ (scI neg l).r = if neg = true then 45 :: l else l := by
  unfold scI at *
  split at h
  · simp at h
  rename_i h1
  split at h
  · simp at h
  rename_i h2
  rw [if_neg h1, if_neg h2]
  simp only [not_or, not_and] at h1 h2
  have hd := digs_all l
  have hne := h1.1
  obtain ⟨m, hm⟩ : ∃ m, (digs l).length = m + 1 := by
    cases e : digs l with
    | nil => exact absurd e hne
    | cons b t => exact ⟨t.length, rfl⟩
  have happ : digs l ++ l.drop (digs l).length = l := by rw [digs_drop]; exact digs_app l
  cases neg with
  | true =>
    have hh : (digs l).head? ≠ some 48 := fun e => (h1.2 e).1 rfl
    have hp := numOf_pos m (digs l) hm hd hh
    have hdd := decDigits_numOf m (digs l) hm hd (.inl hh)
    refine ⟨.inl ⟨rfl, rfl, by simp only [if_true]; omega, by simp only [if_true]; omega⟩, ?_⟩
    simp only [if_true]
    unfold shwL itoa
    rw [if_pos rfl, if_pos (by omega), show (-(numOf (digs l) : Int)).natAbs = numOf (digs l) by omega, hdd, List.cons_append, happ]
  | false =>
    have hh : (digs l).head? ≠ some 48 ∨ (digs l).length = 1 := by
      by_cases e : (digs l).head? = some 48
      · right
        have := (h1.2 e).2
        omega
      · exact .inl e
    have hdd := decDigits_numOf m (digs l) hm hd hh
    refine ⟨.inl ⟨rfl, rfl, by simp only [Bool.false_eq_true, if_false]; omega, by simp only [Bool.false_eq_true, if_false]; omega⟩, ?_⟩
    simp only [Bool.false_eq_true, if_false]
    unfold shwL itoa
    rw [if_pos rfl, if_neg (by omega), show ((numOf (digs l) : Int)).toNat = numOf (digs l) by omega, hdd, happ]
theorem pre_drop {p l : List UInt8} (h : hasPrefix l p = true) : p ++ l.drop p.length = l := by
  obtain ⟨t, rfl⟩ := List.isPrefixOf_iff_prefix.1 h
  rw [List.drop_left]
/-- What is read was shown so. -/
theorem scn_once {l : List UInt8} (h : (scn l).e = 0) : okL (scn l).k (scn l).n (scn l).s ∧ shwL (scn l).k (scn l).n (scn l).s ++ (scn l).r = l := by
  unfold scn at *
  split at h
  · rename_i hp
    rw [if_pos hp]
    have := pre_drop hp
    obtain ⟨a, b⟩ := scT_once h
    exact ⟨a, by rw [b]; exact this⟩
  rename_i n1
  rw [if_neg n1]
  split at h
  · rename_i hp
    rw [if_pos hp]
    have := pre_drop hp
    obtain ⟨a, b⟩ := scX_once h
    exact ⟨a, by rw [b]; exact this⟩
  rename_i n2
  rw [if_neg n2]
  split at h
  · rename_i hp
    rw [if_pos hp]
    have := pre_drop hp
    obtain ⟨a, b⟩ := scB_once (.inr rfl) h
    exact ⟨a, by rw [b]; exact this⟩
  rename_i n3
  rw [if_neg n3]
  split at h
  · rename_i hp
    rw [if_pos hp]
    have := pre_drop hp
    obtain ⟨a, b⟩ := scB_once (.inl rfl) h
    exact ⟨a, by rw [b]; exact this⟩
  rename_i n4
  rw [if_neg n4]
  split at h
  · rename_i hp
    rw [if_pos hp]
    have := pre_drop hp
    obtain ⟨a, b⟩ := scI_once h
    exact ⟨a, by rw [b]; exact this⟩
  rename_i n5
  rw [if_neg n5]
  exact scI_once h
end Go.Proofs.YtjamkfkbajhefaaGreatDoor.V
/- Tokens: which stands at the front of a text; all of a text's. Plain, of no program. -/
namespace Go.Proofs.YtjamkfkbajhefaaGreatDoor.V
open Go.Lib
set_option maxRecDepth 100000

/-- Does a word, once begun, go on with a rune? -/
def goC (c : Nat) : Bool := letterN c || (decide (48 ≤ c ∧ c ≤ 57) || (c == 95 || c == 45))
def wgGo : Nat → List UInt8 → Nat
  | 0, _ => 0
  | n + 1, l => if l = [] then 0 else if goC (decodeL l).1 = true then (decodeL l).2 + wgGo n (l.drop (decodeL l).2) else 0
/-- With how many bytes a word, once begun, goes on. -/
def wgo (l : List UInt8) : Nat := wgGo l.length l
theorem wgGo_fuel : ∀ (n m : Nat) (l : List UInt8), l.length ≤ n → l.length ≤ m → wgGo n l = wgGo m l
  | 0, m, l, hn, _ => by
    obtain rfl : l = [] := List.eq_nil_of_length_eq_zero (by omega)
    cases m <;> simp [wgGo]
  | n + 1, 0, l, _, hm => by
    obtain rfl : l = [] := List.eq_nil_of_length_eq_zero (by omega)
    simp [wgGo]
  | n + 1, m + 1, l, hn, hm => by
    unfold wgGo
    by_cases hne : l = []
    · rw [if_pos hne, if_pos hne]
    · have hw := decodeL_width l
      have hl : 0 < l.length := List.length_pos_iff.2 hne
      rw [if_neg hne, if_neg hne, wgGo_fuel n m (l.drop (decodeL l).2) (by rw [List.length_drop]; omega) (by rw [List.length_drop]; omega)]
theorem wgo_nil : wgo [] = 0 := rfl
theorem wgo_step {l : List UInt8} (hne : l ≠ []) : wgo l = if goC (decodeL l).1 = true then (decodeL l).2 + wgo (l.drop (decodeL l).2) else 0 := by
  have hw := decodeL_width l
  have hl : 0 < l.length := List.length_pos_iff.2 hne
  obtain ⟨n, hn⟩ : ∃ n, l.length = n + 1 := ⟨l.length - 1, by omega⟩
  conv => lhs; unfold wgo; rw [hn]; unfold wgGo
  rw [if_neg hne, wgGo_fuel n (l.drop (decodeL l).2).length _ (by rw [List.length_drop]; omega) (Nat.le_refl _)]
  rfl
theorem wgo_le : ∀ (n : Nat) (l : List UInt8), l.length ≤ n → wgo l ≤ l.length
  | 0, l, h => by
    obtain rfl : l = [] := List.eq_nil_of_length_eq_zero (by omega)
    exact Nat.le_refl _
  | n + 1, l, h => by
    by_cases hne : l = []
    · subst hne; exact Nat.le_refl _
    · have hw := decodeL_width l
      have hle := decodeL_le l hne
      rw [wgo_step hne]
      split
      · have := wgo_le n (l.drop (decodeL l).2) (by rw [List.length_drop]; omega)
        rw [List.length_drop] at this
        omega
      · exact Nat.zero_le _
/-- How many bytes the word at the front has. -/
def wsz (l : List UInt8) : Nat := if l ≠ [] ∧ ((decodeL l).1 = 95 ∨ letterN (decodeL l).1 = true) then wgo l else 0
def marks1 : List UInt8 := [61, 60, 62, 123, 125, 40, 41, 44]
/-- How many bytes the mark at the front has. -/
def msz (l : List UInt8) : Nat :=
  if hasPrefix l [33, 61] = true ∨ hasPrefix l [60, 61] = true ∨ hasPrefix l [62, 61] = true then 2
  else if 0 ≤ indexByte marks1 (l.getD 0 0) then 1 else 0
/-- A token. -/
structure Tk where
  k : Int
  p : Int
  s : List UInt8
  vk : Int
  vn : Int
  vs : List UInt8
/-- A token at the front, its size, and the error. -/
structure Ct where
  t : Tk
  z : Nat
  e : Int
def Ct.bad (e : Int) : Ct := ⟨⟨0, 0, [], 0, 0, []⟩, 0, e⟩
def cutL (l : List UInt8) : Ct :=
  if (scn l).e = 2 then .bad 2
  else if (scn l).e = 0 ∧ wgo (scn l).r = 0 then ⟨⟨2, 0, [], (scn l).k, (scn l).n, (scn l).s⟩, l.length - (scn l).r.length, 0⟩
  else if 0 < wsz l then ⟨⟨1, 0, l.take (wsz l), 0, 0, []⟩, wsz l, 0⟩
  else if 0 < msz l then ⟨⟨3, 0, l.take (msz l), 0, 0, []⟩, msz l, 0⟩
  else .bad 3
def blankN (c : Nat) : Bool := c == 32 || (c == 9 || (c == 10 || c == 13))
/-- What cutting answers: the tokens, a place, the error. -/
structure Lx where
  l : List Tk
  a : Int
  e : Int
def lxEnd (at' : Nat) (long : Int) (acc : List Tk) : Lx := if 0 ≤ long then ⟨[], long, 2⟩ else ⟨acc, at', 0⟩
def lxGo : Nat → List UInt8 → Nat → Nat → Nat → Int → List Tk → Lx
  | 0, _, _, at', _, long, acc => lxEnd at' long acc
  | n + 1, l, pos, at', en, long, acc =>
    if l = [] then lxEnd at' long acc
    else if en ≤ pos ∧ blankN (decodeL l).1 = false then
      if (cutL l).e = 3 then ⟨[], at', 3⟩
      else if (cutL l).e = 2 then ⟨[], if long < 0 then at' else long, 2⟩
      else if long < 0 ∧ acc.length ≠ 300 then lxGo n (l.drop (decodeL l).2) (pos + (decodeL l).2) (at' + 1) (pos + (cutL l).z) long (acc ++ [{ (cutL l).t with p := at' }])
      else lxGo n (l.drop (decodeL l).2) (pos + (decodeL l).2) (at' + 1) (pos + (cutL l).z) (if long < 0 then at' else long) acc
    else lxGo n (l.drop (decodeL l).2) (pos + (decodeL l).2) (at' + 1) en long acc
/-- All tokens of a text. -/
def lexL (l : List UInt8) : Lx := if validD l = true then lxGo l.length l 0 0 0 (-1) [] else ⟨[], 0, 3⟩
theorem lxGo_fuel : ∀ (n m : Nat) (l : List UInt8) (pos at' en : Nat) (long : Int) (acc : List Tk), l.length ≤ n → l.length ≤ m → lxGo n l pos at' en long acc = lxGo m l pos at' en long acc
  | 0, m, l, _, _, _, _, _, hn, _ => by
    obtain rfl : l = [] := List.eq_nil_of_length_eq_zero (by omega)
    cases m <;> simp [lxGo]
  | n + 1, 0, l, _, _, _, _, _, _, hm => by
    obtain rfl : l = [] := List.eq_nil_of_length_eq_zero (by omega)
    simp [lxGo]
  | n + 1, m + 1, l, pos, at', en, long, acc, hn, hm => by
    unfold lxGo
    by_cases hne : l = []
    · rw [if_pos hne, if_pos hne]
    · have hw := decodeL_width l
      have hl : 0 < l.length := List.length_pos_iff.2 hne
      have f := fun p a e lo ac => lxGo_fuel n m (l.drop (decodeL l).2) p a e lo ac (by rw [List.length_drop]; omega) (by rw [List.length_drop]; omega)
      rw [if_neg hne, if_neg hne]
      simp only [f]
/-- From a state on. -/
def lxs (l : List UInt8) (pos at' en : Nat) (long : Int) (acc : List Tk) : Lx := lxGo l.length l pos at' en long acc
theorem lxs_nil (pos at' en : Nat) (long : Int) (acc : List Tk) : lxs [] pos at' en long acc = lxEnd at' long acc := rfl
theorem lxs_step {l : List UInt8} (hne : l ≠ []) (pos at' en : Nat) (long : Int) (acc : List Tk) : lxs l pos at' en long acc =
    if en ≤ pos ∧ blankN (decodeL l).1 = false then
      if (cutL l).e = 3 then ⟨[], at', 3⟩
      else if (cutL l).e = 2 then ⟨[], if long < 0 then at' else long, 2⟩
      else if long < 0 ∧ acc.length ≠ 300 then lxs (l.drop (decodeL l).2) (pos + (decodeL l).2) (at' + 1) (pos + (cutL l).z) long (acc ++ [{ (cutL l).t with p := at' }])
      else lxs (l.drop (decodeL l).2) (pos + (decodeL l).2) (at' + 1) (pos + (cutL l).z) (if long < 0 then at' else long) acc
    else lxs (l.drop (decodeL l).2) (pos + (decodeL l).2) (at' + 1) en long acc := by
  have hw := decodeL_width l
  have hl : 0 < l.length := List.length_pos_iff.2 hne
  obtain ⟨n, hn⟩ : ∃ n, l.length = n + 1 := ⟨l.length - 1, by omega⟩
  conv => lhs; unfold lxs; rw [hn]; unfold lxGo
  have f := fun p a e lo ac => lxGo_fuel n (l.drop (decodeL l).2).length (l.drop (decodeL l).2) p a e lo ac (by rw [List.length_drop]; omega) (Nat.le_refl _)
  rw [if_neg hne]
  simp only [f]
  rfl
def Tk.cells (x : Tk) : List Go.Value := [.int .i64 x.k, .int .i64 x.p, .string (str x.s), .int .i64 x.vk, .int .i64 x.vn, .string (str x.vs)]
def tkCells (l : List Tk) : List Go.Value := l.flatMap Tk.cells
theorem tkCells_snoc (l : List Tk) (x : Tk) : tkCells (l ++ [x]) = tkCells l ++ Tk.cells x := by simp [tkCells]
end Go.Proofs.YtjamkfkbajhefaaGreatDoor.V
/- The shelf's contracts of utf8.AppendRune and strconv.toError, at this program, laid by the shelf's tool in plain words. -/
namespace Go.Proofs
open Go.Shelf
def Tryz.lays242_ren : Go.Shelf.Ren := ⟨fun | 242 => 166 | 278 => 188 | n => n, fun | 37 => 87 | 21 => 21 | 51 => 215 | 4 => 4 | 5 => 5 | 46 => 134 | n => n, fun | n => n⟩
theorem Tryz.lays242 : Go.Proofs.Lays.n242 Tryz.prog Tryz.lays242_ren := {
  mixed := by kernel_rfl
  f242 := Tryz.func166.trans (congrArg some (by kernel_rfl))
  f278 := Tryz.func188.trans (congrArg some (by kernel_rfl))
  t4 := Tryz.underlying4
  a4 := Tryz.isAgg4
  z4 := Tryz.sizeOf4
  v4 := Tryz.zeroValue4
  t5 := Tryz.underlying5
  a5 := Tryz.isAgg5
  z5 := Tryz.sizeOf5
  v5 := Tryz.zeroValue5
  t21 := Tryz.underlying21
  a21 := Tryz.isAgg21
  z21 := Tryz.sizeOf21
  v21 := Tryz.zeroValue21
  t37 := Tryz.underlying87
  a37 := Tryz.isAgg87
  z37 := Tryz.sizeOf87
  v37 := Tryz.zeroValue87
  t46 := Tryz.underlying134
  a46 := Tryz.isAgg134
  z46 := Tryz.sizeOf134
  v46 := Tryz.zeroValue134
  t51 := Tryz.underlying215
  a51 := Tryz.isAgg215
  z51 := Tryz.sizeOf215
  v51 := Tryz.zeroValue215 }
open Go.RowKit in
theorem Tryz.utf8_AppendRune_row (B : Nat) (v : Value) (n : Nat) (xs : List Value) (r : Int) (hr0 : -2147483648 ≤ r) (hr1 : r ≤ 2147483647) (w : World) (hown : w.ownsRowF B 5 1 v n xs) (hlen : n + 4 ≤ 140737488355328) (hBw : B ≤ w.heap.size) :
    Calls Tryz.prog 166 #[v, .int .i32 r] w fun e w' => ∃ v', e = .returned v' ∧ w'.ownsRowF B 5 1 v' (n + (Lib.runeCells r).length) (xs ++ Lib.runeCells r) ∧ ∃ o, (w.alloc o).grownBy w' v.ownBlock := Any.utf8_AppendRune_row Tryz.lays242 (by kernel_rfl) B v n xs r hr0 hr1 w hown hlen hBw
def Tryz.laysPu17_ren : Go.Shelf.Ren := ⟨fun | 17 => 208 | 21 => 213 | 22 => 214 | 23 => 215 | 24 => 216 | 25 => 217 | 27 => 71 | 26 => 218 | 28 => 101 | 29 => 128 | 30 => 146 | 31 => 147 | 32 => 148 | 33 => 149 | 35 => 159 | 34 => 175 | 36 => 176 | 37 => 177 | 38 => 178 | 39 => 199 | 40 => 200 | n => n, fun | 9 => 9 | 3 => 3 | 24 => 91 | 34 => 258 | 4 => 4 | 39 => 260 | 44 => 264 | 37 => 87 | 0 => 0 | 47 => 128 | 50 => 268 | 48 => 266 | 2 => 2 | 52 => 202 | 22 => 171 | 5 => 5 | 55 => 205 | 59 => 229 | 60 => 215 | 20 => 20 | 61 => 230 | 36 => 134 | 65 => 254 | 66 => 255 | 67 => 96 | n => n, fun | 0 => 6 | 1 => 7 | 2 => 3 | 3 => 4 | 4 => 5 | n => n⟩
theorem Tryz.laysPu17 : Go.Proofs.LaysPu.n17 Tryz.prog Tryz.laysPu17_ren := {
  mixed := by kernel_rfl
  f17 := Tryz.func208.trans (congrArg some (by kernel_rfl))
  f21 := Tryz.func213.trans (congrArg some (by kernel_rfl))
  f22 := Tryz.func214.trans (congrArg some (by kernel_rfl))
  f23 := Tryz.func215.trans (congrArg some (by kernel_rfl))
  f24 := Tryz.func216.trans (congrArg some (by kernel_rfl))
  f25 := Tryz.func217.trans (congrArg some (by kernel_rfl))
  f26 := Tryz.func218.trans (congrArg some (by kernel_rfl))
  f27 := Tryz.func71.trans (congrArg some (by kernel_rfl))
  f28 := Tryz.func101.trans (congrArg some (by kernel_rfl))
  f29 := Tryz.func128.trans (congrArg some (by kernel_rfl))
  f30 := Tryz.func146.trans (congrArg some (by kernel_rfl))
  f31 := Tryz.func147.trans (congrArg some (by kernel_rfl))
  f32 := Tryz.func148.trans (congrArg some (by kernel_rfl))
  f33 := Tryz.func149.trans (congrArg some (by kernel_rfl))
  f34 := Tryz.func175.trans (congrArg some (by kernel_rfl))
  f35 := Tryz.func159.trans (congrArg some (by kernel_rfl))
  f36 := Tryz.func176.trans (congrArg some (by kernel_rfl))
  f37 := Tryz.func177.trans (congrArg some (by kernel_rfl))
  f38 := Tryz.func178.trans (congrArg some (by kernel_rfl))
  f39 := Tryz.func199.trans (congrArg some (by kernel_rfl))
  f40 := Tryz.func200.trans (congrArg some (by kernel_rfl))
  t0 := Tryz.underlying0
  a0 := Tryz.isAgg0
  z0 := Tryz.sizeOf0
  v0 := Tryz.zeroValue0
  i0 := by kernel_rfl
  t2 := Tryz.underlying2
  a2 := Tryz.isAgg2
  z2 := Tryz.sizeOf2
  v2 := Tryz.zeroValue2
  i2 := by kernel_rfl
  t3 := Tryz.underlying3
  a3 := Tryz.isAgg3
  z3 := Tryz.sizeOf3
  v3 := Tryz.zeroValue3
  i3 := by kernel_rfl
  t4 := Tryz.underlying4
  a4 := Tryz.isAgg4
  z4 := Tryz.sizeOf4
  v4 := Tryz.zeroValue4
  i4 := by kernel_rfl
  t5 := Tryz.underlying5
  a5 := Tryz.isAgg5
  z5 := Tryz.sizeOf5
  v5 := Tryz.zeroValue5
  i5 := by kernel_rfl
  t9 := Tryz.underlying9
  a9 := Tryz.isAgg9
  z9 := Tryz.sizeOf9
  v9 := Tryz.zeroValue9
  i9 := by kernel_rfl
  t20 := Tryz.underlying20
  a20 := Tryz.isAgg20
  z20 := Tryz.sizeOf20
  v20 := Tryz.zeroValue20
  i20 := by kernel_rfl
  t22 := Tryz.underlying171
  a22 := Tryz.isAgg171
  z22 := Tryz.sizeOf171
  v22 := Tryz.zeroValue171
  i22 := by kernel_rfl
  t24 := Tryz.underlying91
  a24 := Tryz.isAgg91
  z24 := Tryz.sizeOf91
  v24 := Tryz.zeroValue91
  i24 := by kernel_rfl
  t34 := Tryz.underlying258
  a34 := Tryz.isAgg258
  z34 := Tryz.sizeOf258
  v34 := Tryz.zeroValue258
  i34 := by kernel_rfl
  c34 := by kernel_rfl
  t36 := Tryz.underlying134
  a36 := Tryz.isAgg134
  z36 := Tryz.sizeOf134
  v36 := Tryz.zeroValue134
  i36 := by kernel_rfl
  t37 := Tryz.underlying87
  a37 := Tryz.isAgg87
  z37 := Tryz.sizeOf87
  v37 := Tryz.zeroValue87
  i37 := by kernel_rfl
  t39 := Tryz.underlying260
  a39 := Tryz.isAgg260
  z39 := Tryz.sizeOf260
  v39 := Tryz.zeroValue260
  i39 := by kernel_rfl
  t44 := Tryz.underlying264
  a44 := Tryz.isAgg264
  z44 := Tryz.sizeOf264
  v44 := Tryz.zeroValue264
  i44 := by kernel_rfl
  t47 := Tryz.underlying128
  a47 := Tryz.isAgg128
  z47 := Tryz.sizeOf128
  v47 := Tryz.zeroValue128
  i47 := by kernel_rfl
  t48 := Tryz.underlying266
  a48 := Tryz.isAgg266
  z48 := Tryz.sizeOf266
  v48 := Tryz.zeroValue266
  i48 := by kernel_rfl
  t50 := Tryz.underlying268
  a50 := Tryz.isAgg268
  z50 := Tryz.sizeOf268
  v50 := Tryz.zeroValue268
  i50 := by kernel_rfl
  t52 := Tryz.underlying202
  a52 := Tryz.isAgg202
  z52 := Tryz.sizeOf202
  v52 := Tryz.zeroValue202
  i52 := by kernel_rfl
  t55 := Tryz.underlying205
  a55 := Tryz.isAgg205
  z55 := Tryz.sizeOf205
  v55 := Tryz.zeroValue205
  i55 := by kernel_rfl
  t59 := Tryz.underlying229
  a59 := Tryz.isAgg229
  z59 := Tryz.sizeOf229
  v59 := Tryz.zeroValue229
  i59 := by kernel_rfl
  t60 := Tryz.underlying215
  a60 := Tryz.isAgg215
  z60 := Tryz.sizeOf215
  v60 := Tryz.zeroValue215
  i60 := by kernel_rfl
  t61 := Tryz.underlying230
  a61 := Tryz.isAgg230
  z61 := Tryz.sizeOf230
  t65 := Tryz.underlying254
  a65 := Tryz.isAgg254
  z65 := Tryz.sizeOf254
  v65 := Tryz.zeroValue254
  i65 := by kernel_rfl
  t66 := Tryz.underlying255
  a66 := Tryz.isAgg255
  z66 := Tryz.sizeOf255
  v66 := Tryz.zeroValue255
  i66 := by kernel_rfl
  t67 := Tryz.underlying96
  a67 := Tryz.isAgg96
  z67 := Tryz.sizeOf96
  v67 := Tryz.zeroValue96
  i67 := by kernel_rfl
  g0 := by kernel_rfl
  m0 := by kernel_rfl
  g1 := by kernel_rfl
  m1 := by kernel_rfl
  g2 := by kernel_rfl
  m2 := by kernel_rfl
  g3 := by kernel_rfl
  m3 := by kernel_rfl
  g4 := by kernel_rfl
  m4 := by kernel_rfl }
open Go.RowKit in
theorem Tryz.strconv_toError_syntax (fn s : ByteArray) (base bits : Int) (ev : Value) (w : World) (hlim : s.size ≤ 281474976710656) (hv : w.cell? ⟨6, 0, none⟩ = some ev) (hev : ev = .nilIface ∨ ∃ te pe, ev = .iface te pe) :
    Calls Tryz.prog 208 #[.string fn, .string s, .int .i64 base, .int .i64 bits, .iface 258 (.int .i64 2)] w fun e w' => ∃ N, e = .returned (.iface 260 (.pointer (some ⟨N, 0, none⟩))) ∧ w.heap.size ≤ N ∧ w'.heap[N]? = some (.cells #[.string fn, .string s, ev] 264 (0, 0)) ∧ Below w.heap.size w w' := AnyPu.strconv_toError_syntax Tryz.laysPu17 fn s base bits ev w hlim hv hev
end Go.Proofs
/- strconv.ParseUint at base 16 and 8 bits, of one or two bytes: walks. -/
namespace Go.Proofs.YtjamkfkbajhefaaGreatDoor.V
open Go.RowKit

def puG : Nat → List UInt8 → Option Nat
  | acc, [] => some acc
  | acc, c :: t => match puD c with
    | none => none
    | some d => puG (16 * acc + d) t
theorem puG_puL {l : List UInt8} (h1 : l.length ≠ 0) (h2 : l.length ≤ 2) : puG 0 l = puL l := by
  match l, h1, h2 with
  | [x], _, _ =>
    simp only [puG, puL]
    cases puD x <;> simp
  | [x, y], _, _ =>
    simp only [puG, puL]
    cases puD x with
    | none => rfl
    | some d =>
      simp only
      cases puD y <;> simp
/-- What the inner ParseUint hands back. -/
def puVal : Option Nat → Value
  | some n => .tuple #[.int .u64 (n : Int), .nilIface]
  | none => .tuple #[.int .u64 0, .iface 258 (.int .i64 2)]
theorem or32 : ∀ n : Fin 256, bits BinOp.or IntKind.u8 (n.val : Int) 32 = ((n.val ||| 32 : Nat) : Int) := by decide +kernel
theorem or32_lt : ∀ n : Fin 256, (n.val ||| 32) < 256 := by decide +kernel
theorem lower_any (c : Nat) (w : World) (h : c < 256) : Calls Tryz.prog 211 #[.int .u8 (c : Int)] w fun e w' => e = .returned (.int .u8 ((c ||| 32 : Nat) : Int)) ∧ w' = w := by
  have ho := or32 ⟨c, h⟩
  simp only at ho
  go_enter Tryz.func211, Tryz.ntmps211
  go_wp2
  go_ret
  exact ⟨rfl, rfl⟩
theorem bytesWorld_below (w : World) (e : TypeId) (s : ByteArray) : Below w.heap.size w (Lib.bytesWorld w e s) := ⟨rfl, rfl, rfl, by rw [Lib.bytesWorld_size]; exact Nat.le_succ _, fun k hk => Lib.bytesWorld_at_old w e s k hk⟩
set_option maxHeartbeats 8000000 in
set_option maxRecDepth 100000 in
theorem parseUint_i (t : ByteArray) (w : World) (h1 : t.size ≠ 0) (h2 : t.size ≤ 2) :
    Calls Tryz.prog 207 #[.string t, .int .i64 16, .int .i64 8] w fun e w' => e = .returned (puVal (puG 0 t.data.toList)) ∧ Below w.heap.size w w' := by
  have hemp : t.toList.isEmpty = false := empty_not t h1
  have hcv := Lib.run_convert_string_bytes (P := Tryz.prog) w 9 87 5 t (u := .string) Tryz.underlying9 Tryz.underlying87 Tryz.underlying5
  have hB : ∀ j, j < t.size → (Lib.bytesWorld w 5 t).cell? ⟨w.heap.size, j, none⟩ = some (.int .u8 (t.data.toList.getD j 0).toNat) := fun j hj => Lib.bytesWorld_cell w 5 t j hj
  have HW : Hid (Below w.heap.size w (Lib.bytesWorld w 5 t)) := bytesWorld_below w _ t
  generalize Lib.bytesWorld w 5 t = W1 at *
  obtain ⟨bs, hL⟩ : ∃ bs, bs = t.data.toList := ⟨_, rfl⟩
  have hLn : bs.length = t.size := by rw [hL, Lib.size_eq]
  rw [← hL] at hB ⊢
  clear hL h1
  have hmv : IntKind.u64.wrap (IntKind.u64.wrap 256 - 1) = 255 := by decide +kernel
  go_enter Tryz.func207, Tryz.ntmps207
  go_wp2
  go_loop [12, 13, 101] (fun vu vn vi => ∃ (k acc : Nat) (a : Int), vu = .bool false ∧ vn = .int .u64 a ∧ vi = .int .i64 k ∧ k ≤ t.size ∧ Hid (a = (acc : Int) ∧ (k = 0 → acc = 0) ∧ (k = 1 → acc < 16) ∧ acc < 256 ∧ puG 0 bs = puG acc (bs.drop k)))
    (fun _ _ vi => t.size - (intOf vi).toNat)
  case atStart => exact ⟨0, 0, 0, rfl, rfl, rfl, by omega, rfl, fun _ => rfl, fun h => by omega, by omega, rfl⟩
  case round =>
    obtain ⟨k, acc, a, rfl, rfl, rfl, hk, hh⟩ := hrel
    obtain ⟨ha, hk0, hk1, hacc, hdec⟩ := hh.out
    clear hh
    by_cases hkn : k < t.size
    · have hc := hB k hkn
      have hdrop : bs.drop k = bs[k]'(by omega) :: bs.drop (k + 1) := List.drop_eq_getElem_cons (by omega)
      have hget : bs.getD k 0 = bs[k]'(by omega) := by simp [List.getD, List.getElem?_eq_getElem (show k < bs.length by omega)]
      rw [hdrop] at hdec
      rw [hget] at hc
      generalize bs[k]'(by omega) = c at hc hdec
      have hc256 : c.toNat < 256 := c.toNat_lt
      have hacc16 : acc < 16 := by
        rcases Nat.lt_or_ge 0 k with h | h
        · exact hk1 (by omega)
        · rw [hk0 (by omega)]; decide
      clear hB hdrop hget
      by_cases hdig : 48 ≤ c.toNat ∧ c.toNat ≤ 57
      · have hF : puG acc (c :: bs.drop (k + 1)) = puG (16 * acc + (c.toNat - 48)) (bs.drop (k + 1)) := by
          simp only [puG, puD, if_pos hdig]
        obtain ⟨hd0, hd1⟩ := hdig
        have HN : Hid (a * 16 + ((c.toNat : Int) - 48) = ((16 * acc + (c.toNat - 48) : Nat) : Int) ∧ (k + 1 = 0 → 16 * acc + (c.toNat - 48) = 0) ∧ (k + 1 = 1 → 16 * acc + (c.toNat - 48) < 16) ∧ 16 * acc + (c.toNat - 48) < 256 ∧ puG 0 bs = puG (16 * acc + (c.toNat - 48)) (bs.drop (k + 1))) := ⟨by omega, fun h => by omega, fun h => by have := hk0 (by omega); omega, by omega, hdec.trans hF⟩
        have a0 : 0 ≤ a := by omega
        have a1 : a < 16 := by omega
        clear hF hdec ha hk0 hk1 hacc hacc16
        go_wp2
        refine ⟨⟨k + 1, 16 * acc + (c.toNat - 48), a * 16 + ((c.toNat : Int) - 48), rfl, (by first | rfl | (congr 1; omega)), (by first | rfl | (congr 1; omega)), by omega, HN⟩, by simp [intOf]; omega⟩
      · have ho := or32_lt ⟨c.toNat, hc256⟩
        simp only at ho
        by_cases hlet : 97 ≤ (c.toNat ||| 32) ∧ (c.toNat ||| 32) ≤ 102
        · have hF : puG acc (c :: bs.drop (k + 1)) = puG (16 * acc + ((c.toNat ||| 32) - 87)) (bs.drop (k + 1)) := by
            simp only [puG, puD, if_neg hdig, if_pos hlet]
          have HL : Hid (∀ w : World, Calls Tryz.prog 211 #[.int .u8 (c.toNat : Int)] w fun e w' => e = .returned (.int .u8 ((c.toNat ||| 32 : Nat) : Int)) ∧ w' = w) := fun w => lower_any c.toNat w hc256
          generalize (c.toNat ||| 32) = m at *
          obtain ⟨hm0, hm1⟩ := hlet
          have HN : Hid (a * 16 + ((m : Int) - 87) = ((16 * acc + (m - 87) : Nat) : Int) ∧ (k + 1 = 0 → 16 * acc + (m - 87) = 0) ∧ (k + 1 = 1 → 16 * acc + (m - 87) < 16) ∧ 16 * acc + (m - 87) < 256 ∧ puG 0 bs = puG (16 * acc + (m - 87)) (bs.drop (k + 1))) := ⟨by omega, fun h => by omega, fun h => by have := hk0 (by omega); omega, by omega, hdec.trans hF⟩
          have a0 : 0 ≤ a := by omega
          have a1 : a < 16 := by omega
          have n95 : ((c.toNat : Int) == 95) = false ∨ ((c.toNat : Int) == 95) = true := by cases ((c.toNat : Int) == 95) <;> simp
          have nd : (decide ((48 : Int) ≤ c.toNat) = false) ∨ (decide ((48 : Int) ≤ c.toNat) = true ∧ decide ((c.toNat : Int) ≤ 57) = false) := by
            by_cases h48 : 48 ≤ c.toNat
            · exact .inr ⟨by simp; omega, by simp; omega⟩
            · exact .inl (by simp; omega)
          have d1 : decide ((97 : Int) ≤ m) = true := by simp; omega
          have d2 : decide ((m : Int) ≤ 122) = true := by simp; omega
          clear hF hdec ha hk0 hk1 hacc hacc16 hdig
          rcases nd with nd | ⟨nd, nd2⟩
          all_goals
            rcases n95 with n95 | n95
            all_goals
              go_wp2_with (go_at_call 211; refine (HL.out _).mono ?_; rintro e w' ⟨rfl, rfl⟩)
              refine ⟨⟨k + 1, 16 * acc + (m - 87), a * 16 + ((m : Int) - 87), rfl, (by first | rfl | (congr 1; omega)), (by first | rfl | (congr 1; omega)), by omega, HN⟩, by simp [intOf]; omega⟩
        · have hF : puG acc (c :: bs.drop (k + 1)) = none := by
            simp only [puG, puD, if_neg hdig, if_neg hlet]
          have HD : Hid (puG 0 bs = none) := hdec.trans hF
          have HL : Hid (∀ w : World, Calls Tryz.prog 211 #[.int .u8 (c.toNat : Int)] w fun e w' => e = .returned (.int .u8 ((c.toNat ||| 32 : Nat) : Int)) ∧ w' = w) := fun w => lower_any c.toNat w hc256
          generalize (c.toNat ||| 32) = m at *
          have n95 : ((c.toNat : Int) == 95) = false ∨ ((c.toNat : Int) == 95) = true := by cases ((c.toNat : Int) == 95) <;> simp
          have nd : (decide ((48 : Int) ≤ c.toNat) = false) ∨ (decide ((48 : Int) ≤ c.toNat) = true ∧ decide ((c.toNat : Int) ≤ 57) = false) := by
            by_cases h48 : 48 ≤ c.toNat
            · exact .inr ⟨by simp; omega, by simp; omega⟩
            · exact .inl (by simp; omega)
          have nm : (decide ((97 : Int) ≤ m) = false) ∨ (decide ((97 : Int) ≤ m) = true ∧ decide ((m : Int) ≤ 122) = false) ∨ (decide ((97 : Int) ≤ m) = true ∧ decide ((m : Int) ≤ 122) = true ∧ 103 ≤ m ∧ m ≤ 122) := by
            by_cases h97 : 97 ≤ m
            · by_cases h122 : m ≤ 122
              · exact .inr (.inr ⟨by simp; omega, by simp; omega, by omega, h122⟩)
              · exact .inr (.inl ⟨by simp; omega, by simp; omega⟩)
            · exact .inl (by simp; omega)
          clear hF hdec ha hk0 hk1 hacc hacc16 hdig hlet
          rcases nd with nd | ⟨nd, nd2⟩
          all_goals
            rcases n95 with n95 | n95
            all_goals
              rcases nm with nm | ⟨nm, nm2⟩ | ⟨nm, nm2, nm3, nm4⟩
              all_goals
                go_wp2_with (go_at_call 211; refine (HL.out _).mono ?_; rintro e w' ⟨rfl, rfl⟩)
                go_ret2
                exact ⟨by rw [HD.out]; rfl, HW.out⟩
    · have hkk : k = t.size := by omega
      subst hkk
      have hF : puG acc (bs.drop t.size) = some acc := by rw [List.drop_eq_nil_of_le (by omega)]; rfl
      rw [hF] at hdec
      have HD : Hid (puG 0 bs = some acc) := hdec
      subst ha
      clear hacc hF hk0 hk1 hdec hB
      go_wp2
      go_ret2
      exact ⟨by rw [HD.out]; rfl, HW.out⟩
end Go.Proofs.YtjamkfkbajhefaaGreatDoor.V
