/- Literals, read: which value stands at the front of a text, what stands behind it, or the error. Plain, of no program. -/
import Derived.Test.YtdendpckihckeaaGreatDoorWA
import Derived.Test.YtdendpckihckeaaGreatDoorWB
import Derived.Lib.Strings
namespace Go.Proofs.YtdendpckihckeaaGreatDoor
open Go.Lib
set_option maxRecDepth 100000

/-- What reading a literal answers: the value's kind, number and bytes; what stands behind it; the error. -/
structure Sc where
  k : Int
  n : Int
  s : List UInt8
  r : List UInt8
  e : Int
abbrev Sc.bad (e : Int) : Sc := ⟨0, 0, [], [], e⟩

def isD (b : UInt8) : Bool := decide (48 ≤ b.toNat ∧ b.toNat ≤ 57)
/-- The digits at the front. -/
def digs (l : List UInt8) : List UInt8 := l.takeWhile isD
def numOf (l : List UInt8) : Nat := l.foldl (fun n b => 10 * n + (b.toNat - 48)) 0
def scI (neg : Bool) (l : List UInt8) : Sc :=
  if digs l = [] ∨ ((digs l).head? = some 48 ∧ (neg = true ∨ 1 < (digs l).length)) then .bad 3
  else if 16 < (digs l).length ∨ 9007199254740991 < numOf (digs l) then .bad 2
  else ⟨1, if neg = true then -(numOf (digs l) : Int) else numOf (digs l), [], l.drop (digs l).length, 0⟩

/-- A digit of 0 to 9, a to f. -/
def hxd (b : UInt8) : Option Nat := if 48 ≤ b.toNat ∧ b.toNat ≤ 57 then some (b.toNat - 48) else if 97 ≤ b.toNat ∧ b.toNat ≤ 102 then some (b.toNat - 87) else none
/-- The bytes that pairs of digits say, up to the closing mark, and what stands behind that. -/
def hxs : List UInt8 → Option (List UInt8 × List UInt8)
  | [] => none
  | [a] => if a = 39 then some ([], []) else none
  | a :: b :: t => if a = 39 then some ([], b :: t) else
    match hxd a, hxd b with
    | some x, some y => (hxs t).map fun p => (UInt8.ofNat (16 * x + y) :: p.1, p.2)
    | _, _ => none
/-- The same, of the digits alone. -/
def hxp : List UInt8 → Option (List UInt8)
  | [] => some []
  | [_] => none
  | a :: b :: t =>
    match hxd a, hxd b with
    | some x, some y => (hxp t).map fun p => UInt8.ofNat (16 * x + y) :: p
    | _, _ => none
def scX (l : List UInt8) : Sc :=
  match hxs l with
  | none => .bad 3
  | some p => if 200 < p.1.length then .bad 2 else ⟨4, 0, p.1, p.2, 0⟩

/-- The rune whose writing with a back stroke stands at the front. -/
def escL (l : List UInt8) : Option Nat := (List.range 128).find? fun c => decide ((shR c).head? = some 92) && (shR c).isPrefixOf l
/-- The rune at the front of what stands within a text's literal, and how many bytes it is written in. -/
def runeL (l : List UInt8) : Option (Nat × Nat) :=
  if l.head? = some 92 then (escL l).map fun c => (c, (shR c).length)
  else if l = [] ∨ ((decodeL l).1 = 65533 ∧ (decodeL l).2 = 1) ∨ (decodeL l).1 < 32 ∨ (decodeL l).1 = 127 then none else some (decodeL l)
def txGo : Nat → List UInt8 → List UInt8 → Option (List UInt8 × List UInt8)
  | 0, _, _ => none
  | n + 1, acc, l => if l.head? = some 34 then some (acc, l.drop 1) else
    match runeL l with
    | none => none
    | some p => txGo n (acc ++ enc p.1) (l.drop p.2)
/-- The bytes that a text's literal says, behind others, up to the closing mark, and what stands behind that. -/
def txs (acc l : List UInt8) : Option (List UInt8 × List UInt8) := txGo (l.length + 1) acc l
def scT (l : List UInt8) : Sc :=
  match txs [] l with
  | none => .bad 3
  | some p => if 200 < p.1.length then .bad 2 else ⟨2, 0, p.1, p.2, 0⟩

/-- Does a word go on at the front? -/
def goesL (l : List UInt8) : Bool := letterN (decodeL l).1 || (decide (48 ≤ (decodeL l).1 ∧ (decodeL l).1 ≤ 57) || ((decodeL l).1 == 95 || (decodeL l).1 == 45))
def scB (n : Int) (l : List UInt8) : Sc := if goesL l = true then .bad 3 else ⟨3, n, [], l, 0⟩
def scn (l : List UInt8) : Sc :=
  if hasPrefix l [34] = true then scT (l.drop 1)
  else if hasPrefix l [120, 39] = true then scX (l.drop 2)
  else if hasPrefix l [116, 114, 117, 101] = true then scB 1 (l.drop 4)
  else if hasPrefix l [102, 97, 108, 115, 101] = true then scB 0 (l.drop 5)
  else if hasPrefix l [45] = true then scI true (l.drop 1) else scI false l

/-! ### digits -/
theorem isD_mem : ∀ b : UInt8, isD b = [48, 49, 50, 51, 52, 53, 54, 55, 56, 57].contains b := by
  intro b
  have key : ∀ n : Fin 256, isD (UInt8.ofNat n.val) = [48, 49, 50, 51, 52, 53, 54, 55, 56, 57].contains (UInt8.ofNat n.val) := by decide +kernel
  have := key ⟨b.toNat, UInt8.toNat_lt b⟩
  simpa using this
theorem digs_drop (l : List UInt8) : l.drop (digs l).length = l.dropWhile isD := by
  unfold digs
  induction l with
  | nil => rfl
  | cons b t ih =>
    by_cases h : isD b = true
    · rw [List.takeWhile_cons_of_pos h, List.dropWhile_cons_of_pos h]
      exact ih
    · rw [List.takeWhile_cons_of_neg h, List.dropWhile_cons_of_neg h]
      rfl
theorem digs_app (l : List UInt8) : digs l ++ l.dropWhile isD = l := List.takeWhile_append_dropWhile
theorem digs_all (l : List UInt8) : ∀ b ∈ digs l, isD b = true := fun b hb => by
  unfold digs at hb
  have h := List.all_takeWhile (p := isD) (l := l)
  exact List.all_eq_true.1 h b hb
theorem numOf_snoc (l : List UInt8) (b : UInt8) : numOf (l ++ [b]) = 10 * numOf l + (b.toNat - 48) := by
  unfold numOf
  rw [List.foldl_append]
  rfl
theorem numOf_lt : ∀ (m : Nat) (l : List UInt8), l.length = m → (∀ b ∈ l, isD b = true) → numOf l < 10 ^ m
  | 0, l, h, _ => by
    obtain rfl : l = [] := List.eq_nil_of_length_eq_zero h
    decide
  | m + 1, l, h, hd => by
    obtain ⟨i, b, rfl⟩ : ∃ i b, l = i ++ [b] := by
      have hne : l ≠ [] := fun e => by subst e; simp at h
      exact ⟨l.dropLast, l.getLast hne, (List.dropLast_concat_getLast hne).symm⟩
    have h1 := numOf_lt m i (by simpa using h) (fun x hx => hd x (List.mem_append_left _ hx))
    have h2 := hd b (by simp)
    simp only [isD, decide_eq_true_eq] at h2
    rw [numOf_snoc, Nat.pow_succ]
    omega
end Go.Proofs.YtdendpckihckeaaGreatDoor
