/- strconv.FormatInt at base 16 of numbers of two digits; value.showRune, showText and Show of a text, at any. -/
import Derived.Test.YtdendpckihckeaaGreatDoorZb2
import Derived.Lib.Strings
import Derived.Lib.Bytealg
import Derived.Shelf.Small.Strs
import Derived.Shelf.Utf8.AppendRune
import Derived.Shelf.Pu.ToError
import Derived.Ground.MpProg
import Derived.Test.YtdendpckihckeaaGreatDoorProg
namespace Go.Proofs.YtdendpckihckeaaGreatDoor
open Go.RowKit

theorem and15' : ∀ n : Fin 256, bits BinOp.and IntKind.u64 (n.val : Int) 15 = ((n.val % 16 : Nat) : Int) := by decide +kernel
abbrev Z65y (x y : Int) : Obj := .cells #[.int .u8 0, .int .u8 0, .int .u8 0, .int .u8 0, .int .u8 0, .int .u8 0, .int .u8 0, .int .u8 0, .int .u8 0, .int .u8 0, .int .u8 0, .int .u8 0, .int .u8 0, .int .u8 0, .int .u8 0, .int .u8 0, .int .u8 0, .int .u8 0, .int .u8 0, .int .u8 0, .int .u8 0, .int .u8 0, .int .u8 0, .int .u8 0, .int .u8 0, .int .u8 0, .int .u8 0, .int .u8 0, .int .u8 0, .int .u8 0, .int .u8 0, .int .u8 0, .int .u8 0, .int .u8 0, .int .u8 0, .int .u8 0, .int .u8 0, .int .u8 0, .int .u8 0, .int .u8 0, .int .u8 0, .int .u8 0, .int .u8 0, .int .u8 0, .int .u8 0, .int .u8 0, .int .u8 0, .int .u8 0, .int .u8 0, .int .u8 0, .int .u8 0, .int .u8 0, .int .u8 0, .int .u8 0, .int .u8 0, .int .u8 0, .int .u8 0, .int .u8 0, .int .u8 0, .int .u8 0, .int .u8 0, .int .u8 0, .int .u8 0, .int .u8 x, .int .u8 y] 152
theorem conv_two (w : World) (x y : Int) : (convert 85 9 (.slice (some ⟨w.heap.size, 63, none⟩) 2 2)).run Tryz.prog (w.alloc (Z65y x y)) = .ok (.string (strOfNums [x, y])) (w.alloc (Z65y x y)) :=
  run_convert_bytes_arg (P := Tryz.prog) _ 85 5 Tryz.underlying85 Tryz.underlying5 w.heap.size 63 2 2 [x, y] rfl (fun i hi => by
    match i, hi with
    | 0, _ => simp
    | 1, _ => simp) 9 Tryz.underlying9
set_option maxRecDepth 100000 in
set_option maxHeartbeats 2000000 in
theorem formatBits_two (n : Nat) (w : World) (h1 : 16 ≤ n) (h2 : n < 256) (h : T16 w) :
    Calls Tryz.prog 122 #[.slice none 0 0, .int .u64 (n : Int), .int .i64 16, .bool false, .bool false] w fun e w' => e = .returned (.tuple #[.slice none 0 0, .string (strOfNums [((dg (n / 16)).toNat : Int), ((dg (n % 16)).toNat : Int)])]) ∧ Below w.heap.size w w' := by
  have hT := T16_below h ((Below.refl _ _).alloc (Nat.le_refl _) Z65)
  go_enter Tryz.func122, Tryz.ntmps122
  go_wp2_with (first | (go_at_call 136; refine (pow2_16 _).mono ?_; rintro e w' ⟨rfl, rfl⟩) | (go_at_call 123; refine (tz_16 _ ?_).mono ?_; exact hT; rintro e w' ⟨rfl, rfl⟩))
  go_loopw [1, 13] (fun u i wr => (u = .int .u64 (n : Int) ∧ i = .int .i64 65 ∧ wr = w.alloc Z65) ∨ (u = .int .u64 ((n / 16 : Nat) : Int) ∧ i = .int .i64 64 ∧ wr = w.alloc (Z65x ((dg (n % 16)).toNat : Int)))) (fun _ i _ => (intOf i).toNat)
  case atStart => exact .inl ⟨rfl, rfl, rfl⟩
  case round =>
    rcases hrel with ⟨rfl, rfl, rfl⟩ | ⟨rfl, rfl, rfl⟩
    · have hd : decide ((16 : Int) ≤ n) = true := by simp; omega
      have hix : n % 16 < DG.size := by have : DG.size = 36 := rfl; omega
      have a15 := and15' ⟨n, h2⟩
      have hdg := dg_at (n % 16) hix
      go_wp2
      exact ⟨.inr ⟨by simp, rfl, trivial⟩, by decide⟩
    · have hd : decide ((16 : Int) ≤ ((n / 16 : Nat) : Int)) = false := by simp; omega
      have hix : n / 16 < DG.size := by have : DG.size = 36 := rfl; omega
      have hdg := dg_at (n / 16) hix
      go_wp2
      rw [conv_two]
      go_wp2
      go_ret2
      exact ⟨rfl, (Below.refl _ _).alloc (Nat.le_refl _) _⟩

theorem formatInt_i2 (n : Nat) (w : World) (h1 : 16 ≤ n) (h2 : n < 256) (h : T16 w) :
    Calls Tryz.prog 99 #[.int .i64 (n : Int), .int .i64 16] w fun e w' => e = .returned (.string (strOfNums [((dg (n / 16)).toNat : Int), ((dg (n % 16)).toNat : Int)])) ∧ Below w.heap.size w w' := by
  have hd : decide ((n : Int) < 0) = false := by simp
  go_enter Tryz.func99, Tryz.ntmps99
  go_wp2_with fail
  refine (formatBits_two n _ h1 h2 h).mono ?_
  rintro e w1 ⟨rfl, hb1⟩
  go_wp2
  go_ret
  exact ⟨rfl, hb1⟩
theorem formatInt_2 (n : Nat) (w : World) (h1 : 16 ≤ n) (h2 : n < 256) (h : T16 w) :
    Calls Tryz.prog 100 #[.int .i64 (n : Int), .int .i64 16] w fun e w' => e = .returned (.string (strOfNums [((dg (n / 16)).toNat : Int), ((dg (n % 16)).toNat : Int)])) ∧ Below w.heap.size w w' := by
  go_enter Tryz.func100, Tryz.ntmps100
  go_wp2_with fail
  refine (formatInt_i2 n _ h1 h2 h).mono ?_
  rintro e w1 ⟨rfl, hb1⟩
  go_wp2
  go_ret
  exact ⟨rfl, hb1⟩
/-- How a rune is shown. -/
def shR (c : Nat) : List UInt8 :=
  if c = 34 then [92, 34] else if c = 92 then [92, 92] else if c = 10 then [92, 110] else if c = 9 then [92, 116] else if c = 13 then [92, 114]
  else if c < 16 then [92, 117, 123, dg c, 125] else if c < 32 ∨ c = 127 then [92, 117, 123, dg (c / 16), dg (c % 16), 125] else enc c
theorem shR_old {c : Nat} (h : c < 16 ∨ (32 ≤ c ∧ c ≠ 127)) : shR c = showR c := by
  unfold shR showR
  by_cases h6 : c < 16
  · simp [h6]
  · rw [if_neg (show ¬ (c < 32 ∨ c = 127) by omega)]
theorem num2 (x y : UInt8) : strOfNums [(x.toNat : Int), (y.toNat : Int)] = str [x, y] := by
  unfold strOfNums str
  simp
theorem brace2 (x y : UInt8) : ((⟨#[92, 117, 123]⟩ : ByteArray) ++ str [x, y]) ++ (⟨#[125]⟩ : ByteArray) = str [92, 117, 123, x, y, 125] := ba_eq (by
  rw [ba_append, ba_append, str_data, str_data]
  rfl)
set_option maxRecDepth 100000 in
set_option maxHeartbeats 2000000 in
theorem showRune_two (c : Nat) (w : World) (ho : (16 ≤ c ∧ c < 32) ∨ c = 127) (hT : T16 w) :
    Calls Tryz.prog 74 #[.int .i32 (c : Int)] w fun e w' => e = .returned (.string (str (shR c))) ∧ Below w.heap.size w w' := by
  have e : shR c = [92, 117, 123, dg (c / 16), dg (c % 16), 125] := by
    unfold shR
    rw [if_neg (by omega), if_neg (by omega), if_neg (by omega), if_neg (by omega), if_neg (by omega), if_neg (by omega), if_pos (by omega)]
  rw [e]
  clear e
  have k1 : ((c : Int) == 34) = false := by rw [beq_eq_false_iff_ne]; omega
  have k2 : ((c : Int) == 92) = false := by rw [beq_eq_false_iff_ne]; omega
  have k3 : ((c : Int) == 10) = false := by rw [beq_eq_false_iff_ne]; omega
  have k4 : ((c : Int) == 9) = false := by rw [beq_eq_false_iff_ne]; omega
  have k5 : ((c : Int) == 13) = false := by rw [beq_eq_false_iff_ne]; omega
  have HF := formatInt_2 c w (by omega) (by omega) hT
  rw [num2] at HF
  have HB := brace2 (dg (c / 16)) (dg (c % 16))
  have hz : (str [dg (c / 16), dg (c % 16)]).size = 2 := rfl
  generalize str [dg (c / 16), dg (c % 16)] = X at *
  rw [← HB]
  rcases ho with ⟨h1, h2⟩ | rfl
  · have k6 : decide ((c : Int) < 32) = true := by simp; omega
    clear HB
    go_enter Tryz.func74, Tryz.ntmps74
    go_wp2_with fail
    refine Calls.mono HF ?_
    rintro e w1 ⟨rfl, hb1⟩
    go_wp2
    go_ret
    exact ⟨rfl, hb1⟩
  · clear HB
    go_enter Tryz.func74, Tryz.ntmps74
    go_wp2_with fail
    refine Calls.mono HF ?_
    rintro e w1 ⟨rfl, hb1⟩
    go_wp2
    go_ret
    exact ⟨rfl, hb1⟩
theorem showRune_all (c : Nat) (w : World) (hs : scal c) (hT : T16 w) :
    Calls Tryz.prog 74 #[.int .i32 (c : Int)] w fun e w' => e = .returned (.string (str (shR c))) ∧ Below w.heap.size w w' := by
  by_cases ho : c < 16 ∨ (32 ≤ c ∧ c ≠ 127)
  · rw [shR_old ho]
    exact showRune_any c w hs ho hT
  · exact showRune_two c w (by omega) hT
end Go.Proofs.YtdendpckihckeaaGreatDoor
/- Literals, read: which value stands at the front of a text, what stands behind it, or the error. Plain, of no program. -/
namespace Go.Proofs.YtdendpckihckeaaGreatDoor
open Go.Lib
set_option maxRecDepth 100000

/-- What reading a literal answers: the value's kind, number and bytes; what stands behind it; the error. -/
structure Sc where
  k : Int
  n : Int
  s : List UInt8
  r : List UInt8
  e : Int
abbrev Sc.bad (e : Int) : Sc := ⟨0, 0, [], [], e⟩

def isD (b : UInt8) : Bool := decide (48 ≤ b.toNat ∧ b.toNat ≤ 57)
/-- The digits at the front. -/
def digs (l : List UInt8) : List UInt8 := l.takeWhile isD
def numOf (l : List UInt8) : Nat := l.foldl (fun n b => 10 * n + (b.toNat - 48)) 0
def scI (neg : Bool) (l : List UInt8) : Sc :=
  if digs l = [] ∨ ((digs l).head? = some 48 ∧ (neg = true ∨ 1 < (digs l).length)) then .bad 3
  else if 16 < (digs l).length ∨ 9007199254740991 < numOf (digs l) then .bad 2
  else ⟨1, if neg = true then -(numOf (digs l) : Int) else numOf (digs l), [], l.drop (digs l).length, 0⟩

/-- A digit of 0 to 9, a to f. -/
def hxd (b : UInt8) : Option Nat := if 48 ≤ b.toNat ∧ b.toNat ≤ 57 then some (b.toNat - 48) else if 97 ≤ b.toNat ∧ b.toNat ≤ 102 then some (b.toNat - 87) else none
/-- The bytes that pairs of digits say, up to the closing mark, and what stands behind that. -/
def hxs : List UInt8 → Option (List UInt8 × List UInt8)
  | [] => none
  | [a] => if a = 39 then some ([], []) else none
  | a :: b :: t => if a = 39 then some ([], b :: t) else
    match hxd a, hxd b with
    | some x, some y => (hxs t).map fun p => (UInt8.ofNat (16 * x + y) :: p.1, p.2)
    | _, _ => none
/-- The same, of the digits alone. -/
def hxp : List UInt8 → Option (List UInt8)
  | [] => some []
  | [_] => none
  | a :: b :: t =>
    match hxd a, hxd b with
    | some x, some y => (hxp t).map fun p => UInt8.ofNat (16 * x + y) :: p
    | _, _ => none
def scX (l : List UInt8) : Sc :=
  match hxs l with
  | none => .bad 3
  | some p => if 200 < p.1.length then .bad 2 else ⟨4, 0, p.1, p.2, 0⟩

/-- The rune whose writing with a back stroke stands at the front. -/
def escL (l : List UInt8) : Option Nat := (List.range 128).find? fun c => decide ((shR c).head? = some 92) && (shR c).isPrefixOf l
/-- The rune at the front of what stands within a text's literal, and how many bytes it is written in. -/
def runeL (l : List UInt8) : Option (Nat × Nat) :=
  if l.head? = some 92 then (escL l).map fun c => (c, (shR c).length)
  else if l = [] ∨ ((decodeL l).1 = 65533 ∧ (decodeL l).2 = 1) ∨ (decodeL l).1 < 32 ∨ (decodeL l).1 = 127 then none else some (decodeL l)
def txGo : Nat → List UInt8 → List UInt8 → Option (List UInt8 × List UInt8)
  | 0, _, _ => none
  | n + 1, acc, l => if l.head? = some 34 then some (acc, l.drop 1) else
    match runeL l with
    | none => none
    | some p => txGo n (acc ++ enc p.1) (l.drop p.2)
/-- The bytes that a text's literal says, behind others, up to the closing mark, and what stands behind that. -/
def txs (acc l : List UInt8) : Option (List UInt8 × List UInt8) := txGo (l.length + 1) acc l
def scT (l : List UInt8) : Sc :=
  match txs [] l with
  | none => .bad 3
  | some p => if 200 < p.1.length then .bad 2 else ⟨2, 0, p.1, p.2, 0⟩

/-- Does a word go on at the front? -/
def goesL (l : List UInt8) : Bool := letterN (decodeL l).1 || (decide (48 ≤ (decodeL l).1 ∧ (decodeL l).1 ≤ 57) || ((decodeL l).1 == 95 || (decodeL l).1 == 45))
def scB (n : Int) (l : List UInt8) : Sc := if goesL l = true then .bad 3 else ⟨3, n, [], l, 0⟩
def scn (l : List UInt8) : Sc :=
  if hasPrefix l [34] = true then scT (l.drop 1)
  else if hasPrefix l [120, 39] = true then scX (l.drop 2)
  else if hasPrefix l [116, 114, 117, 101] = true then scB 1 (l.drop 4)
  else if hasPrefix l [102, 97, 108, 115, 101] = true then scB 0 (l.drop 5)
  else if hasPrefix l [45] = true then scI true (l.drop 1) else scI false l

/-! ### digits -/
theorem isD_mem : ∀ b : UInt8, isD b = [48, 49, 50, 51, 52, 53, 54, 55, 56, 57].contains b := by
  intro b
  have key : ∀ n : Fin 256, isD (UInt8.ofNat n.val) = [48, 49, 50, 51, 52, 53, 54, 55, 56, 57].contains (UInt8.ofNat n.val) := by decide +kernel
  have := key ⟨b.toNat, UInt8.toNat_lt b⟩
  simpa using this
theorem digs_drop (l : List UInt8) : l.drop (digs l).length = l.dropWhile isD := by
  unfold digs
  induction l with
  | nil => rfl
  | cons b t ih =>
    by_cases h : isD b = true
    · rw [List.takeWhile_cons_of_pos h, List.dropWhile_cons_of_pos h]
      exact ih
    · rw [List.takeWhile_cons_of_neg h, List.dropWhile_cons_of_neg h]
      rfl
theorem digs_app (l : List UInt8) : digs l ++ l.dropWhile isD = l := List.takeWhile_append_dropWhile
theorem digs_all (l : List UInt8) : ∀ b ∈ digs l, isD b = true := fun b hb => by
  unfold digs at hb
  have h := List.all_takeWhile (p := isD) (l := l)
  exact List.all_eq_true.1 h b hb
theorem numOf_snoc (l : List UInt8) (b : UInt8) : numOf (l ++ [b]) = 10 * numOf l + (b.toNat - 48) := by
  unfold numOf
  rw [List.foldl_append]
  rfl
theorem numOf_lt : ∀ (m : Nat) (l : List UInt8), l.length = m → (∀ b ∈ l, isD b = true) → numOf l < 10 ^ m
  | 0, l, h, _ => by
    obtain rfl : l = [] := List.eq_nil_of_length_eq_zero h
    decide
  | m + 1, l, h, hd => by
    obtain ⟨i, b, rfl⟩ : ∃ i b, l = i ++ [b] := by
      have hne : l ≠ [] := fun e => by subst e; simp at h
      exact ⟨l.dropLast, l.getLast hne, (List.dropLast_concat_getLast hne).symm⟩
    have h1 := numOf_lt m i (by simpa using h) (fun x hx => hd x (List.mem_append_left _ hx))
    have h2 := hd b (by simp)
    simp only [isD, decide_eq_true_eq] at h2
    rw [numOf_snoc, Nat.pow_succ]
    omega
end Go.Proofs.YtdendpckihckeaaGreatDoor
/- Runes within a text's literal: how they are written, and read. Plain, of no program. -/
namespace Go.Proofs.YtdendpckihckeaaGreatDoor
open Go.Lib
set_option maxRecDepth 100000

theorem esc_uniq : ∀ a b : Fin 128, (shR a.val).head? = some 92 → (shR b.val).head? = some 92 → (shR a.val).isPrefixOf (shR b.val) = true → a = b := by decide +kernel
theorem escL_spec {l : List UInt8} {c : Nat} (h : escL l = some c) : c < 128 ∧ (shR c).head? = some 92 ∧ shR c <+: l := by
  have h1 := List.find?_some h
  have h2 := List.mem_of_find?_eq_some h
  simp only [Bool.and_eq_true, decide_eq_true_eq] at h1
  exact ⟨List.mem_range.1 h2, h1.1, List.isPrefixOf_iff_prefix.1 h1.2⟩
theorem escL_of {l : List UInt8} {c : Nat} (h1 : c < 128) (h2 : (shR c).head? = some 92) (h3 : shR c <+: l) : escL l = some c := by
  have hs : (escL l).isSome := by
    rw [escL, List.find?_isSome]
    exact ⟨c, List.mem_range.2 h1, by simp [h2, List.isPrefixOf_iff_prefix.2 h3]⟩
  obtain ⟨d, hd⟩ := Option.isSome_iff_exists.1 hs
  obtain ⟨d1, d2, d3⟩ := escL_spec hd
  rcases Nat.le_total (shR c).length (shR d).length with hl | hl
  · have := esc_uniq ⟨c, h1⟩ ⟨d, d1⟩ h2 d2 (List.isPrefixOf_iff_prefix.2 (List.prefix_of_prefix_length_le h3 d3 hl))
    rw [hd]
    exact congrArg some (congrArg Fin.val this).symm
  · have := esc_uniq ⟨d, d1⟩ ⟨c, h1⟩ d2 h2 (List.isPrefixOf_iff_prefix.2 (List.prefix_of_prefix_length_le d3 h3 hl))
    rw [hd]
    exact congrArg some (congrArg Fin.val this)
theorem escL_no {l : List UInt8} (h : ∀ c, c < 128 → (shR c).head? = some 92 → ¬ shR c <+: l) : escL l = none := by
  cases e : escL l with
  | none => rfl
  | some c => obtain ⟨a, b, d⟩ := escL_spec e; exact absurd d (h c a b)
theorem esc_q (t : List UInt8) : escL (92 :: 34 :: t) = some 34 := escL_of (by decide) (by decide +kernel) ⟨t, rfl⟩
theorem esc_b (t : List UInt8) : escL (92 :: 92 :: t) = some 92 := escL_of (by decide) (by decide +kernel) ⟨t, rfl⟩
theorem esc_n (t : List UInt8) : escL (92 :: 110 :: t) = some 10 := escL_of (by decide) (by decide +kernel) ⟨t, rfl⟩
theorem esc_t (t : List UInt8) : escL (92 :: 116 :: t) = some 9 := escL_of (by decide) (by decide +kernel) ⟨t, rfl⟩
theorem esc_r (t : List UInt8) : escL (92 :: 114 :: t) = some 13 := escL_of (by decide) (by decide +kernel) ⟨t, rfl⟩
theorem esc_one : escL [92] = none := by decide +kernel
theorem esc_snd : ∀ c : Fin 128, (shR c.val).head? = some 92 → shR c.val = 92 :: (shR c.val).getD 1 0 :: (shR c.val).drop 2 ∧ ((shR c.val).getD 1 0 = 34 ∨ (shR c.val).getD 1 0 = 92 ∨ (shR c.val).getD 1 0 = 110 ∨ (shR c.val).getD 1 0 = 116 ∨ (shR c.val).getD 1 0 = 114 ∨ (shR c.val).getD 1 0 = 117) := by decide +kernel
theorem esc_other {b : UInt8} {t : List UInt8} (h1 : b ≠ 34) (h2 : b ≠ 92) (h3 : b ≠ 110) (h4 : b ≠ 116) (h5 : b ≠ 114) (h6 : b ≠ 117) : escL (92 :: b :: t) = none := by
  refine escL_no fun c hc hh hp => ?_
  obtain ⟨e, h⟩ := esc_snd ⟨c, hc⟩ hh
  simp only at e h
  rw [e] at hp
  obtain ⟨u, hu⟩ := hp
  simp only [List.cons_append, List.cons.injEq] at hu
  obtain ⟨-, e2, -⟩ := hu
  rw [e2] at h
  rcases h with h | h | h | h | h | h
  · exact h1 h
  · exact h2 h
  · exact h3 h
  · exact h4 h
  · exact h5 h
  · exact h6 h

/-- A digit of base 16, as it is parsed. -/
def puD (b : UInt8) : Option Nat := if 48 ≤ b.toNat ∧ b.toNat ≤ 57 then some (b.toNat - 48) else if 97 ≤ (b.toNat ||| 32) ∧ (b.toNat ||| 32) ≤ 102 then some ((b.toNat ||| 32) - 87) else none
def puL : List UInt8 → Option Nat
  | [x] => puD x
  | [x, y] => match puD x, puD y with
    | some a, some b => some (16 * a + b)
    | _, _ => none
  | _ => none
theorem puD_lt {b : UInt8} {n : Nat} (h : puD b = some n) : n < 16 := by
  unfold puD at h
  split at h
  · cases h; omega
  split at h
  · cases h; omega
  · cases h
theorem puL_lt {l : List UInt8} {n : Nat} (h : puL l = some n) : n < 256 := by
  unfold puL at h
  split at h
  · have := puD_lt h; omega
  · rename_i x y
    split at h
    · rename_i a b ha hb
      have := puD_lt ha
      have := puD_lt hb
      cases h
      omega
    · cases h
  · cases h
theorem num_form : ∀ c : Fin 128, (shR c.val).head? = some 92 → (shR c.val).getD 1 0 = 117 →
    (shR c.val = [92, 117, 123, (shR c.val).getD 3 0, 125] ∧ (shR c.val).getD 3 0 ≠ 125 ∧ puL [(shR c.val).getD 3 0] = some c.val) ∨
    (shR c.val = [92, 117, 123, (shR c.val).getD 3 0, (shR c.val).getD 4 0, 125] ∧ (shR c.val).getD 3 0 ≠ 125 ∧ (shR c.val).getD 4 0 ≠ 125 ∧ puL [(shR c.val).getD 3 0, (shR c.val).getD 4 0] = some c.val) := by decide +kernel
theorem num_small : ∀ n : Fin 256, (shR n.val).head? = some 92 → n.val < 128 := by decide +kernel
/-- A rune that stands there by its number. -/
theorem num_at {l u : List UInt8} (hl : l = 92 :: 117 :: u) {c : Nat} (h : escL l = some c) :
    (∃ x t, l = 92 :: 117 :: 123 :: x :: 125 :: t ∧ x ≠ 125 ∧ puL [x] = some c ∧ shR c = [92, 117, 123, x, 125]) ∨
    (∃ x y t, l = 92 :: 117 :: 123 :: x :: y :: 125 :: t ∧ x ≠ 125 ∧ y ≠ 125 ∧ puL [x, y] = some c ∧ shR c = [92, 117, 123, x, y, 125]) := by
  obtain ⟨hc, hh, ⟨t, ht⟩⟩ := escL_spec h
  have e1 := (esc_snd ⟨c, hc⟩ hh).1
  simp only at e1
  have h1 : (shR c).getD 1 0 = 117 := by
    rw [hl, e1] at ht
    simp only [List.cons_append, List.cons.injEq] at ht
    exact ht.2.1
  rcases num_form ⟨c, hc⟩ hh h1 with ⟨e, a, b⟩ | ⟨e, a, b, d⟩
  · simp only at e a b
    exact .inl ⟨_, t, by rw [← ht, e]; rfl, a, b, e⟩
  · simp only at e a b d
    exact .inr ⟨_, _, t, by rw [← ht, e]; rfl, a, b, d, e⟩
theorem ix4 {u : List UInt8} {a b : UInt8} {t : List UInt8} (ha : a ≠ 125) (hb : b ≠ 125) (hu : u = a :: b :: 125 :: t) : indexByte ((92 :: 117 :: u).take 6) 125 = 4 := by
  subst hu
  cases t <;> simp [indexByte, ha, hb]
theorem ix5 {u : List UInt8} {a b c : UInt8} {t : List UInt8} (ha : a ≠ 125) (hb : b ≠ 125) (hc : c ≠ 125) (hu : u = a :: b :: c :: 125 :: t) : indexByte ((92 :: 117 :: u).take 6) 125 = 5 := by
  subst hu
  simp [indexByte, ha, hb, hc]
/-- Where the closing brace stands. -/
theorem ix_cases (u : List UInt8) : indexByte ((92 :: 117 :: u).take 6) 125 < 4 ∨
    (indexByte ((92 :: 117 :: u).take 6) 125 = 4 ∧ ∃ a b t, u = a :: b :: 125 :: t) ∨
    (indexByte ((92 :: 117 :: u).take 6) 125 = 5 ∧ ∃ a b c t, u = a :: b :: c :: 125 :: t) := by
  match u with
  | [] => exact .inl (by decide)
  | [a] => left; simp only [List.take, indexByte]; repeat' split
           all_goals simp_all
  | [a, b] => left; simp only [List.take, indexByte]; repeat' split
              all_goals simp_all
  | [a, b, c] =>
    by_cases ha : a = 125
    · left; simp [ha, indexByte]
    by_cases hb : b = 125
    · left; simp [ha, hb, indexByte]
    by_cases hc : c = 125
    · right; left; subst hc; exact ⟨ix4 ha hb rfl, a, b, [], rfl⟩
    · left; simp [ha, hb, hc, indexByte]
  | a :: b :: c :: d :: t =>
    by_cases ha : a = 125
    · left; simp [ha, indexByte]
    by_cases hb : b = 125
    · left; simp [ha, hb, indexByte]
    by_cases hc : c = 125
    · right; left; subst hc; exact ⟨ix4 ha hb rfl, a, b, _, rfl⟩
    by_cases hd : d = 125
    · right; right; subst hd; exact ⟨ix5 ha hb hc rfl, a, b, c, t, rfl⟩
    · left; simp [ha, hb, hc, hd, indexByte]
theorem esc_num_no {u : List UInt8} (h : indexByte ((92 :: 117 :: u).take 6) 125 < 4) : escL (92 :: 117 :: u) = none := by
  cases e : escL (92 :: 117 :: u) with
  | none => rfl
  | some c =>
    rcases num_at rfl e with ⟨x, t, hl, hx, _, _⟩ | ⟨x, y, t, hl, hx, hy, _, _⟩
    · simp only [List.cons.injEq, true_and] at hl
      rw [ix4 (by decide) hx hl] at h
      omega
    · simp only [List.cons.injEq, true_and] at hl
      rw [ix5 (by decide) hx hy hl] at h
      omega
theorem esc_num1 {a b : UInt8} {t : List UInt8} (hi : indexByte ((92 :: 117 :: a :: b :: 125 :: t).take 6) 125 = 4) : escL (92 :: 117 :: a :: b :: 125 :: t) = (puL [b]).bind fun n => if shR n = [92, 117, a, b, 125] then some n else none := by
  cases e : escL (92 :: 117 :: a :: b :: 125 :: t) with
  | some c =>
    rcases num_at rfl e with ⟨x, t', hl, hx, hp, hs⟩ | ⟨x, y, t', hl, hx, hy, hp, hs⟩
    · simp only [List.cons.injEq, true_and] at hl
      obtain ⟨rfl, rfl, -⟩ := hl
      rw [hp]
      simp [hs]
    · have := ix5 (by decide) hx hy (show a :: b :: 125 :: t = 123 :: x :: y :: 125 :: t' by simpa using hl)
      rw [this] at hi
      omega
  | none =>
    cases hp : puL [b] with
    | none => rfl
    | some n =>
      show none = if _ then _ else _
      rw [if_neg]
      intro hs
      have hlt := num_small ⟨n, puL_lt hp⟩ (by show (shR n).head? = _; rw [hs]; rfl)
      rw [escL_of hlt (by rw [hs]; rfl) (by rw [hs]; exact ⟨t, rfl⟩)] at e
      cases e
theorem esc_num2 {a b c : UInt8} {t : List UInt8} (hi : indexByte ((92 :: 117 :: a :: b :: c :: 125 :: t).take 6) 125 = 5) : escL (92 :: 117 :: a :: b :: c :: 125 :: t) = (puL [b, c]).bind fun n => if shR n = [92, 117, a, b, c, 125] then some n else none := by
  cases e : escL (92 :: 117 :: a :: b :: c :: 125 :: t) with
  | some d =>
    rcases num_at rfl e with ⟨x, t', hl, hx, hp, hs⟩ | ⟨x, y, t', hl, hx, hy, hp, hs⟩
    · have := ix4 (by decide) hx (show a :: b :: c :: 125 :: t = 123 :: x :: 125 :: t' by simpa using hl)
      rw [this] at hi
      omega
    · simp only [List.cons.injEq, true_and] at hl
      obtain ⟨rfl, rfl, rfl, -⟩ := hl
      rw [hp]
      simp [hs]
  | none =>
    cases hp : puL [b, c] with
    | none => rfl
    | some n =>
      show none = if _ then _ else _
      rw [if_neg]
      intro hs
      have hlt := num_small ⟨n, puL_lt hp⟩ (by show (shR n).head? = _; rw [hs]; rfl)
      rw [escL_of hlt (by rw [hs]; rfl) (by rw [hs]; exact ⟨t, rfl⟩)] at e
      cases e

/-! ### a rune within a text -/
theorem shR_plain {c : Nat} (h1 : 32 ≤ c) (h2 : c ≠ 127) (h3 : c ≠ 34) (h4 : c ≠ 92) : shR c = enc c := by
  unfold shR
  rw [if_neg h3, if_neg h4, if_neg (by omega), if_neg (by omega), if_neg (by omega), if_neg (by omega), if_neg (by omega)]
theorem dec_ascii {b : UInt8} {t : List UInt8} (h : b.toNat < 128) : decodeL (b :: t) = (b.toNat, 1) := by
  rw [decodeL_N]
  unfold decodeN
  simp only [List.getD_cons_zero]
  rw [if_pos h]
theorem dec_small {l : List UInt8} {c : Nat} (hne : l ≠ []) (hc : (decodeL l).1 = c) (h : c < 128) : ∃ b t, l = b :: t ∧ b.toNat = c := by
  cases l with
  | nil => exact absurd rfl hne
  | cons b t =>
    refine ⟨b, t, rfl, ?_⟩
    by_cases hb : b.toNat < 128
    · rw [dec_ascii hb] at hc; exact hc
    · exfalso
      rw [decodeL_N] at hc
      unfold decodeN at hc
      simp only [List.getD_cons_zero] at hc
      rw [if_neg hb] at hc
      split at hc
      · split at hc <;> simp only at hc <;> omega
      split at hc
      · split at hc <;> simp only at hc <;> omega
      split at hc
      · split at hc <;> simp only at hc <;> omega
      · simp only at hc; omega
/-- What decodes well is what the rune encodes to. -/
theorem enc_dec {l : List UInt8} (hne : l ≠ []) (h : ¬ ((decodeL l).1 = 65533 ∧ (decodeL l).2 = 1)) : enc (decodeL l).1 = l.take (decodeL l).2 := by
  have he := encode_decode l hne h
  rw [← he]
  have hs := decodeL_scal l
  generalize (decodeL l).1 = c at hs
  by_cases h1 : c < 128
  · rw [enc1 h1, encodeRune, encodeRuneZ_one (by omega) (by omega)]; simp
  by_cases h2 : c < 2048
  · rw [enc2 (by omega) h2, encodeRune, encodeRuneZ_two (by omega) (by omega)]
    simp only [List.map_cons, List.map_nil]
    congr 1
  by_cases h3 : c < 65536
  · rw [enc3 (by omega) h3 hs, encodeRune, encodeRuneZ_three (by unfold scal at hs; omega)]
    simp only [List.map_cons, List.map_nil]
    congr 1
  · rw [enc4 (by omega) hs, encodeRune, encodeRuneZ_four (by omega) (by unfold scal at hs; omega)]
    simp only [List.map_cons, List.map_nil]
    congr 1
/-- What is said of a rune that was read: it is written so. -/
theorem runeL_spec {l : List UInt8} {c d : Nat} (h : runeL l = some (c, d)) (hq : l.head? ≠ some 34) : shR c = l.take d ∧ 1 ≤ d ∧ d ≤ l.length ∧ scal c ∧ (enc c).length ≤ d := by
  unfold runeL at h
  split at h
  · rename_i h92
    cases e : escL l with
    | none => rw [e] at h; cases h
    | some x =>
      rw [e] at h
      simp only [Option.map_some, Option.some.injEq, Prod.mk.injEq] at h
      obtain ⟨rfl, rfl⟩ := h
      obtain ⟨a, b, p⟩ := escL_spec e
      have hl := p.length_le
      have h1 : 1 ≤ (shR x).length := by
        cases hh : shR x with
        | nil => rw [hh] at b; cases b
        | cons _ _ => simp
      exact ⟨List.prefix_iff_eq_take.1 p, h1, hl, .inl (by omega), by rw [enc1 a]; exact h1⟩
  · rename_i h92
    split at h
    · cases h
    · rename_i hn
      simp only [not_or] at hn
      obtain ⟨hne, hbad, h32, h127⟩ := hn
      simp only [Option.some.injEq] at h
      have ed : enc c = l.take d := by have := enc_dec hne hbad; rw [h] at this; exact this
      have hw := decodeL_width l
      have hle := decodeL_le l hne
      rw [h] at hw hle h32 h127
      simp only at hw hle h32 h127
      have h34 : c ≠ 34 := fun e => by
        obtain ⟨b, t, rfl, hb⟩ := dec_small (c := 34) hne (by rw [h]; exact e) (by decide)
        exact hq (by simp only [List.head?_cons]; exact congrArg some (UInt8.toNat_inj.1 hb))
      have h92' : c ≠ 92 := fun e => by
        obtain ⟨b, t, rfl, hb⟩ := dec_small (c := 92) hne (by rw [h]; exact e) (by decide)
        exact h92 (by simp only [List.head?_cons]; exact congrArg some (UInt8.toNat_inj.1 hb))
      have hsc := decodeL_scal l
      rw [h] at hsc
      refine ⟨by rw [shR_plain (by omega) h127 h34 h92', ed], by omega, hle, hsc, ?_⟩
      rw [ed, List.length_take]
      omega
theorem txGo_fuel : ∀ (n m : Nat) (acc l : List UInt8), l.length < n → l.length < m → txGo n acc l = txGo m acc l
  | 0, _, _, _, h, _ => absurd h (by omega)
  | _ + 1, 0, _, _, _, h => absurd h (by omega)
  | n + 1, m + 1, acc, l, hn, hm => by
    unfold txGo
    by_cases hq : l.head? = some 34
    · rw [if_pos hq, if_pos hq]
    · rw [if_neg hq, if_neg hq]
      cases e : runeL l with
      | none => rfl
      | some p =>
        obtain ⟨c, d⟩ := p
        obtain ⟨-, h1, h2, -, -⟩ := runeL_spec e hq
        exact txGo_fuel n m _ _ (by rw [List.length_drop]; omega) (by rw [List.length_drop]; omega)
theorem txs_end {acc l : List UInt8} (h : l.head? = some 34) : txs acc l = some (acc, l.drop 1) := by
  unfold txs txGo
  rw [if_pos h]
theorem txs_none {acc l : List UInt8} (h : l.head? ≠ some 34) (hr : runeL l = none) : txs acc l = none := by
  unfold txs txGo
  rw [if_neg h, hr]
theorem txs_step {acc l : List UInt8} {c d : Nat} (h : l.head? ≠ some 34) (hr : runeL l = some (c, d)) : txs acc l = txs (acc ++ enc c) (l.drop d) := by
  obtain ⟨-, h1, h2, -, -⟩ := runeL_spec hr h
  conv => lhs; unfold txs txGo
  rw [if_neg h, hr]
  exact txGo_fuel _ _ _ _ (by rw [List.length_drop]; omega) (Nat.lt_succ_self _)
end Go.Proofs.YtdendpckihckeaaGreatDoor
/- The shelf's contracts of utf8.AppendRune and strconv.toError, at this program, laid by the shelf's tool in plain words. -/
namespace Go.Proofs
open Go.Shelf
def Tryz.lays242_ren : Go.Shelf.Ren := ⟨fun | 242 => 89 | 278 => 113 | n => n, fun | 37 => 85 | 21 => 21 | 51 => 136 | 4 => 4 | 5 => 5 | 46 => 99 | n => n, fun | n => n⟩
theorem Tryz.lays242 : Go.Proofs.Lays.n242 Tryz.prog Tryz.lays242_ren := {
  mixed := by kernel_rfl
  f242 := Tryz.func89.trans (congrArg some (by kernel_rfl))
  f278 := Tryz.func113.trans (congrArg some (by kernel_rfl))
  t4 := Tryz.underlying4
  a4 := Tryz.isAgg4
  z4 := Tryz.sizeOf4
  v4 := Tryz.zeroValue4
  t5 := Tryz.underlying5
  a5 := Tryz.isAgg5
  z5 := Tryz.sizeOf5
  v5 := Tryz.zeroValue5
  t21 := Tryz.underlying21
  a21 := Tryz.isAgg21
  z21 := Tryz.sizeOf21
  v21 := Tryz.zeroValue21
  t37 := Tryz.underlying85
  a37 := Tryz.isAgg85
  z37 := Tryz.sizeOf85
  v37 := Tryz.zeroValue85
  t46 := Tryz.underlying99
  a46 := Tryz.isAgg99
  z46 := Tryz.sizeOf99
  v46 := Tryz.zeroValue99
  t51 := Tryz.underlying136
  a51 := Tryz.isAgg136
  z51 := Tryz.sizeOf136
  v51 := Tryz.zeroValue136 }
open Go.RowKit in
theorem Tryz.utf8_AppendRune_row (B : Nat) (v : Value) (n : Nat) (xs : List Value) (r : Int) (hr0 : -2147483648 ≤ r) (hr1 : r ≤ 2147483647) (w : World) (hown : w.ownsRowF B 5 1 v n xs) (hlen : n + 4 ≤ 140737488355328) (hBw : B ≤ w.heap.size) :
    Calls Tryz.prog 89 #[v, .int .i32 r] w fun e w' => ∃ v', e = .returned v' ∧ w'.ownsRowF B 5 1 v' (n + (Lib.runeCells r).length) (xs ++ Lib.runeCells r) ∧ ∃ o, (w.alloc o).grownBy w' v.ownBlock := Any.utf8_AppendRune_row Tryz.lays242 (by kernel_rfl) B v n xs r hr0 hr1 w hown hlen hBw
def Tryz.laysPu17_ren : Go.Shelf.Ren := ⟨fun | 17 => 144 | 21 => 151 | 22 => 152 | 23 => 153 | 24 => 154 | 25 => 155 | 27 => 38 | 26 => 156 | 28 => 70 | 29 => 99 | 30 => 119 | 31 => 120 | 32 => 121 | 33 => 122 | 35 => 134 | 34 => 133 | 36 => 135 | 37 => 136 | 38 => 123 | 39 => 137 | 40 => 138 | n => n, fun | 9 => 9 | 3 => 3 | 24 => 91 | 34 => 163 | 4 => 4 | 39 => 165 | 44 => 169 | 37 => 85 | 0 => 0 | 47 => 120 | 50 => 173 | 48 => 171 | 2 => 2 | 52 => 140 | 22 => 128 | 5 => 5 | 55 => 143 | 59 => 151 | 60 => 136 | 20 => 20 | 61 => 152 | 36 => 99 | 65 => 161 | 66 => 162 | 67 => 95 | n => n, fun | 0 => 6 | 1 => 7 | 2 => 3 | 3 => 4 | 4 => 5 | n => n⟩
theorem Tryz.laysPu17 : Go.Proofs.LaysPu.n17 Tryz.prog Tryz.laysPu17_ren := {
  mixed := by kernel_rfl
  f17 := Tryz.func144.trans (congrArg some (by kernel_rfl))
  f21 := Tryz.func151.trans (congrArg some (by kernel_rfl))
  f22 := Tryz.func152.trans (congrArg some (by kernel_rfl))
  f23 := Tryz.func153.trans (congrArg some (by kernel_rfl))
  f24 := Tryz.func154.trans (congrArg some (by kernel_rfl))
  f25 := Tryz.func155.trans (congrArg some (by kernel_rfl))
  f26 := Tryz.func156.trans (congrArg some (by kernel_rfl))
  f27 := Tryz.func38.trans (congrArg some (by kernel_rfl))
  f28 := Tryz.func70.trans (congrArg some (by kernel_rfl))
  f29 := Tryz.func99.trans (congrArg some (by kernel_rfl))
  f30 := Tryz.func119.trans (congrArg some (by kernel_rfl))
  f31 := Tryz.func120.trans (congrArg some (by kernel_rfl))
  f32 := Tryz.func121.trans (congrArg some (by kernel_rfl))
  f33 := Tryz.func122.trans (congrArg some (by kernel_rfl))
  f34 := Tryz.func133.trans (congrArg some (by kernel_rfl))
  f35 := Tryz.func134.trans (congrArg some (by kernel_rfl))
  f36 := Tryz.func135.trans (congrArg some (by kernel_rfl))
  f37 := Tryz.func136.trans (congrArg some (by kernel_rfl))
  f38 := Tryz.func123.trans (congrArg some (by kernel_rfl))
  f39 := Tryz.func137.trans (congrArg some (by kernel_rfl))
  f40 := Tryz.func138.trans (congrArg some (by kernel_rfl))
  t0 := Tryz.underlying0
  a0 := Tryz.isAgg0
  z0 := Tryz.sizeOf0
  v0 := Tryz.zeroValue0
  i0 := by kernel_rfl
  t2 := Tryz.underlying2
  a2 := Tryz.isAgg2
  z2 := Tryz.sizeOf2
  v2 := Tryz.zeroValue2
  i2 := by kernel_rfl
  t3 := Tryz.underlying3
  a3 := Tryz.isAgg3
  z3 := Tryz.sizeOf3
  v3 := Tryz.zeroValue3
  i3 := by kernel_rfl
  t4 := Tryz.underlying4
  a4 := Tryz.isAgg4
  z4 := Tryz.sizeOf4
  v4 := Tryz.zeroValue4
  i4 := by kernel_rfl
  t5 := Tryz.underlying5
  a5 := Tryz.isAgg5
  z5 := Tryz.sizeOf5
  v5 := Tryz.zeroValue5
  i5 := by kernel_rfl
  t9 := Tryz.underlying9
  a9 := Tryz.isAgg9
  z9 := Tryz.sizeOf9
  v9 := Tryz.zeroValue9
  i9 := by kernel_rfl
  t20 := Tryz.underlying20
  a20 := Tryz.isAgg20
  z20 := Tryz.sizeOf20
  v20 := Tryz.zeroValue20
  i20 := by kernel_rfl
  t22 := Tryz.underlying128
  a22 := Tryz.isAgg128
  z22 := Tryz.sizeOf128
  v22 := Tryz.zeroValue128
  i22 := by kernel_rfl
  t24 := Tryz.underlying91
  a24 := Tryz.isAgg91
  z24 := Tryz.sizeOf91
  v24 := Tryz.zeroValue91
  i24 := by kernel_rfl
  t34 := Tryz.underlying163
  a34 := Tryz.isAgg163
  z34 := Tryz.sizeOf163
  v34 := Tryz.zeroValue163
  i34 := by kernel_rfl
  c34 := by kernel_rfl
  t36 := Tryz.underlying99
  a36 := Tryz.isAgg99
  z36 := Tryz.sizeOf99
  v36 := Tryz.zeroValue99
  i36 := by kernel_rfl
  t37 := Tryz.underlying85
  a37 := Tryz.isAgg85
  z37 := Tryz.sizeOf85
  v37 := Tryz.zeroValue85
  i37 := by kernel_rfl
  t39 := Tryz.underlying165
  a39 := Tryz.isAgg165
  z39 := Tryz.sizeOf165
  v39 := Tryz.zeroValue165
  i39 := by kernel_rfl
  t44 := Tryz.underlying169
  a44 := Tryz.isAgg169
  z44 := Tryz.sizeOf169
  v44 := Tryz.zeroValue169
  i44 := by kernel_rfl
  t47 := Tryz.underlying120
  a47 := Tryz.isAgg120
  z47 := Tryz.sizeOf120
  v47 := Tryz.zeroValue120
  i47 := by kernel_rfl
  t48 := Tryz.underlying171
  a48 := Tryz.isAgg171
  z48 := Tryz.sizeOf171
  v48 := Tryz.zeroValue171
  i48 := by kernel_rfl
  t50 := Tryz.underlying173
  a50 := Tryz.isAgg173
  z50 := Tryz.sizeOf173
  v50 := Tryz.zeroValue173
  i50 := by kernel_rfl
  t52 := Tryz.underlying140
  a52 := Tryz.isAgg140
  z52 := Tryz.sizeOf140
  v52 := Tryz.zeroValue140
  i52 := by kernel_rfl
  t55 := Tryz.underlying143
  a55 := Tryz.isAgg143
  z55 := Tryz.sizeOf143
  v55 := Tryz.zeroValue143
  i55 := by kernel_rfl
  t59 := Tryz.underlying151
  a59 := Tryz.isAgg151
  z59 := Tryz.sizeOf151
  v59 := Tryz.zeroValue151
  i59 := by kernel_rfl
  t60 := Tryz.underlying136
  a60 := Tryz.isAgg136
  z60 := Tryz.sizeOf136
  v60 := Tryz.zeroValue136
  i60 := by kernel_rfl
  t61 := Tryz.underlying152
  a61 := Tryz.isAgg152
  z61 := Tryz.sizeOf152
  t65 := Tryz.underlying161
  a65 := Tryz.isAgg161
  z65 := Tryz.sizeOf161
  v65 := Tryz.zeroValue161
  i65 := by kernel_rfl
  t66 := Tryz.underlying162
  a66 := Tryz.isAgg162
  z66 := Tryz.sizeOf162
  v66 := Tryz.zeroValue162
  i66 := by kernel_rfl
  t67 := Tryz.underlying95
  a67 := Tryz.isAgg95
  z67 := Tryz.sizeOf95
  v67 := Tryz.zeroValue95
  i67 := by kernel_rfl
  g0 := by kernel_rfl
  m0 := by kernel_rfl
  g1 := by kernel_rfl
  m1 := by kernel_rfl
  g2 := by kernel_rfl
  m2 := by kernel_rfl
  g3 := by kernel_rfl
  m3 := by kernel_rfl
  g4 := by kernel_rfl
  m4 := by kernel_rfl }
open Go.RowKit in
theorem Tryz.strconv_toError_syntax (fn s : ByteArray) (base bits : Int) (ev : Value) (w : World) (hlim : s.size ≤ 281474976710656) (hv : w.cell? ⟨6, 0, none⟩ = some ev) (hev : ev = .nilIface ∨ ∃ te pe, ev = .iface te pe) :
    Calls Tryz.prog 144 #[.string fn, .string s, .int .i64 base, .int .i64 bits, .iface 163 (.int .i64 2)] w fun e w' => ∃ N, e = .returned (.iface 165 (.pointer (some ⟨N, 0, none⟩))) ∧ w.heap.size ≤ N ∧ w'.heap[N]? = some (.cells #[.string fn, .string s, ev] 169 (0, 0)) ∧ Below w.heap.size w w' := AnyPu.strconv_toError_syntax Tryz.laysPu17 fn s base bits ev w hlim hv hev
end Go.Proofs
