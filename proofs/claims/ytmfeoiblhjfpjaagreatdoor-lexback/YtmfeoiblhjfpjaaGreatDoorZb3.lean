/- strconv.FormatInt at base 16 of numbers of two digits; value.showRune, showText and Show of a text, at any. -/
import Derived.Test.YtmfeoiblhjfpjaaGreatDoorZb2
import Derived.Lib.Strings
import Derived.Lib.Bytealg
import Derived.Lib.ItoaNum
namespace Go.Proofs.YtmfeoiblhjfpjaaGreatDoor
open Go.RowKit

theorem and15' : ∀ n : Fin 256, bits BinOp.and IntKind.u64 (n.val : Int) 15 = ((n.val % 16 : Nat) : Int) := by decide +kernel
abbrev Z65y (x y : Int) : Obj := .cells #[.int .u8 0, .int .u8 0, .int .u8 0, .int .u8 0, .int .u8 0, .int .u8 0, .int .u8 0, .int .u8 0, .int .u8 0, .int .u8 0, .int .u8 0, .int .u8 0, .int .u8 0, .int .u8 0, .int .u8 0, .int .u8 0, .int .u8 0, .int .u8 0, .int .u8 0, .int .u8 0, .int .u8 0, .int .u8 0, .int .u8 0, .int .u8 0, .int .u8 0, .int .u8 0, .int .u8 0, .int .u8 0, .int .u8 0, .int .u8 0, .int .u8 0, .int .u8 0, .int .u8 0, .int .u8 0, .int .u8 0, .int .u8 0, .int .u8 0, .int .u8 0, .int .u8 0, .int .u8 0, .int .u8 0, .int .u8 0, .int .u8 0, .int .u8 0, .int .u8 0, .int .u8 0, .int .u8 0, .int .u8 0, .int .u8 0, .int .u8 0, .int .u8 0, .int .u8 0, .int .u8 0, .int .u8 0, .int .u8 0, .int .u8 0, .int .u8 0, .int .u8 0, .int .u8 0, .int .u8 0, .int .u8 0, .int .u8 0, .int .u8 0, .int .u8 x, .int .u8 y] 124
theorem conv_two (w : World) (x y : Int) : (convert 63 9 (.slice (some ⟨w.heap.size, 63, none⟩) 2 2)).run Tryz.prog (w.alloc (Z65y x y)) = .ok (.string (strOfNums [x, y])) (w.alloc (Z65y x y)) :=
  run_convert_bytes_arg (P := Tryz.prog) _ 63 5 Tryz.underlying63 Tryz.underlying5 w.heap.size 63 2 2 [x, y] rfl (fun i hi => by
    match i, hi with
    | 0, _ => simp
    | 1, _ => simp) 9 Tryz.underlying9
set_option maxRecDepth 100000 in
set_option maxHeartbeats 2000000 in
theorem formatBits_two (n : Nat) (w : World) (h1 : 16 ≤ n) (h2 : n < 256) (h : T16 w) :
    Calls Tryz.prog 90 #[.slice none 0 0, .int .u64 (n : Int), .int .i64 16, .bool false, .bool false] w fun e w' => e = .returned (.tuple #[.slice none 0 0, .string (strOfNums [((dg (n / 16)).toNat : Int), ((dg (n % 16)).toNat : Int)])]) ∧ Below w.heap.size w w' := by
  have hT := T16_below h ((Below.refl _ _).alloc (Nat.le_refl _) Z65)
  go_enter Tryz.func90, Tryz.ntmps90
  go_wp2_with (first | (go_at_call 99; refine (pow2_16 _).mono ?_; rintro e w' ⟨rfl, rfl⟩) | (go_at_call 100; refine (tz_16 _ ?_).mono ?_; exact hT; rintro e w' ⟨rfl, rfl⟩))
  go_loopw [1, 13] (fun u i wr => (u = .int .u64 (n : Int) ∧ i = .int .i64 65 ∧ wr = w.alloc Z65) ∨ (u = .int .u64 ((n / 16 : Nat) : Int) ∧ i = .int .i64 64 ∧ wr = w.alloc (Z65x ((dg (n % 16)).toNat : Int)))) (fun _ i _ => (intOf i).toNat)
  case atStart => exact .inl ⟨rfl, rfl, rfl⟩
  case round =>
    rcases hrel with ⟨rfl, rfl, rfl⟩ | ⟨rfl, rfl, rfl⟩
    · have hd : decide ((16 : Int) ≤ n) = true := by simp; omega
      have hix : n % 16 < DG.size := by have : DG.size = 36 := rfl; omega
      have a15 := and15' ⟨n, h2⟩
      have hdg := dg_at (n % 16) hix
      go_wp2
      exact ⟨.inr ⟨by simp, rfl, trivial⟩, by decide⟩
    · have hd : decide ((16 : Int) ≤ ((n / 16 : Nat) : Int)) = false := by simp; omega
      have hix : n / 16 < DG.size := by have : DG.size = 36 := rfl; omega
      have hdg := dg_at (n / 16) hix
      go_wp2
      rw [conv_two]
      go_wp2
      go_ret2
      exact ⟨rfl, (Below.refl _ _).alloc (Nat.le_refl _) _⟩

theorem formatInt_i2 (n : Nat) (w : World) (h1 : 16 ≤ n) (h2 : n < 256) (h : T16 w) :
    Calls Tryz.prog 78 #[.int .i64 (n : Int), .int .i64 16] w fun e w' => e = .returned (.string (strOfNums [((dg (n / 16)).toNat : Int), ((dg (n % 16)).toNat : Int)])) ∧ Below w.heap.size w w' := by
  have hd : decide ((n : Int) < 0) = false := by simp
  go_enter Tryz.func78, Tryz.ntmps78
  go_wp2_with fail
  refine (formatBits_two n _ h1 h2 h).mono ?_
  rintro e w1 ⟨rfl, hb1⟩
  go_wp2
  go_ret
  exact ⟨rfl, hb1⟩
theorem formatInt_2 (n : Nat) (w : World) (h1 : 16 ≤ n) (h2 : n < 256) (h : T16 w) :
    Calls Tryz.prog 79 #[.int .i64 (n : Int), .int .i64 16] w fun e w' => e = .returned (.string (strOfNums [((dg (n / 16)).toNat : Int), ((dg (n % 16)).toNat : Int)])) ∧ Below w.heap.size w w' := by
  go_enter Tryz.func79, Tryz.ntmps79
  go_wp2_with fail
  refine (formatInt_i2 n _ h1 h2 h).mono ?_
  rintro e w1 ⟨rfl, hb1⟩
  go_wp2
  go_ret
  exact ⟨rfl, hb1⟩
/-- How a rune is shown. -/
def shR (c : Nat) : List UInt8 :=
  if c = 34 then [92, 34] else if c = 92 then [92, 92] else if c = 10 then [92, 110] else if c = 9 then [92, 116] else if c = 13 then [92, 114]
  else if c < 16 then [92, 117, 123, dg c, 125] else if c < 32 ∨ c = 127 then [92, 117, 123, dg (c / 16), dg (c % 16), 125] else enc c
theorem shR_old {c : Nat} (h : c < 16 ∨ (32 ≤ c ∧ c ≠ 127)) : shR c = showR c := by
  unfold shR showR
  by_cases h6 : c < 16
  · simp [h6]
  · rw [if_neg (show ¬ (c < 32 ∨ c = 127) by omega)]
theorem num2 (x y : UInt8) : strOfNums [(x.toNat : Int), (y.toNat : Int)] = str [x, y] := by
  unfold strOfNums str
  simp
theorem brace2 (x y : UInt8) : ((⟨#[92, 117, 123]⟩ : ByteArray) ++ str [x, y]) ++ (⟨#[125]⟩ : ByteArray) = str [92, 117, 123, x, y, 125] := ba_eq (by
  rw [ba_append, ba_append, str_data, str_data]
  rfl)
set_option maxRecDepth 100000 in
set_option maxHeartbeats 2000000 in
theorem showRune_two (c : Nat) (w : World) (ho : (16 ≤ c ∧ c < 32) ∨ c = 127) (hT : T16 w) :
    Calls Tryz.prog 62 #[.int .i32 (c : Int)] w fun e w' => e = .returned (.string (str (shR c))) ∧ Below w.heap.size w w' := by
  have e : shR c = [92, 117, 123, dg (c / 16), dg (c % 16), 125] := by
    unfold shR
    rw [if_neg (by omega), if_neg (by omega), if_neg (by omega), if_neg (by omega), if_neg (by omega), if_neg (by omega), if_pos (by omega)]
  rw [e]
  clear e
  have k1 : ((c : Int) == 34) = false := by rw [beq_eq_false_iff_ne]; omega
  have k2 : ((c : Int) == 92) = false := by rw [beq_eq_false_iff_ne]; omega
  have k3 : ((c : Int) == 10) = false := by rw [beq_eq_false_iff_ne]; omega
  have k4 : ((c : Int) == 9) = false := by rw [beq_eq_false_iff_ne]; omega
  have k5 : ((c : Int) == 13) = false := by rw [beq_eq_false_iff_ne]; omega
  have HF := formatInt_2 c w (by omega) (by omega) hT
  rw [num2] at HF
  have HB := brace2 (dg (c / 16)) (dg (c % 16))
  have hz : (str [dg (c / 16), dg (c % 16)]).size = 2 := rfl
  generalize str [dg (c / 16), dg (c % 16)] = X at *
  rw [← HB]
  rcases ho with ⟨h1, h2⟩ | rfl
  · have k6 : decide ((c : Int) < 32) = true := by simp; omega
    clear HB
    go_enter Tryz.func62, Tryz.ntmps62
    go_wp2_with fail
    refine Calls.mono HF ?_
    rintro e w1 ⟨rfl, hb1⟩
    go_wp2
    go_ret
    exact ⟨rfl, hb1⟩
  · clear HB
    go_enter Tryz.func62, Tryz.ntmps62
    go_wp2_with fail
    refine Calls.mono HF ?_
    rintro e w1 ⟨rfl, hb1⟩
    go_wp2
    go_ret
    exact ⟨rfl, hb1⟩
theorem showRune_all (c : Nat) (w : World) (hs : scal c) (hT : T16 w) :
    Calls Tryz.prog 62 #[.int .i32 (c : Int)] w fun e w' => e = .returned (.string (str (shR c))) ∧ Below w.heap.size w w' := by
  by_cases ho : c < 16 ∨ (32 ≤ c ∧ c ≠ 127)
  · rw [shR_old ho]
    exact showRune_any c w hs ho hT
  · exact showRune_two c w (by omega) hT
end Go.Proofs.YtmfeoiblhjfpjaaGreatDoor
/- Literals, read: which value stands at the front of a text, what stands behind it, or the error. Plain, of no program. -/
namespace Go.Proofs.YtmfeoiblhjfpjaaGreatDoor
open Go.Lib
set_option maxRecDepth 100000

/-- What reading a literal answers: the value's kind, number and bytes; what stands behind it; the error. -/
structure Sc where
  k : Int
  n : Int
  s : List UInt8
  r : List UInt8
  e : Int
abbrev Sc.bad (e : Int) : Sc := ⟨0, 0, [], [], e⟩

def isD (b : UInt8) : Bool := decide (48 ≤ b.toNat ∧ b.toNat ≤ 57)
/-- The digits at the front. -/
def digs (l : List UInt8) : List UInt8 := l.takeWhile isD
def numOf (l : List UInt8) : Nat := l.foldl (fun n b => 10 * n + (b.toNat - 48)) 0
def scI (neg : Bool) (l : List UInt8) : Sc :=
  if digs l = [] ∨ ((digs l).head? = some 48 ∧ (neg = true ∨ 1 < (digs l).length)) then .bad 3
  else if 16 < (digs l).length ∨ 9007199254740991 < numOf (digs l) then .bad 2
  else ⟨1, if neg = true then -(numOf (digs l) : Int) else numOf (digs l), [], l.drop (digs l).length, 0⟩

/-- A digit of 0 to 9, a to f. -/
def hxd (b : UInt8) : Option Nat := if 48 ≤ b.toNat ∧ b.toNat ≤ 57 then some (b.toNat - 48) else if 97 ≤ b.toNat ∧ b.toNat ≤ 102 then some (b.toNat - 87) else none
/-- The bytes that pairs of digits say, up to the closing mark, and what stands behind that. -/
def hxs : List UInt8 → Option (List UInt8 × List UInt8)
  | [] => none
  | [a] => if a = 39 then some ([], []) else none
  | a :: b :: t => if a = 39 then some ([], b :: t) else
    match hxd a, hxd b with
    | some x, some y => (hxs t).map fun p => (UInt8.ofNat (16 * x + y) :: p.1, p.2)
    | _, _ => none
/-- The same, of the digits alone. -/
def hxp : List UInt8 → Option (List UInt8)
  | [] => some []
  | [_] => none
  | a :: b :: t =>
    match hxd a, hxd b with
    | some x, some y => (hxp t).map fun p => UInt8.ofNat (16 * x + y) :: p
    | _, _ => none
def scX (l : List UInt8) : Sc :=
  match hxs l with
  | none => .bad 3
  | some p => if 200 < p.1.length then .bad 2 else ⟨4, 0, p.1, p.2, 0⟩

/-- The rune whose writing with a back stroke stands at the front. -/
def escL (l : List UInt8) : Option Nat := (List.range 128).find? fun c => decide ((shR c).head? = some 92) && (shR c).isPrefixOf l
/-- The rune at the front of what stands within a text's literal, and how many bytes it is written in. -/
def runeL (l : List UInt8) : Option (Nat × Nat) :=
  if l.head? = some 92 then (escL l).map fun c => (c, (shR c).length)
  else if l = [] ∨ ((decodeL l).1 = 65533 ∧ (decodeL l).2 = 1) ∨ (decodeL l).1 < 32 ∨ (decodeL l).1 = 127 then none else some (decodeL l)
def txGo : Nat → List UInt8 → List UInt8 → Option (List UInt8 × List UInt8)
  | 0, _, _ => none
  | n + 1, acc, l => if l.head? = some 34 then some (acc, l.drop 1) else
    match runeL l with
    | none => none
    | some p => txGo n (acc ++ enc p.1) (l.drop p.2)
/-- The bytes that a text's literal says, behind others, up to the closing mark, and what stands behind that. -/
def txs (acc l : List UInt8) : Option (List UInt8 × List UInt8) := txGo (l.length + 1) acc l
def scT (l : List UInt8) : Sc :=
  match txs [] l with
  | none => .bad 3
  | some p => if 200 < p.1.length then .bad 2 else ⟨2, 0, p.1, p.2, 0⟩

/-- Does a word go on at the front? -/
def goesL (l : List UInt8) : Bool := letterN (decodeL l).1 || (decide (48 ≤ (decodeL l).1 ∧ (decodeL l).1 ≤ 57) || ((decodeL l).1 == 95 || (decodeL l).1 == 45))
def scB (n : Int) (l : List UInt8) : Sc := if goesL l = true then .bad 3 else ⟨3, n, [], l, 0⟩
def scn (l : List UInt8) : Sc :=
  if hasPrefix l [34] = true then scT (l.drop 1)
  else if hasPrefix l [120, 39] = true then scX (l.drop 2)
  else if hasPrefix l [116, 114, 117, 101] = true then scB 1 (l.drop 4)
  else if hasPrefix l [102, 97, 108, 115, 101] = true then scB 0 (l.drop 5)
  else if hasPrefix l [45] = true then scI true (l.drop 1) else scI false l

/-! ### digits -/
theorem isD_mem : ∀ b : UInt8, isD b = [48, 49, 50, 51, 52, 53, 54, 55, 56, 57].contains b := by
  intro b
  have key : ∀ n : Fin 256, isD (UInt8.ofNat n.val) = [48, 49, 50, 51, 52, 53, 54, 55, 56, 57].contains (UInt8.ofNat n.val) := by decide +kernel
  have := key ⟨b.toNat, UInt8.toNat_lt b⟩
  simpa using this
theorem digs_drop (l : List UInt8) : l.drop (digs l).length = l.dropWhile isD := by
  unfold digs
  induction l with
  | nil => rfl
  | cons b t ih =>
    by_cases h : isD b = true
    · rw [List.takeWhile_cons_of_pos h, List.dropWhile_cons_of_pos h]
      exact ih
    · rw [List.takeWhile_cons_of_neg h, List.dropWhile_cons_of_neg h]
      rfl
theorem digs_app (l : List UInt8) : digs l ++ l.dropWhile isD = l := List.takeWhile_append_dropWhile
theorem digs_all (l : List UInt8) : ∀ b ∈ digs l, isD b = true := fun b hb => by
  unfold digs at hb
  have h := List.all_takeWhile (p := isD) (l := l)
  exact List.all_eq_true.1 h b hb
theorem numOf_snoc (l : List UInt8) (b : UInt8) : numOf (l ++ [b]) = 10 * numOf l + (b.toNat - 48) := by
  unfold numOf
  rw [List.foldl_append]
  rfl
theorem numOf_lt : ∀ (m : Nat) (l : List UInt8), l.length = m → (∀ b ∈ l, isD b = true) → numOf l < 10 ^ m
  | 0, l, h, _ => by
    obtain rfl : l = [] := List.eq_nil_of_length_eq_zero h
    decide
  | m + 1, l, h, hd => by
    obtain ⟨i, b, rfl⟩ : ∃ i b, l = i ++ [b] := by
      have hne : l ≠ [] := fun e => by subst e; simp at h
      exact ⟨l.dropLast, l.getLast hne, (List.dropLast_concat_getLast hne).symm⟩
    have h1 := numOf_lt m i (by simpa using h) (fun x hx => hd x (List.mem_append_left _ hx))
    have h2 := hd b (by simp)
    simp only [isD, decide_eq_true_eq] at h2
    rw [numOf_snoc, Nat.pow_succ]
    omega
end Go.Proofs.YtmfeoiblhjfpjaaGreatDoor
/- Runes within a text's literal: how they are written, and read. Plain, of no program. -/
namespace Go.Proofs.YtmfeoiblhjfpjaaGreatDoor
open Go.Lib
set_option maxRecDepth 100000

theorem esc_uniq : ∀ a b : Fin 128, (shR a.val).head? = some 92 → (shR b.val).head? = some 92 → (shR a.val).isPrefixOf (shR b.val) = true → a = b := by decide +kernel
theorem escL_spec {l : List UInt8} {c : Nat} (h : escL l = some c) : c < 128 ∧ (shR c).head? = some 92 ∧ shR c <+: l := by
  have h1 := List.find?_some h
  have h2 := List.mem_of_find?_eq_some h
  simp only [Bool.and_eq_true, decide_eq_true_eq] at h1
  exact ⟨List.mem_range.1 h2, h1.1, List.isPrefixOf_iff_prefix.1 h1.2⟩
theorem escL_of {l : List UInt8} {c : Nat} (h1 : c < 128) (h2 : (shR c).head? = some 92) (h3 : shR c <+: l) : escL l = some c := by
  have hs : (escL l).isSome := by
    rw [escL, List.find?_isSome]
    exact ⟨c, List.mem_range.2 h1, by simp [h2, List.isPrefixOf_iff_prefix.2 h3]⟩
  obtain ⟨d, hd⟩ := Option.isSome_iff_exists.1 hs
  obtain ⟨d1, d2, d3⟩ := escL_spec hd
  rcases Nat.le_total (shR c).length (shR d).length with hl | hl
  · have := esc_uniq ⟨c, h1⟩ ⟨d, d1⟩ h2 d2 (List.isPrefixOf_iff_prefix.2 (List.prefix_of_prefix_length_le h3 d3 hl))
    rw [hd]
    exact congrArg some (congrArg Fin.val this).symm
  · have := esc_uniq ⟨d, d1⟩ ⟨c, h1⟩ d2 h2 (List.isPrefixOf_iff_prefix.2 (List.prefix_of_prefix_length_le d3 h3 hl))
    rw [hd]
    exact congrArg some (congrArg Fin.val this)
theorem escL_no {l : List UInt8} (h : ∀ c, c < 128 → (shR c).head? = some 92 → ¬ shR c <+: l) : escL l = none := by
  cases e : escL l with
  | none => rfl
  | some c => obtain ⟨a, b, d⟩ := escL_spec e; exact absurd d (h c a b)
theorem esc_q (t : List UInt8) : escL (92 :: 34 :: t) = some 34 := escL_of (by decide) (by decide +kernel) ⟨t, rfl⟩
theorem esc_b (t : List UInt8) : escL (92 :: 92 :: t) = some 92 := escL_of (by decide) (by decide +kernel) ⟨t, rfl⟩
theorem esc_n (t : List UInt8) : escL (92 :: 110 :: t) = some 10 := escL_of (by decide) (by decide +kernel) ⟨t, rfl⟩
theorem esc_t (t : List UInt8) : escL (92 :: 116 :: t) = some 9 := escL_of (by decide) (by decide +kernel) ⟨t, rfl⟩
theorem esc_r (t : List UInt8) : escL (92 :: 114 :: t) = some 13 := escL_of (by decide) (by decide +kernel) ⟨t, rfl⟩
theorem esc_one : escL [92] = none := by decide +kernel
theorem esc_snd : ∀ c : Fin 128, (shR c.val).head? = some 92 → shR c.val = 92 :: (shR c.val).getD 1 0 :: (shR c.val).drop 2 ∧ ((shR c.val).getD 1 0 = 34 ∨ (shR c.val).getD 1 0 = 92 ∨ (shR c.val).getD 1 0 = 110 ∨ (shR c.val).getD 1 0 = 116 ∨ (shR c.val).getD 1 0 = 114 ∨ (shR c.val).getD 1 0 = 117) := by decide +kernel
theorem esc_other {b : UInt8} {t : List UInt8} (h1 : b ≠ 34) (h2 : b ≠ 92) (h3 : b ≠ 110) (h4 : b ≠ 116) (h5 : b ≠ 114) (h6 : b ≠ 117) : escL (92 :: b :: t) = none := by
  refine escL_no fun c hc hh hp => ?_
  obtain ⟨e, h⟩ := esc_snd ⟨c, hc⟩ hh
  simp only at e h
  rw [e] at hp
  obtain ⟨u, hu⟩ := hp
  simp only [List.cons_append, List.cons.injEq] at hu
  obtain ⟨-, e2, -⟩ := hu
  rw [e2] at h
  rcases h with h | h | h | h | h | h
  · exact h1 h
  · exact h2 h
  · exact h3 h
  · exact h4 h
  · exact h5 h
  · exact h6 h

/-- A digit of base 16, as it is parsed. -/
def puD (b : UInt8) : Option Nat := if 48 ≤ b.toNat ∧ b.toNat ≤ 57 then some (b.toNat - 48) else if 97 ≤ (b.toNat ||| 32) ∧ (b.toNat ||| 32) ≤ 102 then some ((b.toNat ||| 32) - 87) else none
def puL : List UInt8 → Option Nat
  | [x] => puD x
  | [x, y] => match puD x, puD y with
    | some a, some b => some (16 * a + b)
    | _, _ => none
  | _ => none
theorem puD_lt {b : UInt8} {n : Nat} (h : puD b = some n) : n < 16 := by
  unfold puD at h
  split at h
  · cases h; omega
  split at h
  · cases h; omega
  · cases h
theorem puL_lt {l : List UInt8} {n : Nat} (h : puL l = some n) : n < 256 := by
  unfold puL at h
  split at h
  · have := puD_lt h; omega
  · rename_i x y
    split at h
    · rename_i a b ha hb
      have := puD_lt ha
      have := puD_lt hb
      cases h
      omega
    · cases h
  · cases h
theorem num_form : ∀ c : Fin 128, (shR c.val).head? = some 92 → (shR c.val).getD 1 0 = 117 →
    (shR c.val = [92, 117, 123, (shR c.val).getD 3 0, 125] ∧ (shR c.val).getD 3 0 ≠ 125 ∧ puL [(shR c.val).getD 3 0] = some c.val) ∨
    (shR c.val = [92, 117, 123, (shR c.val).getD 3 0, (shR c.val).getD 4 0, 125] ∧ (shR c.val).getD 3 0 ≠ 125 ∧ (shR c.val).getD 4 0 ≠ 125 ∧ puL [(shR c.val).getD 3 0, (shR c.val).getD 4 0] = some c.val) := by decide +kernel
theorem num_small : ∀ n : Fin 256, (shR n.val).head? = some 92 → n.val < 128 := by decide +kernel
/-- A rune that stands there by its number. -/
theorem num_at {l u : List UInt8} (hl : l = 92 :: 117 :: u) {c : Nat} (h : escL l = some c) :
    (∃ x t, l = 92 :: 117 :: 123 :: x :: 125 :: t ∧ x ≠ 125 ∧ puL [x] = some c ∧ shR c = [92, 117, 123, x, 125]) ∨
    (∃ x y t, l = 92 :: 117 :: 123 :: x :: y :: 125 :: t ∧ x ≠ 125 ∧ y ≠ 125 ∧ puL [x, y] = some c ∧ shR c = [92, 117, 123, x, y, 125]) := by
  obtain ⟨hc, hh, ⟨t, ht⟩⟩ := escL_spec h
  have e1 := (esc_snd ⟨c, hc⟩ hh).1
  simp only at e1
  have h1 : (shR c).getD 1 0 = 117 := by
    rw [hl, e1] at ht
    simp only [List.cons_append, List.cons.injEq] at ht
    exact ht.2.1
  rcases num_form ⟨c, hc⟩ hh h1 with ⟨e, a, b⟩ | ⟨e, a, b, d⟩
  · simp only at e a b
    exact .inl ⟨_, t, by rw [← ht, e]; rfl, a, b, e⟩
  · simp only at e a b d
    exact .inr ⟨_, _, t, by rw [← ht, e]; rfl, a, b, d, e⟩
theorem ix4 {u : List UInt8} {a b : UInt8} {t : List UInt8} (ha : a ≠ 125) (hb : b ≠ 125) (hu : u = a :: b :: 125 :: t) : indexByte ((92 :: 117 :: u).take 6) 125 = 4 := by
  subst hu
  cases t <;> simp [indexByte, ha, hb]
theorem ix5 {u : List UInt8} {a b c : UInt8} {t : List UInt8} (ha : a ≠ 125) (hb : b ≠ 125) (hc : c ≠ 125) (hu : u = a :: b :: c :: 125 :: t) : indexByte ((92 :: 117 :: u).take 6) 125 = 5 := by
  subst hu
  simp [indexByte, ha, hb, hc]
/-- Where the closing brace stands. -/
theorem ix_cases (u : List UInt8) : indexByte ((92 :: 117 :: u).take 6) 125 < 4 ∨
    (indexByte ((92 :: 117 :: u).take 6) 125 = 4 ∧ ∃ a b t, u = a :: b :: 125 :: t) ∨
    (indexByte ((92 :: 117 :: u).take 6) 125 = 5 ∧ ∃ a b c t, u = a :: b :: c :: 125 :: t) := by
  match u with
  | [] => exact .inl (by decide)
  | [a] => left; simp only [List.take, indexByte]; repeat' split
           all_goals simp_all
  | [a, b] => left; simp only [List.take, indexByte]; repeat' split
              all_goals simp_all
  | [a, b, c] =>
    by_cases ha : a = 125
    · left; simp [ha, indexByte]
    by_cases hb : b = 125
    · left; simp [ha, hb, indexByte]
    by_cases hc : c = 125
    · right; left; subst hc; exact ⟨ix4 ha hb rfl, a, b, [], rfl⟩
    · left; simp [ha, hb, hc, indexByte]
  | a :: b :: c :: d :: t =>
    by_cases ha : a = 125
    · left; simp [ha, indexByte]
    by_cases hb : b = 125
    · left; simp [ha, hb, indexByte]
    by_cases hc : c = 125
    · right; left; subst hc; exact ⟨ix4 ha hb rfl, a, b, _, rfl⟩
    by_cases hd : d = 125
    · right; right; subst hd; exact ⟨ix5 ha hb hc rfl, a, b, c, t, rfl⟩
    · left; simp [ha, hb, hc, hd, indexByte]
theorem esc_num_no {u : List UInt8} (h : indexByte ((92 :: 117 :: u).take 6) 125 < 4) : escL (92 :: 117 :: u) = none := by
  cases e : escL (92 :: 117 :: u) with
  | none => rfl
  | some c =>
    rcases num_at rfl e with ⟨x, t, hl, hx, _, _⟩ | ⟨x, y, t, hl, hx, hy, _, _⟩
    · simp only [List.cons.injEq, true_and] at hl
      rw [ix4 (by decide) hx hl] at h
      omega
    · simp only [List.cons.injEq, true_and] at hl
      rw [ix5 (by decide) hx hy hl] at h
      omega
theorem esc_num1 {a b : UInt8} {t : List UInt8} (hi : indexByte ((92 :: 117 :: a :: b :: 125 :: t).take 6) 125 = 4) : escL (92 :: 117 :: a :: b :: 125 :: t) = (puL [b]).bind fun n => if shR n = [92, 117, a, b, 125] then some n else none := by
  cases e : escL (92 :: 117 :: a :: b :: 125 :: t) with
  | some c =>
    rcases num_at rfl e with ⟨x, t', hl, hx, hp, hs⟩ | ⟨x, y, t', hl, hx, hy, hp, hs⟩
    · simp only [List.cons.injEq, true_and] at hl
      obtain ⟨rfl, rfl, -⟩ := hl
      rw [hp]
      simp [hs]
    · have := ix5 (by decide) hx hy (show a :: b :: 125 :: t = 123 :: x :: y :: 125 :: t' by simpa using hl)
      rw [this] at hi
      omega
  | none =>
    cases hp : puL [b] with
    | none => rfl
    | some n =>
      show none = if _ then _ else _
      rw [if_neg]
      intro hs
      have hlt := num_small ⟨n, puL_lt hp⟩ (by show (shR n).head? = _; rw [hs]; rfl)
      rw [escL_of hlt (by rw [hs]; rfl) (by rw [hs]; exact ⟨t, rfl⟩)] at e
      cases e
theorem esc_num2 {a b c : UInt8} {t : List UInt8} (hi : indexByte ((92 :: 117 :: a :: b :: c :: 125 :: t).take 6) 125 = 5) : escL (92 :: 117 :: a :: b :: c :: 125 :: t) = (puL [b, c]).bind fun n => if shR n = [92, 117, a, b, c, 125] then some n else none := by
  cases e : escL (92 :: 117 :: a :: b :: c :: 125 :: t) with
  | some d =>
    rcases num_at rfl e with ⟨x, t', hl, hx, hp, hs⟩ | ⟨x, y, t', hl, hx, hy, hp, hs⟩
    · have := ix4 (by decide) hx (show a :: b :: c :: 125 :: t = 123 :: x :: 125 :: t' by simpa using hl)
      rw [this] at hi
      omega
    · simp only [List.cons.injEq, true_and] at hl
      obtain ⟨rfl, rfl, rfl, -⟩ := hl
      rw [hp]
      simp [hs]
  | none =>
    cases hp : puL [b, c] with
    | none => rfl
    | some n =>
      show none = if _ then _ else _
      rw [if_neg]
      intro hs
      have hlt := num_small ⟨n, puL_lt hp⟩ (by show (shR n).head? = _; rw [hs]; rfl)
      rw [escL_of hlt (by rw [hs]; rfl) (by rw [hs]; exact ⟨t, rfl⟩)] at e
      cases e

/-! ### a rune within a text -/
theorem shR_plain {c : Nat} (h1 : 32 ≤ c) (h2 : c ≠ 127) (h3 : c ≠ 34) (h4 : c ≠ 92) : shR c = enc c := by
  unfold shR
  rw [if_neg h3, if_neg h4, if_neg (by omega), if_neg (by omega), if_neg (by omega), if_neg (by omega), if_neg (by omega)]
theorem dec_ascii {b : UInt8} {t : List UInt8} (h : b.toNat < 128) : decodeL (b :: t) = (b.toNat, 1) := by
  rw [decodeL_N]
  unfold decodeN
  simp only [List.getD_cons_zero]
  rw [if_pos h]
theorem dec_small {l : List UInt8} {c : Nat} (hne : l ≠ []) (hc : (decodeL l).1 = c) (h : c < 128) : ∃ b t, l = b :: t ∧ b.toNat = c := by
  cases l with
  | nil => exact absurd rfl hne
  | cons b t =>
    refine ⟨b, t, rfl, ?_⟩
    by_cases hb : b.toNat < 128
    · rw [dec_ascii hb] at hc; exact hc
    · exfalso
      rw [decodeL_N] at hc
      unfold decodeN at hc
      simp only [List.getD_cons_zero] at hc
      rw [if_neg hb] at hc
      split at hc
      · split at hc <;> simp only at hc <;> omega
      split at hc
      · split at hc <;> simp only at hc <;> omega
      split at hc
      · split at hc <;> simp only at hc <;> omega
      · simp only at hc; omega
/-- What decodes well is what the rune encodes to. -/
theorem enc_dec {l : List UInt8} (hne : l ≠ []) (h : ¬ ((decodeL l).1 = 65533 ∧ (decodeL l).2 = 1)) : enc (decodeL l).1 = l.take (decodeL l).2 := by
  have he := encode_decode l hne h
  rw [← he]
  have hs := decodeL_scal l
  generalize (decodeL l).1 = c at hs
  by_cases h1 : c < 128
  · rw [enc1 h1, encodeRune, encodeRuneZ_one (by omega) (by omega)]; simp
  by_cases h2 : c < 2048
  · rw [enc2 (by omega) h2, encodeRune, encodeRuneZ_two (by omega) (by omega)]
    simp only [List.map_cons, List.map_nil]
    congr 1
  by_cases h3 : c < 65536
  · rw [enc3 (by omega) h3 hs, encodeRune, encodeRuneZ_three (by unfold scal at hs; omega)]
    simp only [List.map_cons, List.map_nil]
    congr 1
  · rw [enc4 (by omega) hs, encodeRune, encodeRuneZ_four (by omega) (by unfold scal at hs; omega)]
    simp only [List.map_cons, List.map_nil]
    congr 1
/-- What is said of a rune that was read: it is written so. -/
theorem runeL_spec {l : List UInt8} {c d : Nat} (h : runeL l = some (c, d)) (hq : l.head? ≠ some 34) : shR c = l.take d ∧ 1 ≤ d ∧ d ≤ l.length ∧ scal c ∧ (enc c).length ≤ d := by
  unfold runeL at h
  split at h
  · rename_i h92
    cases e : escL l with
    | none => rw [e] at h; cases h
    | some x =>
      rw [e] at h
      simp only [Option.map_some, Option.some.injEq, Prod.mk.injEq] at h
      obtain ⟨rfl, rfl⟩ := h
      obtain ⟨a, b, p⟩ := escL_spec e
      have hl := p.length_le
      have h1 : 1 ≤ (shR x).length := by
        cases hh : shR x with
        | nil => rw [hh] at b; cases b
        | cons _ _ => simp
      exact ⟨List.prefix_iff_eq_take.1 p, h1, hl, .inl (by omega), by rw [enc1 a]; exact h1⟩
  · rename_i h92
    split at h
    · cases h
    · rename_i hn
      simp only [not_or] at hn
      obtain ⟨hne, hbad, h32, h127⟩ := hn
      simp only [Option.some.injEq] at h
      have ed : enc c = l.take d := by have := enc_dec hne hbad; rw [h] at this; exact this
      have hw := decodeL_width l
      have hle := decodeL_le l hne
      rw [h] at hw hle h32 h127
      simp only at hw hle h32 h127
      have h34 : c ≠ 34 := fun e => by
        obtain ⟨b, t, rfl, hb⟩ := dec_small (c := 34) hne (by rw [h]; exact e) (by decide)
        exact hq (by simp only [List.head?_cons]; exact congrArg some (UInt8.toNat_inj.1 hb))
      have h92' : c ≠ 92 := fun e => by
        obtain ⟨b, t, rfl, hb⟩ := dec_small (c := 92) hne (by rw [h]; exact e) (by decide)
        exact h92 (by simp only [List.head?_cons]; exact congrArg some (UInt8.toNat_inj.1 hb))
      have hsc := decodeL_scal l
      rw [h] at hsc
      refine ⟨by rw [shR_plain (by omega) h127 h34 h92', ed], by omega, hle, hsc, ?_⟩
      rw [ed, List.length_take]
      omega
theorem txGo_fuel : ∀ (n m : Nat) (acc l : List UInt8), l.length < n → l.length < m → txGo n acc l = txGo m acc l
  | 0, _, _, _, h, _ => absurd h (by omega)
  | _ + 1, 0, _, _, _, h => absurd h (by omega)
  | n + 1, m + 1, acc, l, hn, hm => by
    unfold txGo
    by_cases hq : l.head? = some 34
    · rw [if_pos hq, if_pos hq]
    · rw [if_neg hq, if_neg hq]
      cases e : runeL l with
      | none => rfl
      | some p =>
        obtain ⟨c, d⟩ := p
        obtain ⟨-, h1, h2, -, -⟩ := runeL_spec e hq
        exact txGo_fuel n m _ _ (by rw [List.length_drop]; omega) (by rw [List.length_drop]; omega)
theorem txs_end {acc l : List UInt8} (h : l.head? = some 34) : txs acc l = some (acc, l.drop 1) := by
  unfold txs txGo
  rw [if_pos h]
theorem txs_none {acc l : List UInt8} (h : l.head? ≠ some 34) (hr : runeL l = none) : txs acc l = none := by
  unfold txs txGo
  rw [if_neg h, hr]
theorem txs_step {acc l : List UInt8} {c d : Nat} (h : l.head? ≠ some 34) (hr : runeL l = some (c, d)) : txs acc l = txs (acc ++ enc c) (l.drop d) := by
  obtain ⟨-, h1, h2, -, -⟩ := runeL_spec hr h
  conv => lhs; unfold txs txGo
  rw [if_neg h, hr]
  exact txGo_fuel _ _ _ _ (by rw [List.length_drop]; omega) (Nat.lt_succ_self _)
end Go.Proofs.YtmfeoiblhjfpjaaGreatDoor
/- Literals: what is read was shown so, and what is shown is read. Plain, of no program. -/
namespace Go.Proofs.YtmfeoiblhjfpjaaGreatDoor
open Go.Lib
set_option maxRecDepth 100000

/-! ### texts -/
theorem txs_once : ∀ (n : Nat) (acc l : List UInt8) (p : List UInt8 × List UInt8), l.length ≤ n → txs acc l = some p → ∃ cs : List Nat, (∀ c ∈ cs, scal c) ∧ p.1 = acc ++ cs.flatMap enc ∧ l = cs.flatMap shR ++ 34 :: p.2 := by
  intro n
  induction n with
  | zero =>
    intro acc l p hl h
    obtain rfl : l = [] := List.eq_nil_of_length_eq_zero (by omega)
    rw [txs_none (by simp) (by unfold runeL; simp)] at h
    cases h
  | succ n ih =>
    intro acc l p hl h
    by_cases hq : l.head? = some 34
    · rw [txs_end hq] at h
      cases h
      refine ⟨[], by simp, by simp, ?_⟩
      cases l with
      | nil => cases hq
      | cons b t => simp only [List.head?_cons, Option.some.injEq] at hq; subst hq; rfl
    · cases hr : runeL l with
      | none => rw [txs_none hq hr] at h; cases h
      | some q =>
        obtain ⟨c, d⟩ := q
        obtain ⟨h1, h2, h3, h4, -⟩ := runeL_spec hr hq
        rw [txs_step hq hr] at h
        obtain ⟨cs, a, b, e⟩ := ih _ _ _ (by rw [List.length_drop]; omega) h
        refine ⟨c :: cs, ?_, by rw [b]; simp, ?_⟩
        · intro x hx
          rcases List.mem_cons.1 hx with rfl | hx
          · exact h4
          · exact a x hx
        · rw [List.flatMap_cons, List.append_assoc, ← e, h1, List.take_append_drop]
theorem shR_head : ∀ c : Fin 128, (shR c.val).head? ≠ some 34 := by decide +kernel
theorem enc_head {c : Nat} (h : 128 ≤ c) (hs : scal c) : ∃ b t, enc c = b :: t ∧ 128 ≤ b.toNat := by
  have hm : c ≤ 1114111 := by unfold scal at hs; omega
  by_cases h2 : c < 2048
  · exact ⟨_, _, enc2 h h2, by rw [toNat_of (by omega)]; omega⟩
  by_cases h3 : c < 65536
  · exact ⟨_, _, enc3 (by omega) h3 hs, by rw [toNat_of (by omega)]; omega⟩
  · exact ⟨_, _, enc4 (by omega) hs, by rw [toNat_of (by omega)]; omega⟩
theorem shR_big {c : Nat} (h : 128 ≤ c) : shR c = enc c := shR_plain (by omega) (by omega) (by omega) (by omega)
theorem shR_ne : ∀ c : Fin 128, shR c.val ≠ [] := by decide +kernel
theorem shR_kind : ∀ c : Fin 128, (shR c.val).head? ≠ some 92 → 32 ≤ c.val ∧ c.val ≠ 127 ∧ c.val ≠ 34 ∧ c.val ≠ 92 := by decide +kernel
theorem rune_back {c : Nat} (hs : scal c) (u : List UInt8) : (shR c ++ u).head? ≠ some 34 ∧ runeL (shR c ++ u) = some (c, (shR c).length) := by
  have plain : (shR c ++ u).head? ≠ some 92 → shR c = enc c → 32 ≤ c → c ≠ 127 → runeL (shR c ++ u) = some (c, (shR c).length) := by
    intro h92 he h1 h2
    unfold runeL
    rw [if_neg h92, he, dec_enc c u hs, if_neg]
    simp only [not_or]
    refine ⟨?_, ?_, by omega, h2⟩
    · intro e
      have := congrArg List.length e
      have h3 := enc_len c
      rw [List.length_append] at this
      simp at this
      rw [this.1] at h3
      simp at h3
    · rintro ⟨e1, e2⟩
      have := enc_err c e1
      omega
  by_cases hc : c < 128
  · have hne := shR_ne ⟨c, hc⟩
    have hh := shR_head ⟨c, hc⟩
    have hk := shR_kind ⟨c, hc⟩
    simp only at hne hh hk
    have ehd : (shR c ++ u).head? = (shR c).head? := by
      cases e : shR c with
      | nil => exact absurd e hne
      | cons b t => rfl
    refine ⟨by rw [ehd]; exact hh, ?_⟩
    by_cases h92 : (shR c).head? = some 92
    · unfold runeL
      rw [if_pos (by rw [ehd]; exact h92), escL_of hc h92 ⟨u, rfl⟩]
      rfl
    · obtain ⟨a, b, d, e⟩ := hk h92
      exact plain (by rw [ehd]; exact h92) (shR_plain a b d e) a b
  · obtain ⟨b, t, he, hb⟩ := enc_head (c := c) (by omega) hs
    have e : shR c = enc c := shR_big (by omega)
    have hbn : ∀ x : UInt8, x.toNat < 128 → b ≠ x := fun x hx e => by subst e; omega
    have ehd : (shR c ++ u).head? = some b := by rw [e, he]; rfl
    refine ⟨by rw [ehd]; exact fun e => hbn 34 (by decide) (Option.some.inj e), plain (by rw [ehd]; exact fun e => hbn 92 (by decide) (Option.some.inj e)) e (by omega) (by omega)⟩
theorem txs_back : ∀ (cs : List Nat) (acc t : List UInt8), (∀ c ∈ cs, scal c) → txs acc (cs.flatMap shR ++ 34 :: t) = some (acc ++ cs.flatMap enc, t)
  | [], acc, t, _ => by rw [List.flatMap_nil, List.nil_append, txs_end rfl]; simp
  | c :: cs, acc, t, h => by
    obtain ⟨h1, h2⟩ := rune_back (h c (by simp)) (cs.flatMap shR ++ 34 :: t)
    rw [List.flatMap_cons, List.append_assoc, txs_step h1 h2, List.drop_left, txs_back cs _ t (fun x hx => h x (List.mem_cons_of_mem _ hx))]
    simp

/-! ### bytes -/
theorem hxd_dg : ∀ n : Fin 256, ∀ x : Fin 16, hxd (UInt8.ofNat n.val) = some x.val → dg x.val = UInt8.ofNat n.val := by decide +kernel
theorem hxd_lt {b : UInt8} {x : Nat} (h : hxd b = some x) : x < 16 := by
  unfold hxd at h
  split at h
  · cases h; omega
  split at h
  · cases h; omega
  · cases h
theorem hxd_of {b : UInt8} {x : Nat} (h : hxd b = some x) : dg x = b := by
  have := hxd_dg ⟨b.toNat, UInt8.toNat_lt b⟩ ⟨x, hxd_lt h⟩
  simp only [UInt8.ofNat_toNat] at this
  exact this h
theorem dg_hxd : ∀ x : Fin 16, hxd (dg x.val) = some x.val ∧ dg x.val ≠ 39 := by decide +kernel
theorem hex_pair {x y : Nat} (hx : x < 16) (hy : y < 16) : hex2 (UInt8.ofNat (16 * x + y)) = [dg x, dg y] := by
  unfold hex2
  rw [toNat_of (by omega), show (16 * x + y) / 16 = x by omega, show (16 * x + y) % 16 = y by omega]
theorem hxs_once : ∀ (l : List UInt8) (p : List UInt8 × List UInt8), hxs l = some p → l = hexs p.1 ++ 39 :: p.2
  | [], p, h => by cases h
  | [a], p, h => by
    unfold hxs at h
    split at h
    · rename_i e; cases h; subst e; rfl
    · cases h
  | a :: b :: t, p, h => by
    unfold hxs at h
    split at h
    · rename_i e; cases h; subst e; rfl
    · split at h
      · rename_i x y hx hy
        cases e : hxs t with
        | none => rw [e] at h; cases h
        | some q =>
          rw [e] at h
          simp only [Option.map_some, Option.some.injEq] at h
          subst h
          have := hxs_once t q e
          simp only [hexs, List.flatMap_cons] at this ⊢
          rw [hex_pair (hxd_lt hx) (hxd_lt hy), hxd_of hx, hxd_of hy, List.append_assoc, ← this]
          rfl
      · cases h
theorem hxs_back : ∀ (s t : List UInt8), hxs (hexs s ++ 39 :: t) = some (s, t)
  | [], [] => rfl
  | [], b :: t => by
    show hxs (39 :: b :: t) = _
    unfold hxs
    rw [if_pos rfl]
  | b :: s, t => by
    have hb := UInt8.toNat_lt b
    obtain ⟨h1, h2⟩ := dg_hxd ⟨b.toNat / 16, by omega⟩
    obtain ⟨h3, -⟩ := dg_hxd ⟨b.toNat % 16, by omega⟩
    simp only at h1 h2 h3
    simp only [hexs, List.flatMap_cons, hex2, List.cons_append, List.nil_append]
    unfold hxs
    rw [if_neg h2, h1, h3]
    simp only
    have := hxs_back s t
    simp only [hexs] at this
    rw [this]
    simp only [Option.map_some, Option.some.injEq, Prod.mk.injEq, List.cons.injEq, and_true]
    rw [show 16 * (b.toNat / 16) + b.toNat % 16 = b.toNat by omega]
    simp
theorem hxs_app : ∀ (D R : List UInt8), 39 ∉ D → hxs (D ++ 39 :: R) = (hxp D).map fun b => (b, R)
  | [], R, _ => by
    cases R with
    | nil => rfl
    | cons b R => show hxs (39 :: b :: R) = _; unfold hxs; rw [if_pos rfl]; rfl
  | [a], R, h => by
    have ha : a ≠ 39 := fun e => h (by simp [e])
    show hxs (a :: 39 :: R) = _
    unfold hxs
    rw [if_neg ha, show hxd 39 = none by decide]
    cases hxd a <;> rfl
  | a :: b :: t, R, h => by
    have ha : a ≠ 39 := fun e => h (by simp [e])
    have ht : 39 ∉ t := fun e => h (by simp [e])
    show hxs (a :: b :: (t ++ 39 :: R)) = _
    unfold hxs hxp
    rw [if_neg ha, hxs_app t R ht]
    cases hxd a <;> cases hxd b <;> cases hxp t <;> rfl
theorem hxs_open : ∀ (l : List UInt8), 39 ∉ l → hxs l = none
  | [], _ => rfl
  | [a], h => by
    have ha : a ≠ 39 := fun e => h (by simp [e])
    unfold hxs
    rw [if_neg ha]
  | a :: b :: t, h => by
    have ha : a ≠ 39 := fun e => h (by simp [e])
    have ht : 39 ∉ t := fun e => h (by simp [e])
    unfold hxs
    rw [if_neg ha, hxs_open t ht]
    cases hxd a <;> cases hxd b <;> rfl
theorem hxp_odd : ∀ (D : List UInt8), D.length % 2 ≠ 0 → hxp D = none
  | [], h => absurd rfl h
  | [a], _ => rfl
  | a :: b :: t, h => by
    unfold hxp
    rw [hxp_odd t (by simp only [List.length_cons] at h; omega)]
    cases hxd a <;> cases hxd b <;> rfl

/-! ### numbers -/
theorem snoc_of {l : List UInt8} (h : l ≠ []) : ∃ i b, l = i ++ [b] := ⟨l.dropLast, l.getLast h, (List.dropLast_concat_getLast h).symm⟩
theorem numOf_pos : ∀ (m : Nat) (l : List UInt8), l.length = m + 1 → (∀ b ∈ l, isD b = true) → l.head? ≠ some 48 → 1 ≤ numOf l
  | m, l, hl, hd, hh => by
    obtain ⟨i, b, rfl⟩ := snoc_of (l := l) (fun e => by subst e; simp at hl)
    have hb := hd b (by simp)
    simp only [isD, decide_eq_true_eq] at hb
    rw [numOf_snoc]
    cases i with
    | nil =>
      have : b ≠ 48 := fun e => hh (by simp [e])
      have h2 : b.toNat ≠ 48 := fun e => this (UInt8.toNat_inj.1 e)
      omega
    | cons a i =>
      cases m with
      | zero => simp at hl
      | succ m =>
        have := numOf_pos m (a :: i) (by simpa using hl) (fun x hx => hd x (List.mem_append_left _ hx)) (by simpa using hh)
        omega
theorem decDigits_numOf : ∀ (m : Nat) (l : List UInt8), l.length = m + 1 → (∀ b ∈ l, isD b = true) → (l.head? ≠ some 48 ∨ l.length = 1) → decDigits (numOf l) = l
  | m, l, hl, hd, hh => by
    obtain ⟨i, b, rfl⟩ := snoc_of (l := l) (fun e => by subst e; simp at hl)
    have hb := hd b (by simp)
    simp only [isD, decide_eq_true_eq] at hb
    have hlast : UInt8.ofNat (48 + (b.toNat - 48)) = b := by
      rw [show 48 + (b.toNat - 48) = b.toNat by omega]
      simp
    cases i with
    | nil =>
      rw [numOf_snoc, show numOf [] = 0 from rfl, decDigits, dif_pos (by omega)]
      simp only [List.nil_append, Nat.mul_zero, Nat.zero_add, hlast]
    | cons a i =>
      cases m with
      | zero => simp at hl
      | succ m =>
        have hh' : (a :: i).head? ≠ some 48 := by
          rcases hh with hh | hh
          · simpa using hh
          · simp at hh
        have hp := numOf_pos m (a :: i) (by simpa using hl) (fun x hx => hd x (List.mem_append_left _ hx)) hh'
        have ih := decDigits_numOf m (a :: i) (by simpa using hl) (fun x hx => hd x (List.mem_append_left _ hx)) (.inl hh')
        rw [numOf_snoc, decDigits, dif_neg (by omega), show (10 * numOf (a :: i) + (b.toNat - 48)) / 10 = numOf (a :: i) by omega, show (10 * numOf (a :: i) + (b.toNat - 48)) % 10 = b.toNat - 48 by omega, ih, hlast]
theorem decDigits_ok : ∀ n : Nat, decDigits n ≠ [] ∧ (∀ b ∈ decDigits n, isD b = true) ∧ numOf (decDigits n) = n ∧ ((decDigits n).head? = some 48 → n = 0) := by
  intro n
  induction n using Nat.strongRecOn with
  | ind n ih =>
    rw [decDigits]
    by_cases h : n < 10
    · rw [dif_pos h]
      have ht : (UInt8.ofNat (48 + n)).toNat = 48 + n := toNat_of (by omega)
      refine ⟨by simp, ?_, ?_, ?_⟩
      · intro b hb
        simp only [List.mem_singleton] at hb
        subst hb
        simp only [isD, decide_eq_true_eq, ht]
        omega
      · show 10 * 0 + ((UInt8.ofNat (48 + n)).toNat - 48) = n
        rw [ht]; omega
      · intro e
        simp only [List.head?_cons, Option.some.injEq] at e
        have := congrArg UInt8.toNat e
        rw [ht] at this
        have h48 : (48 : UInt8).toNat = 48 := rfl
        omega
    · rw [dif_neg h]
      obtain ⟨a, b, c, d⟩ := ih (n / 10) (by omega)
      have ht : (UInt8.ofNat (48 + n % 10)).toNat = 48 + n % 10 := toNat_of (by omega)
      refine ⟨by simp, ?_, ?_, ?_⟩
      · intro x hx
        rcases List.mem_append.1 hx with hx | hx
        · exact b x hx
        · simp only [List.mem_singleton] at hx
          subst hx
          simp only [isD, decide_eq_true_eq, ht]
          omega
      · rw [numOf_snoc, c, ht]; omega
      · intro e
        have : (decDigits (n / 10)).head? = some 48 := by
          cases hh : decDigits (n / 10) with
          | nil => exact absurd hh a
          | cons x t => rw [hh] at e; simpa using e
        have := d this
        omega
theorem digs_of {d t : List UInt8} (hd : ∀ b ∈ d, isD b = true) (ht : digs t = []) : digs (d ++ t) = d := by
  unfold digs at *
  rw [List.takeWhile_append_of_pos hd, ht, List.append_nil]
end Go.Proofs.YtmfeoiblhjfpjaaGreatDoor
