/- event.Same at events of one attribute that are the same; event.scan at the example: walks. -/
import Derived.Test.YtacpllmlpmllbaaGreatDoorZk10
import Derived.Test.YtacpllmlpmllbaaGreatDoorZk8
import Derived.Lib.Strings
import Derived.Lib.Bytealg
import Derived.Shelf.Small.Strs
import Derived.Shelf.Utf8.AppendRune
import Derived.Shelf.Pu.ToError
import Derived.Ground.MpProg
import Derived.Test.YtacpllmlpmllbaaGreatDoorProg
import Derived.Lib.ConvBytes
namespace Go.Proofs.YtacpllmlpmllbaaGreatDoor
open Go.RowKit Go.ChangeMaps

set_option maxRecDepth 100000 in
set_option maxHeartbeats 2000000 in
/-- slices.Equal at two rows of one attribute each, the same. -/
theorem eqA_one (u v : Value) (x : At) (w : World) (hu : IsRow w 4 u 1 (aCells [x])) (hv : IsRow w 4 v 1 (aCells [x])) :
    Calls Tryz.prog 47 #[u, v] w fun e w' => e = .returned (.bool true) ∧ Below w.heap.size w w' := by
  obtain ⟨a0, c0, rfl⟩ := hu.form
  obtain ⟨a1, c1, rfl⟩ := hv.form
  have HU : Hid (IsRow w 4 (.slice a0 1 c0) 1 (aCells [x])) := hu
  have HV : Hid (IsRow w 4 (.slice a1 1 c1) 1 (aCells [x])) := hv
  clear hu hv
  go_enter Tryz.func47, Tryz.ntmps47
  go_wp2_with fail
  go_loopw [5, 13] (fun _ i wr => ∃ j : Nat, j ≤ 1 ∧ i = .int .i64 (j : Int) ∧ Hid (Below w.heap.size w wr)) (fun _ i _ => 1 - (intOf i).toNat)
  case atStart => exact ⟨0, by omega, rfl, Below.refl _ _⟩
  case round =>
    obtain ⟨j, hj, rfl, HB⟩ := hrel
    by_cases hlk : j < 1
    · have hj0 : j = 0 := by omega
      subst hj0
      obtain ⟨b0, o0, rfl, hlt0, hcap0, hc0⟩ := a_at (l := [x]) (HU.out.below HB.out) (by simp)
      obtain ⟨b1, o1, rfl, hlt1, hcap1, hc1⟩ := a_at (l := [x]) (HV.out.below HB.out) (by simp)
      clear hc0 hc1
      have HY : Hid (∀ W, Below w.heap.size w W → (W.cell? ⟨b0, o0, none⟩ = some (.string x.n) ∧ W.cell? ⟨b0, o0 + 1, none⟩ = some (.int .i64 x.k) ∧ W.cell? ⟨b0, o0 + 2, none⟩ = some (.int .i64 x.v) ∧ W.cell? ⟨b0, o0 + 3, none⟩ = some (.string x.s)) ∧ (W.cell? ⟨b1, o1, none⟩ = some (.string x.n) ∧ W.cell? ⟨b1, o1 + 1, none⟩ = some (.int .i64 x.k) ∧ W.cell? ⟨b1, o1 + 2, none⟩ = some (.int .i64 x.v) ∧ W.cell? ⟨b1, o1 + 3, none⟩ = some (.string x.s))) := fun W h => by
        obtain ⟨_, _, he, _, _, h0⟩ := a_at (l := [x]) (HU.out.below h) (by simp)
        cases he
        obtain ⟨_, _, he, _, _, h1⟩ := a_at (l := [x]) (HV.out.below h) (by simp)
        cases he
        have e0 := h0 0 (by simp)
        have e1 := h1 0 (by simp)
        simpa using And.intro e0 e1
      go_wp2_with fail
      refine wp_region_quiet (C := fun w' => Below w.heap.size w w') (by kernel_rfl) (by kernel_rfl) (HB.out.drew) ?_
      dsimp only
      repeat (first
        | go_big_quiet_skip
        | (go_big_quiet_want
           apply Exists.intro
           refine ⟨fun W' hW' => ?_, ?_⟩
           · have hw : Below w.heap.size w W' := hW'
             obtain ⟨⟨g0, g1, g2, g3⟩, k0, k1, k2, k3⟩ := HY.out W' hw
             go_simp
             first
               | done
               | rfl
           go_big_quiet_on
           try simp only [Act.put, List.setIfInBounds_toArray, List.set_cons_zero, List.set_cons_succ]))
      refine wpQuiet_nil ?_
      intro w2 hqw2
      have H2 : Hid (Below w.heap.size w w2) := hqw2
      clear hqw2
      go_wp2
      go_roundw
      case rel => exact ⟨1, by omega, by simp, H2⟩
      case measure => simp [intOf]
    · have hj1 : j = 1 := by omega
      subst hj1
      go_wp2
      go_ret
      exact ⟨rfl, HB.out⟩
set_option maxRecDepth 100000 in
set_option maxHeartbeats 1000000 in
/-- event.Same at two events of one attribute that are the same. -/
theorem evSame_one (a b c : Int) (k : ByteArray) (u v : Value) (x : At) (w : World) (hu : IsRow w 4 u 1 (aCells [x])) (hv : IsRow w 4 v 1 (aCells [x])) :
    Calls Tryz.prog 13 #[.agg (evA a b c k u), .agg (evA a b c k v)] w fun e w' => e = .returned (.bool true) ∧ Below w.heap.size w w' := by
  obtain ⟨W0, hW0⟩ : ∃ W0, W0 = (w.alloc (.cells (evA a b c k u) 26)).alloc (.cells (evA a b c k v) 26) := ⟨_, rfl⟩
  have hB : Below w.heap.size w W0 := by rw [hW0]; exact (al_b w _).trans ((al_b _ _).mono (by simp))
  have hn0 : W0.heap[w.heap.size]? = some (.cells (evA a b c k u) 26 (0, 0)) := by
    rw [hW0]
    show ((w.heap.push _).push _)[w.heap.size]? = _
    rw [Array.getElem?_push, if_neg (by simp), Array.getElem?_push, if_pos rfl]
  have hn1 : W0.heap[w.heap.size + 1]? = some (.cells (evA a b c k v) 26 (0, 0)) := by
    rw [hW0]
    show ((w.heap.push _).push _)[w.heap.size + 1]? = _
    rw [Array.getElem?_push, if_pos (by simp)]
  obtain ⟨⟨g0, g1, g2⟩, g3, g4⟩ := BxV.of hn0
  obtain ⟨⟨k0, k1, k2⟩, k3, k4⟩ := BxV.of hn1
  have HB : Hid (Below w.heap.size w W0) := hB
  have HE : Hid (Calls Tryz.prog 47 #[u, v] W0 fun e w' => e = .returned (.bool true) ∧ Below W0.heap.size W0 w') := eqA_one u v x W0 (hu.below hB) (hv.below hB)
  have e1 : (k.toList == k.toList) = true := by simp
  obtain ⟨a0, c0, rfl⟩ := hu.form
  obtain ⟨a1, c1, rfl⟩ := hv.form
  clear hB hn0 hn1 hu hv
  go_enter Tryz.func13, Tryz.ntmps13
  go_wp2_with fail
  rw [← hW0]
  clear hW0
  go_wp2_with fail
  refine HE.out.mono ?_
  rintro e w1 ⟨rfl, hb⟩
  have H1 : Hid (Below w.heap.size w w1) := HB.out.trans (hb.mono HB.out.size)
  clear hb
  go_wp2
  go_ret
  exact ⟨rfl, H1.out⟩
end Go.Proofs.YtacpllmlpmllbaaGreatDoor
/- Literals, read: which value stands at the front of a text, what stands behind it, or the error. Plain, of no program. -/
namespace Go.Proofs.YtacpllmlpmllbaaGreatDoor.V
open Go.Lib
set_option maxRecDepth 100000

/-- What reading a literal answers: the value's kind, number and bytes; what stands behind it; the error. -/
structure Sc where
  k : Int
  n : Int
  s : List UInt8
  r : List UInt8
  e : Int
abbrev Sc.bad (e : Int) : Sc := ⟨0, 0, [], [], e⟩

def isD (b : UInt8) : Bool := decide (48 ≤ b.toNat ∧ b.toNat ≤ 57)
/-- The digits at the front. -/
def digs (l : List UInt8) : List UInt8 := l.takeWhile isD
def numOf (l : List UInt8) : Nat := l.foldl (fun n b => 10 * n + (b.toNat - 48)) 0
def scI (neg : Bool) (l : List UInt8) : Sc :=
  if digs l = [] ∨ ((digs l).head? = some 48 ∧ (neg = true ∨ 1 < (digs l).length)) then .bad 3
  else if 16 < (digs l).length ∨ 9007199254740991 < numOf (digs l) then .bad 2
  else ⟨1, if neg = true then -(numOf (digs l) : Int) else numOf (digs l), [], l.drop (digs l).length, 0⟩

/-- A digit of 0 to 9, a to f. -/
def hxd (b : UInt8) : Option Nat := if 48 ≤ b.toNat ∧ b.toNat ≤ 57 then some (b.toNat - 48) else if 97 ≤ b.toNat ∧ b.toNat ≤ 102 then some (b.toNat - 87) else none
/-- The bytes that pairs of digits say, up to the closing mark, and what stands behind that. -/
def hxs : List UInt8 → Option (List UInt8 × List UInt8)
  | [] => none
  | [a] => if a = 39 then some ([], []) else none
  | a :: b :: t => if a = 39 then some ([], b :: t) else
    match hxd a, hxd b with
    | some x, some y => (hxs t).map fun p => (UInt8.ofNat (16 * x + y) :: p.1, p.2)
    | _, _ => none
/-- The same, of the digits alone. -/
def hxp : List UInt8 → Option (List UInt8)
  | [] => some []
  | [_] => none
  | a :: b :: t =>
    match hxd a, hxd b with
    | some x, some y => (hxp t).map fun p => UInt8.ofNat (16 * x + y) :: p
    | _, _ => none
def scX (l : List UInt8) : Sc :=
  match hxs l with
  | none => .bad 3
  | some p => if 200 < p.1.length then .bad 2 else ⟨4, 0, p.1, p.2, 0⟩

/-- The rune whose writing with a back stroke stands at the front. -/
def escL (l : List UInt8) : Option Nat := (List.range 128).find? fun c => decide ((shR c).head? = some 92) && (shR c).isPrefixOf l
/-- The rune at the front of what stands within a text's literal, and how many bytes it is written in. -/
def runeL (l : List UInt8) : Option (Nat × Nat) :=
  if l.head? = some 92 then (escL l).map fun c => (c, (shR c).length)
  else if l = [] ∨ ((decodeL l).1 = 65533 ∧ (decodeL l).2 = 1) ∨ (decodeL l).1 < 32 ∨ (decodeL l).1 = 127 then none else some (decodeL l)
def txGo : Nat → List UInt8 → List UInt8 → Option (List UInt8 × List UInt8)
  | 0, _, _ => none
  | n + 1, acc, l => if l.head? = some 34 then some (acc, l.drop 1) else
    match runeL l with
    | none => none
    | some p => txGo n (acc ++ enc p.1) (l.drop p.2)
/-- The bytes that a text's literal says, behind others, up to the closing mark, and what stands behind that. -/
def txs (acc l : List UInt8) : Option (List UInt8 × List UInt8) := txGo (l.length + 1) acc l
def scT (l : List UInt8) : Sc :=
  match txs [] l with
  | none => .bad 3
  | some p => if 200 < p.1.length then .bad 2 else ⟨2, 0, p.1, p.2, 0⟩

/-- Does a word go on at the front? -/
def goesL (l : List UInt8) : Bool := letterN (decodeL l).1 || (decide (48 ≤ (decodeL l).1 ∧ (decodeL l).1 ≤ 57) || ((decodeL l).1 == 95 || (decodeL l).1 == 45))
def scB (n : Int) (l : List UInt8) : Sc := if goesL l = true then .bad 3 else ⟨3, n, [], l, 0⟩
def scn (l : List UInt8) : Sc :=
  if hasPrefix l [34] = true then scT (l.drop 1)
  else if hasPrefix l [120, 39] = true then scX (l.drop 2)
  else if hasPrefix l [116, 114, 117, 101] = true then scB 1 (l.drop 4)
  else if hasPrefix l [102, 97, 108, 115, 101] = true then scB 0 (l.drop 5)
  else if hasPrefix l [45] = true then scI true (l.drop 1) else scI false l

/-! ### digits -/
theorem isD_mem : ∀ b : UInt8, isD b = [48, 49, 50, 51, 52, 53, 54, 55, 56, 57].contains b := by
  intro b
  have key : ∀ n : Fin 256, isD (UInt8.ofNat n.val) = [48, 49, 50, 51, 52, 53, 54, 55, 56, 57].contains (UInt8.ofNat n.val) := by decide +kernel
  have := key ⟨b.toNat, UInt8.toNat_lt b⟩
  simpa using this
theorem digs_drop (l : List UInt8) : l.drop (digs l).length = l.dropWhile isD := by
  unfold digs
  induction l with
  | nil => rfl
  | cons b t ih =>
    by_cases h : isD b = true
    · rw [List.takeWhile_cons_of_pos h, List.dropWhile_cons_of_pos h]
      exact ih
    · rw [List.takeWhile_cons_of_neg h, List.dropWhile_cons_of_neg h]
      rfl
theorem digs_app (l : List UInt8) : digs l ++ l.dropWhile isD = l := List.takeWhile_append_dropWhile
theorem digs_all (l : List UInt8) : ∀ b ∈ digs l, isD b = true := fun b hb => by
  unfold digs at hb
  have h := List.all_takeWhile (p := isD) (l := l)
  exact List.all_eq_true.1 h b hb
theorem numOf_snoc (l : List UInt8) (b : UInt8) : numOf (l ++ [b]) = 10 * numOf l + (b.toNat - 48) := by
  unfold numOf
  rw [List.foldl_append]
  rfl
theorem numOf_lt : ∀ (m : Nat) (l : List UInt8), l.length = m → (∀ b ∈ l, isD b = true) → numOf l < 10 ^ m
  | 0, l, h, _ => by
    obtain rfl : l = [] := List.eq_nil_of_length_eq_zero h
    decide
  | m + 1, l, h, hd => by
    obtain ⟨i, b, rfl⟩ : ∃ i b, l = i ++ [b] := by
      have hne : l ≠ [] := fun e => by subst e; simp at h
      exact ⟨l.dropLast, l.getLast hne, (List.dropLast_concat_getLast hne).symm⟩
    have h1 := numOf_lt m i (by simpa using h) (fun x hx => hd x (List.mem_append_left _ hx))
    have h2 := hd b (by simp)
    simp only [isD, decide_eq_true_eq] at h2
    rw [numOf_snoc, Nat.pow_succ]
    omega
end Go.Proofs.YtacpllmlpmllbaaGreatDoor.V
/- Runes within a text's literal: how they are written, and read. Plain, of no program. -/
namespace Go.Proofs.YtacpllmlpmllbaaGreatDoor.V
open Go.Lib
set_option maxRecDepth 100000

theorem esc_uniq : ∀ a b : Fin 128, (shR a.val).head? = some 92 → (shR b.val).head? = some 92 → (shR a.val).isPrefixOf (shR b.val) = true → a = b := by decide +kernel
theorem escL_spec {l : List UInt8} {c : Nat} (h : escL l = some c) : c < 128 ∧ (shR c).head? = some 92 ∧ shR c <+: l := by
  have h1 := List.find?_some h
  have h2 := List.mem_of_find?_eq_some h
  simp only [Bool.and_eq_true, decide_eq_true_eq] at h1
  exact ⟨List.mem_range.1 h2, h1.1, List.isPrefixOf_iff_prefix.1 h1.2⟩
theorem escL_of {l : List UInt8} {c : Nat} (h1 : c < 128) (h2 : (shR c).head? = some 92) (h3 : shR c <+: l) : escL l = some c := by
  have hs : (escL l).isSome := by
    rw [escL, List.find?_isSome]
    exact ⟨c, List.mem_range.2 h1, by simp [h2, List.isPrefixOf_iff_prefix.2 h3]⟩
  obtain ⟨d, hd⟩ := Option.isSome_iff_exists.1 hs
  obtain ⟨d1, d2, d3⟩ := escL_spec hd
  rcases Nat.le_total (shR c).length (shR d).length with hl | hl
  · have := esc_uniq ⟨c, h1⟩ ⟨d, d1⟩ h2 d2 (List.isPrefixOf_iff_prefix.2 (List.prefix_of_prefix_length_le h3 d3 hl))
    rw [hd]
    exact congrArg some (congrArg Fin.val this).symm
  · have := esc_uniq ⟨d, d1⟩ ⟨c, h1⟩ d2 h2 (List.isPrefixOf_iff_prefix.2 (List.prefix_of_prefix_length_le d3 h3 hl))
    rw [hd]
    exact congrArg some (congrArg Fin.val this)
theorem escL_no {l : List UInt8} (h : ∀ c, c < 128 → (shR c).head? = some 92 → ¬ shR c <+: l) : escL l = none := by
  cases e : escL l with
  | none => rfl
  | some c => obtain ⟨a, b, d⟩ := escL_spec e; exact absurd d (h c a b)
theorem esc_q (t : List UInt8) : escL (92 :: 34 :: t) = some 34 := escL_of (by decide) (by decide +kernel) ⟨t, rfl⟩
theorem esc_b (t : List UInt8) : escL (92 :: 92 :: t) = some 92 := escL_of (by decide) (by decide +kernel) ⟨t, rfl⟩
theorem esc_n (t : List UInt8) : escL (92 :: 110 :: t) = some 10 := escL_of (by decide) (by decide +kernel) ⟨t, rfl⟩
theorem esc_t (t : List UInt8) : escL (92 :: 116 :: t) = some 9 := escL_of (by decide) (by decide +kernel) ⟨t, rfl⟩
theorem esc_r (t : List UInt8) : escL (92 :: 114 :: t) = some 13 := escL_of (by decide) (by decide +kernel) ⟨t, rfl⟩
theorem esc_one : escL [92] = none := by decide +kernel
theorem esc_snd : ∀ c : Fin 128, (shR c.val).head? = some 92 → shR c.val = 92 :: (shR c.val).getD 1 0 :: (shR c.val).drop 2 ∧ ((shR c.val).getD 1 0 = 34 ∨ (shR c.val).getD 1 0 = 92 ∨ (shR c.val).getD 1 0 = 110 ∨ (shR c.val).getD 1 0 = 116 ∨ (shR c.val).getD 1 0 = 114 ∨ (shR c.val).getD 1 0 = 117) := by decide +kernel
theorem esc_other {b : UInt8} {t : List UInt8} (h1 : b ≠ 34) (h2 : b ≠ 92) (h3 : b ≠ 110) (h4 : b ≠ 116) (h5 : b ≠ 114) (h6 : b ≠ 117) : escL (92 :: b :: t) = none := by
  refine escL_no fun c hc hh hp => ?_
  obtain ⟨e, h⟩ := esc_snd ⟨c, hc⟩ hh
  simp only at e h
  rw [e] at hp
  obtain ⟨u, hu⟩ := hp
  simp only [List.cons_append, List.cons.injEq] at hu
  obtain ⟨-, e2, -⟩ := hu
  rw [e2] at h
  rcases h with h | h | h | h | h | h
  · exact h1 h
  · exact h2 h
  · exact h3 h
  · exact h4 h
  · exact h5 h
  · exact h6 h

/-- A digit of base 16, as it is parsed. -/
def puD (b : UInt8) : Option Nat := if 48 ≤ b.toNat ∧ b.toNat ≤ 57 then some (b.toNat - 48) else if 97 ≤ (b.toNat ||| 32) ∧ (b.toNat ||| 32) ≤ 102 then some ((b.toNat ||| 32) - 87) else none
def puL : List UInt8 → Option Nat
  | [x] => puD x
  | [x, y] => match puD x, puD y with
    | some a, some b => some (16 * a + b)
    | _, _ => none
  | _ => none
theorem puD_lt {b : UInt8} {n : Nat} (h : puD b = some n) : n < 16 := by
  unfold puD at h
  split at h
  · cases h; omega
  split at h
  · cases h; omega
  · cases h
theorem puL_lt {l : List UInt8} {n : Nat} (h : puL l = some n) : n < 256 := by
  unfold puL at h
  split at h
  · have := puD_lt h; omega
  · rename_i x y
    split at h
    · rename_i a b ha hb
      have := puD_lt ha
      have := puD_lt hb
      cases h
      omega
    · cases h
  · cases h
theorem num_form : ∀ c : Fin 128, (shR c.val).head? = some 92 → (shR c.val).getD 1 0 = 117 →
    (shR c.val = [92, 117, 123, (shR c.val).getD 3 0, 125] ∧ (shR c.val).getD 3 0 ≠ 125 ∧ puL [(shR c.val).getD 3 0] = some c.val) ∨
    (shR c.val = [92, 117, 123, (shR c.val).getD 3 0, (shR c.val).getD 4 0, 125] ∧ (shR c.val).getD 3 0 ≠ 125 ∧ (shR c.val).getD 4 0 ≠ 125 ∧ puL [(shR c.val).getD 3 0, (shR c.val).getD 4 0] = some c.val) := by decide +kernel
theorem num_small : ∀ n : Fin 256, (shR n.val).head? = some 92 → n.val < 128 := by decide +kernel
/-- A rune that stands there by its number. -/
theorem num_at {l u : List UInt8} (hl : l = 92 :: 117 :: u) {c : Nat} (h : escL l = some c) :
    (∃ x t, l = 92 :: 117 :: 123 :: x :: 125 :: t ∧ x ≠ 125 ∧ puL [x] = some c ∧ shR c = [92, 117, 123, x, 125]) ∨
    (∃ x y t, l = 92 :: 117 :: 123 :: x :: y :: 125 :: t ∧ x ≠ 125 ∧ y ≠ 125 ∧ puL [x, y] = some c ∧ shR c = [92, 117, 123, x, y, 125]) := by
  obtain ⟨hc, hh, ⟨t, ht⟩⟩ := escL_spec h
  have e1 := (esc_snd ⟨c, hc⟩ hh).1
  simp only at e1
  have h1 : (shR c).getD 1 0 = 117 := by
    rw [hl, e1] at ht
    simp only [List.cons_append, List.cons.injEq] at ht
    exact ht.2.1
  rcases num_form ⟨c, hc⟩ hh h1 with ⟨e, a, b⟩ | ⟨e, a, b, d⟩
  · simp only at e a b
    exact .inl ⟨_, t, by rw [← ht, e]; rfl, a, b, e⟩
  · simp only at e a b d
    exact .inr ⟨_, _, t, by rw [← ht, e]; rfl, a, b, d, e⟩
theorem ix4 {u : List UInt8} {a b : UInt8} {t : List UInt8} (ha : a ≠ 125) (hb : b ≠ 125) (hu : u = a :: b :: 125 :: t) : indexByte ((92 :: 117 :: u).take 6) 125 = 4 := by
  subst hu
  cases t <;> simp [indexByte, ha, hb]
theorem ix5 {u : List UInt8} {a b c : UInt8} {t : List UInt8} (ha : a ≠ 125) (hb : b ≠ 125) (hc : c ≠ 125) (hu : u = a :: b :: c :: 125 :: t) : indexByte ((92 :: 117 :: u).take 6) 125 = 5 := by
  subst hu
  simp [indexByte, ha, hb, hc]
/-- Where the closing brace stands. -/
theorem ix_cases (u : List UInt8) : indexByte ((92 :: 117 :: u).take 6) 125 < 4 ∨
    (indexByte ((92 :: 117 :: u).take 6) 125 = 4 ∧ ∃ a b t, u = a :: b :: 125 :: t) ∨
    (indexByte ((92 :: 117 :: u).take 6) 125 = 5 ∧ ∃ a b c t, u = a :: b :: c :: 125 :: t) := by
  match u with
  | [] => exact .inl (by decide)
  | [a] => left; simp only [List.take, indexByte]; repeat' split
           all_goals simp_all
  | [a, b] => left; simp only [List.take, indexByte]; repeat' split
              all_goals simp_all
  | [a, b, c] =>
    by_cases ha : a = 125
    · left; simp [ha, indexByte]
    by_cases hb : b = 125
    · left; simp [ha, hb, indexByte]
    by_cases hc : c = 125
    · right; left; subst hc; exact ⟨ix4 ha hb rfl, a, b, [], rfl⟩
    · left; simp [ha, hb, hc, indexByte]
  | a :: b :: c :: d :: t =>
    by_cases ha : a = 125
    · left; simp [ha, indexByte]
    by_cases hb : b = 125
    · left; simp [ha, hb, indexByte]
    by_cases hc : c = 125
    · right; left; subst hc; exact ⟨ix4 ha hb rfl, a, b, _, rfl⟩
    by_cases hd : d = 125
    · right; right; subst hd; exact ⟨ix5 ha hb hc rfl, a, b, c, t, rfl⟩
    · left; simp [ha, hb, hc, hd, indexByte]
theorem esc_num_no {u : List UInt8} (h : indexByte ((92 :: 117 :: u).take 6) 125 < 4) : escL (92 :: 117 :: u) = none := by
  cases e : escL (92 :: 117 :: u) with
  | none => rfl
  | some c =>
    rcases num_at rfl e with ⟨x, t, hl, hx, _, _⟩ | ⟨x, y, t, hl, hx, hy, _, _⟩
    · simp only [List.cons.injEq, true_and] at hl
      rw [ix4 (by decide) hx hl] at h
      omega
    · simp only [List.cons.injEq, true_and] at hl
      rw [ix5 (by decide) hx hy hl] at h
      omega
theorem esc_num1 {a b : UInt8} {t : List UInt8} (hi : indexByte ((92 :: 117 :: a :: b :: 125 :: t).take 6) 125 = 4) : escL (92 :: 117 :: a :: b :: 125 :: t) = (puL [b]).bind fun n => if shR n = [92, 117, a, b, 125] then some n else none := by
  cases e : escL (92 :: 117 :: a :: b :: 125 :: t) with
  | some c =>
    rcases num_at rfl e with ⟨x, t', hl, hx, hp, hs⟩ | ⟨x, y, t', hl, hx, hy, hp, hs⟩
    · simp only [List.cons.injEq, true_and] at hl
      obtain ⟨rfl, rfl, -⟩ := hl
      rw [hp]
      simp [hs]
    · have := ix5 (by decide) hx hy (show a :: b :: 125 :: t = 123 :: x :: y :: 125 :: t' by simpa using hl)
      rw [this] at hi
      omega
  | none =>
    cases hp : puL [b] with
    | none => rfl
    | some n =>
      show none = if _ then _ else _
      rw [if_neg]
      intro hs
      have hlt := num_small ⟨n, puL_lt hp⟩ (by show (shR n).head? = _; rw [hs]; rfl)
      rw [escL_of hlt (by rw [hs]; rfl) (by rw [hs]; exact ⟨t, rfl⟩)] at e
      cases e
theorem esc_num2 {a b c : UInt8} {t : List UInt8} (hi : indexByte ((92 :: 117 :: a :: b :: c :: 125 :: t).take 6) 125 = 5) : escL (92 :: 117 :: a :: b :: c :: 125 :: t) = (puL [b, c]).bind fun n => if shR n = [92, 117, a, b, c, 125] then some n else none := by
  cases e : escL (92 :: 117 :: a :: b :: c :: 125 :: t) with
  | some d =>
    rcases num_at rfl e with ⟨x, t', hl, hx, hp, hs⟩ | ⟨x, y, t', hl, hx, hy, hp, hs⟩
    · have := ix4 (by decide) hx (show a :: b :: c :: 125 :: t = 123 :: x :: 125 :: t' by simpa using hl)
      rw [this] at hi
      omega
    · simp only [List.cons.injEq, true_and] at hl
      obtain ⟨rfl, rfl, rfl, -⟩ := hl
      rw [hp]
      simp [hs]
  | none =>
    cases hp : puL [b, c] with
    | none => rfl
    | some n =>
      show none = if _ then _ else _
      rw [if_neg]
      intro hs
      have hlt := num_small ⟨n, puL_lt hp⟩ (by show (shR n).head? = _; rw [hs]; rfl)
      rw [escL_of hlt (by rw [hs]; rfl) (by rw [hs]; exact ⟨t, rfl⟩)] at e
      cases e

/-! ### a rune within a text -/
theorem shR_plain {c : Nat} (h1 : 32 ≤ c) (h2 : c ≠ 127) (h3 : c ≠ 34) (h4 : c ≠ 92) : shR c = enc c := by
  unfold shR
  rw [if_neg h3, if_neg h4, if_neg (by omega), if_neg (by omega), if_neg (by omega), if_neg (by omega), if_neg (by omega)]
theorem dec_ascii {b : UInt8} {t : List UInt8} (h : b.toNat < 128) : decodeL (b :: t) = (b.toNat, 1) := by
  rw [decodeL_N]
  unfold decodeN
  simp only [List.getD_cons_zero]
  rw [if_pos h]
theorem dec_small {l : List UInt8} {c : Nat} (hne : l ≠ []) (hc : (decodeL l).1 = c) (h : c < 128) : ∃ b t, l = b :: t ∧ b.toNat = c := by
  cases l with
  | nil => exact absurd rfl hne
  | cons b t =>
    refine ⟨b, t, rfl, ?_⟩
    by_cases hb : b.toNat < 128
    · rw [dec_ascii hb] at hc; exact hc
    · exfalso
      rw [decodeL_N] at hc
      unfold decodeN at hc
      simp only [List.getD_cons_zero] at hc
      rw [if_neg hb] at hc
      split at hc
      · split at hc <;> simp only at hc <;> omega
      split at hc
      · split at hc <;> simp only at hc <;> omega
      split at hc
      · split at hc <;> simp only at hc <;> omega
      · simp only at hc; omega
/-- What decodes well is what the rune encodes to. -/
theorem enc_dec {l : List UInt8} (hne : l ≠ []) (h : ¬ ((decodeL l).1 = 65533 ∧ (decodeL l).2 = 1)) : enc (decodeL l).1 = l.take (decodeL l).2 := by
  have he := encode_decode l hne h
  rw [← he]
  have hs := decodeL_scal l
  generalize (decodeL l).1 = c at hs
  by_cases h1 : c < 128
  · rw [enc1 h1, encodeRune, encodeRuneZ_one (by omega) (by omega)]; simp
  by_cases h2 : c < 2048
  · rw [enc2 (by omega) h2, encodeRune, encodeRuneZ_two (by omega) (by omega)]
    simp only [List.map_cons, List.map_nil]
    congr 1
  by_cases h3 : c < 65536
  · rw [enc3 (by omega) h3 hs, encodeRune, encodeRuneZ_three (by unfold scal at hs; omega)]
    simp only [List.map_cons, List.map_nil]
    congr 1
  · rw [enc4 (by omega) hs, encodeRune, encodeRuneZ_four (by omega) (by unfold scal at hs; omega)]
    simp only [List.map_cons, List.map_nil]
    congr 1
/-- What is said of a rune that was read: it is written so. -/
theorem runeL_spec {l : List UInt8} {c d : Nat} (h : runeL l = some (c, d)) (hq : l.head? ≠ some 34) : shR c = l.take d ∧ 1 ≤ d ∧ d ≤ l.length ∧ scal c ∧ (enc c).length ≤ d := by
  unfold runeL at h
  split at h
  · rename_i h92
    cases e : escL l with
    | none => rw [e] at h; cases h
    | some x =>
      rw [e] at h
      simp only [Option.map_some, Option.some.injEq, Prod.mk.injEq] at h
      obtain ⟨rfl, rfl⟩ := h
      obtain ⟨a, b, p⟩ := escL_spec e
      have hl := p.length_le
      have h1 : 1 ≤ (shR x).length := by
        cases hh : shR x with
        | nil => rw [hh] at b; cases b
        | cons _ _ => simp
      exact ⟨List.prefix_iff_eq_take.1 p, h1, hl, .inl (by omega), by rw [enc1 a]; exact h1⟩
  · rename_i h92
    split at h
    · cases h
    · rename_i hn
      simp only [not_or] at hn
      obtain ⟨hne, hbad, h32, h127⟩ := hn
      simp only [Option.some.injEq] at h
      have ed : enc c = l.take d := by have := enc_dec hne hbad; rw [h] at this; exact this
      have hw := decodeL_width l
      have hle := decodeL_le l hne
      rw [h] at hw hle h32 h127
      simp only at hw hle h32 h127
      have h34 : c ≠ 34 := fun e => by
        obtain ⟨b, t, rfl, hb⟩ := dec_small (c := 34) hne (by rw [h]; exact e) (by decide)
        exact hq (by simp only [List.head?_cons]; exact congrArg some (UInt8.toNat_inj.1 hb))
      have h92' : c ≠ 92 := fun e => by
        obtain ⟨b, t, rfl, hb⟩ := dec_small (c := 92) hne (by rw [h]; exact e) (by decide)
        exact h92 (by simp only [List.head?_cons]; exact congrArg some (UInt8.toNat_inj.1 hb))
      have hsc := decodeL_scal l
      rw [h] at hsc
      refine ⟨by rw [shR_plain (by omega) h127 h34 h92', ed], by omega, hle, hsc, ?_⟩
      rw [ed, List.length_take]
      omega
theorem txGo_fuel : ∀ (n m : Nat) (acc l : List UInt8), l.length < n → l.length < m → txGo n acc l = txGo m acc l
  | 0, _, _, _, h, _ => absurd h (by omega)
  | _ + 1, 0, _, _, _, h => absurd h (by omega)
  | n + 1, m + 1, acc, l, hn, hm => by
    unfold txGo
    by_cases hq : l.head? = some 34
    · rw [if_pos hq, if_pos hq]
    · rw [if_neg hq, if_neg hq]
      cases e : runeL l with
      | none => rfl
      | some p =>
        obtain ⟨c, d⟩ := p
        obtain ⟨-, h1, h2, -, -⟩ := runeL_spec e hq
        exact txGo_fuel n m _ _ (by rw [List.length_drop]; omega) (by rw [List.length_drop]; omega)
theorem txs_end {acc l : List UInt8} (h : l.head? = some 34) : txs acc l = some (acc, l.drop 1) := by
  unfold txs txGo
  rw [if_pos h]
theorem txs_none {acc l : List UInt8} (h : l.head? ≠ some 34) (hr : runeL l = none) : txs acc l = none := by
  unfold txs txGo
  rw [if_neg h, hr]
theorem txs_step {acc l : List UInt8} {c d : Nat} (h : l.head? ≠ some 34) (hr : runeL l = some (c, d)) : txs acc l = txs (acc ++ enc c) (l.drop d) := by
  obtain ⟨-, h1, h2, -, -⟩ := runeL_spec hr h
  conv => lhs; unfold txs txGo
  rw [if_neg h, hr]
  exact txGo_fuel _ _ _ _ (by rw [List.length_drop]; omega) (Nat.lt_succ_self _)
end Go.Proofs.YtacpllmlpmllbaaGreatDoor.V
/- The shelf's contracts of utf8.AppendRune and strconv.toError, at this program, laid by the shelf's tool in plain words. -/
namespace Go.Proofs
open Go.Shelf
def Tryz.lays242_ren : Go.Shelf.Ren := ⟨fun | 242 => 235 | 278 => 249 | n => n, fun | 37 => 92 | 21 => 21 | 51 => 193 | 4 => 4 | 5 => 5 | 46 => 153 | n => n, fun | n => n⟩
theorem Tryz.lays242 : Go.Proofs.Lays.n242 Tryz.prog Tryz.lays242_ren := {
  mixed := by kernel_rfl
  f242 := Tryz.func235.trans (congrArg some (by kernel_rfl))
  f278 := Tryz.func249.trans (congrArg some (by kernel_rfl))
  t4 := Tryz.underlying4
  a4 := Tryz.isAgg4
  z4 := Tryz.sizeOf4
  v4 := Tryz.zeroValue4
  t5 := Tryz.underlying5
  a5 := Tryz.isAgg5
  z5 := Tryz.sizeOf5
  v5 := Tryz.zeroValue5
  t21 := Tryz.underlying21
  a21 := Tryz.isAgg21
  z21 := Tryz.sizeOf21
  v21 := Tryz.zeroValue21
  t37 := Tryz.underlying92
  a37 := Tryz.isAgg92
  z37 := Tryz.sizeOf92
  v37 := Tryz.zeroValue92
  t46 := Tryz.underlying153
  a46 := Tryz.isAgg153
  z46 := Tryz.sizeOf153
  v46 := Tryz.zeroValue153
  t51 := Tryz.underlying193
  a51 := Tryz.isAgg193
  z51 := Tryz.sizeOf193
  v51 := Tryz.zeroValue193 }
open Go.RowKit in
theorem Tryz.utf8_AppendRune_row (B : Nat) (v : Value) (n : Nat) (xs : List Value) (r : Int) (hr0 : -2147483648 ≤ r) (hr1 : r ≤ 2147483647) (w : World) (hown : w.ownsRowF B 5 1 v n xs) (hlen : n + 4 ≤ 140737488355328) (hBw : B ≤ w.heap.size) :
    Calls Tryz.prog 235 #[v, .int .i32 r] w fun e w' => ∃ v', e = .returned v' ∧ w'.ownsRowF B 5 1 v' (n + (Lib.runeCells r).length) (xs ++ Lib.runeCells r) ∧ ∃ o, (w.alloc o).grownBy w' v.ownBlock := Any.utf8_AppendRune_row Tryz.lays242 (by kernel_rfl) B v n xs r hr0 hr1 w hown hlen hBw
def Tryz.laysPu17_ren : Go.Shelf.Ren := ⟨fun | 17 => 184 | 21 => 223 | 22 => 224 | 23 => 225 | 24 => 226 | 25 => 244 | 27 => 60 | 26 => 245 | 28 => 108 | 29 => 154 | 30 => 198 | 31 => 199 | 32 => 200 | 33 => 201 | 35 => 164 | 34 => 230 | 36 => 231 | 37 => 232 | 38 => 151 | 39 => 195 | 40 => 196 | n => n, fun | 9 => 9 | 3 => 3 | 24 => 96 | 34 => 236 | 4 => 4 | 39 => 239 | 44 => 267 | 37 => 92 | 0 => 0 | 47 => 148 | 50 => 276 | 48 => 274 | 2 => 2 | 52 => 221 | 22 => 152 | 5 => 5 | 55 => 223 | 59 => 249 | 60 => 193 | 20 => 20 | 61 => 250 | 36 => 153 | 65 => 246 | 66 => 247 | 67 => 100 | n => n, fun | 0 => 6 | 1 => 7 | 2 => 5 | 3 => 3 | 4 => 4 | n => n⟩
theorem Tryz.laysPu17 : Go.Proofs.LaysPu.n17 Tryz.prog Tryz.laysPu17_ren := {
  mixed := by kernel_rfl
  f17 := Tryz.func184.trans (congrArg some (by kernel_rfl))
  f21 := Tryz.func223.trans (congrArg some (by kernel_rfl))
  f22 := Tryz.func224.trans (congrArg some (by kernel_rfl))
  f23 := Tryz.func225.trans (congrArg some (by kernel_rfl))
  f24 := Tryz.func226.trans (congrArg some (by kernel_rfl))
  f25 := Tryz.func244.trans (congrArg some (by kernel_rfl))
  f26 := Tryz.func245.trans (congrArg some (by kernel_rfl))
  f27 := Tryz.func60.trans (congrArg some (by kernel_rfl))
  f28 := Tryz.func108.trans (congrArg some (by kernel_rfl))
  f29 := Tryz.func154.trans (congrArg some (by kernel_rfl))
  f30 := Tryz.func198.trans (congrArg some (by kernel_rfl))
  f31 := Tryz.func199.trans (congrArg some (by kernel_rfl))
  f32 := Tryz.func200.trans (congrArg some (by kernel_rfl))
  f33 := Tryz.func201.trans (congrArg some (by kernel_rfl))
  f34 := Tryz.func230.trans (congrArg some (by kernel_rfl))
  f35 := Tryz.func164.trans (congrArg some (by kernel_rfl))
  f36 := Tryz.func231.trans (congrArg some (by kernel_rfl))
  f37 := Tryz.func232.trans (congrArg some (by kernel_rfl))
  f38 := Tryz.func151.trans (congrArg some (by kernel_rfl))
  f39 := Tryz.func195.trans (congrArg some (by kernel_rfl))
  f40 := Tryz.func196.trans (congrArg some (by kernel_rfl))
  t0 := Tryz.underlying0
  a0 := Tryz.isAgg0
  z0 := Tryz.sizeOf0
  v0 := Tryz.zeroValue0
  i0 := by kernel_rfl
  t2 := Tryz.underlying2
  a2 := Tryz.isAgg2
  z2 := Tryz.sizeOf2
  v2 := Tryz.zeroValue2
  i2 := by kernel_rfl
  t3 := Tryz.underlying3
  a3 := Tryz.isAgg3
  z3 := Tryz.sizeOf3
  v3 := Tryz.zeroValue3
  i3 := by kernel_rfl
  t4 := Tryz.underlying4
  a4 := Tryz.isAgg4
  z4 := Tryz.sizeOf4
  v4 := Tryz.zeroValue4
  i4 := by kernel_rfl
  t5 := Tryz.underlying5
  a5 := Tryz.isAgg5
  z5 := Tryz.sizeOf5
  v5 := Tryz.zeroValue5
  i5 := by kernel_rfl
  t9 := Tryz.underlying9
  a9 := Tryz.isAgg9
  z9 := Tryz.sizeOf9
  v9 := Tryz.zeroValue9
  i9 := by kernel_rfl
  t20 := Tryz.underlying20
  a20 := Tryz.isAgg20
  z20 := Tryz.sizeOf20
  v20 := Tryz.zeroValue20
  i20 := by kernel_rfl
  t22 := Tryz.underlying152
  a22 := Tryz.isAgg152
  z22 := Tryz.sizeOf152
  v22 := Tryz.zeroValue152
  i22 := by kernel_rfl
  t24 := Tryz.underlying96
  a24 := Tryz.isAgg96
  z24 := Tryz.sizeOf96
  v24 := Tryz.zeroValue96
  i24 := by kernel_rfl
  t34 := Tryz.underlying236
  a34 := Tryz.isAgg236
  z34 := Tryz.sizeOf236
  v34 := Tryz.zeroValue236
  i34 := by kernel_rfl
  c34 := by kernel_rfl
  t36 := Tryz.underlying153
  a36 := Tryz.isAgg153
  z36 := Tryz.sizeOf153
  v36 := Tryz.zeroValue153
  i36 := by kernel_rfl
  t37 := Tryz.underlying92
  a37 := Tryz.isAgg92
  z37 := Tryz.sizeOf92
  v37 := Tryz.zeroValue92
  i37 := by kernel_rfl
  t39 := Tryz.underlying239
  a39 := Tryz.isAgg239
  z39 := Tryz.sizeOf239
  v39 := Tryz.zeroValue239
  i39 := by kernel_rfl
  t44 := Tryz.underlying267
  a44 := Tryz.isAgg267
  z44 := Tryz.sizeOf267
  v44 := Tryz.zeroValue267
  i44 := by kernel_rfl
  t47 := Tryz.underlying148
  a47 := Tryz.isAgg148
  z47 := Tryz.sizeOf148
  v47 := Tryz.zeroValue148
  i47 := by kernel_rfl
  t48 := Tryz.underlying274
  a48 := Tryz.isAgg274
  z48 := Tryz.sizeOf274
  v48 := Tryz.zeroValue274
  i48 := by kernel_rfl
  t50 := Tryz.underlying276
  a50 := Tryz.isAgg276
  z50 := Tryz.sizeOf276
  v50 := Tryz.zeroValue276
  i50 := by kernel_rfl
  t52 := Tryz.underlying221
  a52 := Tryz.isAgg221
  z52 := Tryz.sizeOf221
  v52 := Tryz.zeroValue221
  i52 := by kernel_rfl
  t55 := Tryz.underlying223
  a55 := Tryz.isAgg223
  z55 := Tryz.sizeOf223
  v55 := Tryz.zeroValue223
  i55 := by kernel_rfl
  t59 := Tryz.underlying249
  a59 := Tryz.isAgg249
  z59 := Tryz.sizeOf249
  v59 := Tryz.zeroValue249
  i59 := by kernel_rfl
  t60 := Tryz.underlying193
  a60 := Tryz.isAgg193
  z60 := Tryz.sizeOf193
  v60 := Tryz.zeroValue193
  i60 := by kernel_rfl
  t61 := Tryz.underlying250
  a61 := Tryz.isAgg250
  z61 := Tryz.sizeOf250
  t65 := Tryz.underlying246
  a65 := Tryz.isAgg246
  z65 := Tryz.sizeOf246
  v65 := Tryz.zeroValue246
  i65 := by kernel_rfl
  t66 := Tryz.underlying247
  a66 := Tryz.isAgg247
  z66 := Tryz.sizeOf247
  v66 := Tryz.zeroValue247
  i66 := by kernel_rfl
  t67 := Tryz.underlying100
  a67 := Tryz.isAgg100
  z67 := Tryz.sizeOf100
  v67 := Tryz.zeroValue100
  i67 := by kernel_rfl
  g0 := by kernel_rfl
  m0 := by kernel_rfl
  g1 := by kernel_rfl
  m1 := by kernel_rfl
  g2 := by kernel_rfl
  m2 := by kernel_rfl
  g3 := by kernel_rfl
  m3 := by kernel_rfl
  g4 := by kernel_rfl
  m4 := by kernel_rfl }
open Go.RowKit in
theorem Tryz.strconv_toError_syntax (fn s : ByteArray) (base bits : Int) (ev : Value) (w : World) (hlim : s.size ≤ 281474976710656) (hv : w.cell? ⟨6, 0, none⟩ = some ev) (hev : ev = .nilIface ∨ ∃ te pe, ev = .iface te pe) :
    Calls Tryz.prog 184 #[.string fn, .string s, .int .i64 base, .int .i64 bits, .iface 236 (.int .i64 2)] w fun e w' => ∃ N, e = .returned (.iface 239 (.pointer (some ⟨N, 0, none⟩))) ∧ w.heap.size ≤ N ∧ w'.heap[N]? = some (.cells #[.string fn, .string s, ev] 267 (0, 0)) ∧ Below w.heap.size w w' := AnyPu.strconv_toError_syntax Tryz.laysPu17 fn s base bits ev w hlim hv hev
end Go.Proofs
/- strconv.ParseUint at base 16 and 8 bits, of one or two bytes: walks. -/
namespace Go.Proofs.YtacpllmlpmllbaaGreatDoor.V
open Go.RowKit

def puG : Nat → List UInt8 → Option Nat
  | acc, [] => some acc
  | acc, c :: t => match puD c with
    | none => none
    | some d => puG (16 * acc + d) t
theorem puG_puL {l : List UInt8} (h1 : l.length ≠ 0) (h2 : l.length ≤ 2) : puG 0 l = puL l := by
  match l, h1, h2 with
  | [x], _, _ =>
    simp only [puG, puL]
    cases puD x <;> simp
  | [x, y], _, _ =>
    simp only [puG, puL]
    cases puD x with
    | none => rfl
    | some d =>
      simp only
      cases puD y <;> simp
/-- What the inner ParseUint hands back. -/
def puVal : Option Nat → Value
  | some n => .tuple #[.int .u64 (n : Int), .nilIface]
  | none => .tuple #[.int .u64 0, .iface 236 (.int .i64 2)]
theorem or32 : ∀ n : Fin 256, bits BinOp.or IntKind.u8 (n.val : Int) 32 = ((n.val ||| 32 : Nat) : Int) := by decide +kernel
theorem or32_lt : ∀ n : Fin 256, (n.val ||| 32) < 256 := by decide +kernel
theorem lower_any (c : Nat) (w : World) (h : c < 256) : Calls Tryz.prog 252 #[.int .u8 (c : Int)] w fun e w' => e = .returned (.int .u8 ((c ||| 32 : Nat) : Int)) ∧ w' = w := by
  have ho := or32 ⟨c, h⟩
  simp only at ho
  go_enter Tryz.func252, Tryz.ntmps252
  go_wp2
  go_ret
  exact ⟨rfl, rfl⟩
theorem bytesWorld_below (w : World) (e : TypeId) (s : ByteArray) : Below w.heap.size w (Lib.bytesWorld w e s) := ⟨rfl, rfl, rfl, by rw [Lib.bytesWorld_size]; exact Nat.le_succ _, fun k hk => Lib.bytesWorld_at_old w e s k hk⟩
set_option maxHeartbeats 8000000 in
set_option maxRecDepth 100000 in
theorem parseUint_i (t : ByteArray) (w : World) (h1 : t.size ≠ 0) (h2 : t.size ≤ 2) :
    Calls Tryz.prog 243 #[.string t, .int .i64 16, .int .i64 8] w fun e w' => e = .returned (puVal (puG 0 t.data.toList)) ∧ Below w.heap.size w w' := by
  have hemp : t.toList.isEmpty = false := empty_not t h1
  have hcv := Lib.run_convert_string_bytes (P := Tryz.prog) w 9 92 5 t (u := .string) Tryz.underlying9 Tryz.underlying92 Tryz.underlying5
  have hB : ∀ j, j < t.size → (Lib.bytesWorld w 5 t).cell? ⟨w.heap.size, j, none⟩ = some (.int .u8 (t.data.toList.getD j 0).toNat) := fun j hj => Lib.bytesWorld_cell w 5 t j hj
  have HW : Hid (Below w.heap.size w (Lib.bytesWorld w 5 t)) := bytesWorld_below w _ t
  generalize Lib.bytesWorld w 5 t = W1 at *
  obtain ⟨bs, hL⟩ : ∃ bs, bs = t.data.toList := ⟨_, rfl⟩
  have hLn : bs.length = t.size := by rw [hL, Lib.size_eq]
  rw [← hL] at hB ⊢
  clear hL h1
  have hmv : IntKind.u64.wrap (IntKind.u64.wrap 256 - 1) = 255 := by decide +kernel
  go_enter Tryz.func243, Tryz.ntmps243
  go_wp2
  go_loop [12, 13, 101] (fun vu vn vi => ∃ (k acc : Nat) (a : Int), vu = .bool false ∧ vn = .int .u64 a ∧ vi = .int .i64 k ∧ k ≤ t.size ∧ Hid (a = (acc : Int) ∧ (k = 0 → acc = 0) ∧ (k = 1 → acc < 16) ∧ acc < 256 ∧ puG 0 bs = puG acc (bs.drop k)))
    (fun _ _ vi => t.size - (intOf vi).toNat)
  case atStart => exact ⟨0, 0, 0, rfl, rfl, rfl, by omega, rfl, fun _ => rfl, fun h => by omega, by omega, rfl⟩
  case round =>
    obtain ⟨k, acc, a, rfl, rfl, rfl, hk, hh⟩ := hrel
    obtain ⟨ha, hk0, hk1, hacc, hdec⟩ := hh.out
    clear hh
    by_cases hkn : k < t.size
    · have hc := hB k hkn
      have hdrop : bs.drop k = bs[k]'(by omega) :: bs.drop (k + 1) := List.drop_eq_getElem_cons (by omega)
      have hget : bs.getD k 0 = bs[k]'(by omega) := by simp [List.getD, List.getElem?_eq_getElem (show k < bs.length by omega)]
      rw [hdrop] at hdec
      rw [hget] at hc
      generalize bs[k]'(by omega) = c at hc hdec
      have hc256 : c.toNat < 256 := c.toNat_lt
      have hacc16 : acc < 16 := by
        rcases Nat.lt_or_ge 0 k with h | h
        · exact hk1 (by omega)
        · rw [hk0 (by omega)]; decide
      clear hB hdrop hget
      by_cases hdig : 48 ≤ c.toNat ∧ c.toNat ≤ 57
      · have hF : puG acc (c :: bs.drop (k + 1)) = puG (16 * acc + (c.toNat - 48)) (bs.drop (k + 1)) := by
          simp only [puG, puD, if_pos hdig]
        obtain ⟨hd0, hd1⟩ := hdig
        have HN : Hid (a * 16 + ((c.toNat : Int) - 48) = ((16 * acc + (c.toNat - 48) : Nat) : Int) ∧ (k + 1 = 0 → 16 * acc + (c.toNat - 48) = 0) ∧ (k + 1 = 1 → 16 * acc + (c.toNat - 48) < 16) ∧ 16 * acc + (c.toNat - 48) < 256 ∧ puG 0 bs = puG (16 * acc + (c.toNat - 48)) (bs.drop (k + 1))) := ⟨by omega, fun h => by omega, fun h => by have := hk0 (by omega); omega, by omega, hdec.trans hF⟩
        have a0 : 0 ≤ a := by omega
        have a1 : a < 16 := by omega
        clear hF hdec ha hk0 hk1 hacc hacc16
        go_wp2
        refine ⟨⟨k + 1, 16 * acc + (c.toNat - 48), a * 16 + ((c.toNat : Int) - 48), rfl, (by first | rfl | (congr 1; omega)), (by first | rfl | (congr 1; omega)), by omega, HN⟩, by simp [intOf]; omega⟩
      · have ho := or32_lt ⟨c.toNat, hc256⟩
        simp only at ho
        by_cases hlet : 97 ≤ (c.toNat ||| 32) ∧ (c.toNat ||| 32) ≤ 102
        · have hF : puG acc (c :: bs.drop (k + 1)) = puG (16 * acc + ((c.toNat ||| 32) - 87)) (bs.drop (k + 1)) := by
            simp only [puG, puD, if_neg hdig, if_pos hlet]
          have HL : Hid (∀ w : World, Calls Tryz.prog 252 #[.int .u8 (c.toNat : Int)] w fun e w' => e = .returned (.int .u8 ((c.toNat ||| 32 : Nat) : Int)) ∧ w' = w) := fun w => lower_any c.toNat w hc256
          generalize (c.toNat ||| 32) = m at *
          obtain ⟨hm0, hm1⟩ := hlet
          have HN : Hid (a * 16 + ((m : Int) - 87) = ((16 * acc + (m - 87) : Nat) : Int) ∧ (k + 1 = 0 → 16 * acc + (m - 87) = 0) ∧ (k + 1 = 1 → 16 * acc + (m - 87) < 16) ∧ 16 * acc + (m - 87) < 256 ∧ puG 0 bs = puG (16 * acc + (m - 87)) (bs.drop (k + 1))) := ⟨by omega, fun h => by omega, fun h => by have := hk0 (by omega); omega, by omega, hdec.trans hF⟩
          have a0 : 0 ≤ a := by omega
          have a1 : a < 16 := by omega
          have n95 : ((c.toNat : Int) == 95) = false ∨ ((c.toNat : Int) == 95) = true := by cases ((c.toNat : Int) == 95) <;> simp
          have nd : (decide ((48 : Int) ≤ c.toNat) = false) ∨ (decide ((48 : Int) ≤ c.toNat) = true ∧ decide ((c.toNat : Int) ≤ 57) = false) := by
            by_cases h48 : 48 ≤ c.toNat
            · exact .inr ⟨by simp; omega, by simp; omega⟩
            · exact .inl (by simp; omega)
          have d1 : decide ((97 : Int) ≤ m) = true := by simp; omega
          have d2 : decide ((m : Int) ≤ 122) = true := by simp; omega
          clear hF hdec ha hk0 hk1 hacc hacc16 hdig
          rcases nd with nd | ⟨nd, nd2⟩
          all_goals
            rcases n95 with n95 | n95
            all_goals
              go_wp2_with (go_at_call 252; refine (HL.out _).mono ?_; rintro e w' ⟨rfl, rfl⟩)
              refine ⟨⟨k + 1, 16 * acc + (m - 87), a * 16 + ((m : Int) - 87), rfl, (by first | rfl | (congr 1; omega)), (by first | rfl | (congr 1; omega)), by omega, HN⟩, by simp [intOf]; omega⟩
        · have hF : puG acc (c :: bs.drop (k + 1)) = none := by
            simp only [puG, puD, if_neg hdig, if_neg hlet]
          have HD : Hid (puG 0 bs = none) := hdec.trans hF
          have HL : Hid (∀ w : World, Calls Tryz.prog 252 #[.int .u8 (c.toNat : Int)] w fun e w' => e = .returned (.int .u8 ((c.toNat ||| 32 : Nat) : Int)) ∧ w' = w) := fun w => lower_any c.toNat w hc256
          generalize (c.toNat ||| 32) = m at *
          have n95 : ((c.toNat : Int) == 95) = false ∨ ((c.toNat : Int) == 95) = true := by cases ((c.toNat : Int) == 95) <;> simp
          have nd : (decide ((48 : Int) ≤ c.toNat) = false) ∨ (decide ((48 : Int) ≤ c.toNat) = true ∧ decide ((c.toNat : Int) ≤ 57) = false) := by
            by_cases h48 : 48 ≤ c.toNat
            · exact .inr ⟨by simp; omega, by simp; omega⟩
            · exact .inl (by simp; omega)
          have nm : (decide ((97 : Int) ≤ m) = false) ∨ (decide ((97 : Int) ≤ m) = true ∧ decide ((m : Int) ≤ 122) = false) ∨ (decide ((97 : Int) ≤ m) = true ∧ decide ((m : Int) ≤ 122) = true ∧ 103 ≤ m ∧ m ≤ 122) := by
            by_cases h97 : 97 ≤ m
            · by_cases h122 : m ≤ 122
              · exact .inr (.inr ⟨by simp; omega, by simp; omega, by omega, h122⟩)
              · exact .inr (.inl ⟨by simp; omega, by simp; omega⟩)
            · exact .inl (by simp; omega)
          clear hF hdec ha hk0 hk1 hacc hacc16 hdig hlet
          rcases nd with nd | ⟨nd, nd2⟩
          all_goals
            rcases n95 with n95 | n95
            all_goals
              rcases nm with nm | ⟨nm, nm2⟩ | ⟨nm, nm2, nm3, nm4⟩
              all_goals
                go_wp2_with (go_at_call 252; refine (HL.out _).mono ?_; rintro e w' ⟨rfl, rfl⟩)
                go_ret2
                exact ⟨by rw [HD.out]; rfl, HW.out⟩
    · have hkk : k = t.size := by omega
      subst hkk
      have hF : puG acc (bs.drop t.size) = some acc := by rw [List.drop_eq_nil_of_le (by omega)]; rfl
      rw [hF] at hdec
      have HD : Hid (puG 0 bs = some acc) := hdec
      subst ha
      clear hacc hF hk0 hk1 hdec hB
      go_wp2
      go_ret2
      exact ⟨by rw [HD.out]; rfl, HW.out⟩
end Go.Proofs.YtacpllmlpmllbaaGreatDoor.V
