/- Tokens: which stands at the front of a text; all of a text's. Plain, of no program. -/
import Derived.Test.YtdendpckihckeabDoorZb3
import Derived.Lib.ValidLaws
import Derived.Test.YtdendpckihckeabDoorZb1
import Derived.Shelf.Small.Strs
import Derived.Shelf.Utf8.AppendRune
import Derived.Shelf.Pu.ToError
import Derived.Ground.MpProg
import Derived.Test.YtdendpckihckeabDoorProg
import Derived.Test.YtdendpckihckeabDoorZb2
import Derived.Lib.ConvBytes
namespace Go.Proofs.YtdendpckihckeabDoor
open Go.Lib
set_option maxRecDepth 100000

/-- Does a word, once begun, go on with a rune? -/
def goC (c : Nat) : Bool := letterN c || (decide (48 ≤ c ∧ c ≤ 57) || (c == 95 || c == 45))
def wgGo : Nat → List UInt8 → Nat
  | 0, _ => 0
  | n + 1, l => if l = [] then 0 else if goC (decodeL l).1 = true then (decodeL l).2 + wgGo n (l.drop (decodeL l).2) else 0
/-- With how many bytes a word, once begun, goes on. -/
def wgo (l : List UInt8) : Nat := wgGo l.length l
theorem wgGo_fuel : ∀ (n m : Nat) (l : List UInt8), l.length ≤ n → l.length ≤ m → wgGo n l = wgGo m l
  | 0, m, l, hn, _ => by
    obtain rfl : l = [] := List.eq_nil_of_length_eq_zero (by omega)
    cases m <;> simp [wgGo]
  | n + 1, 0, l, _, hm => by
    obtain rfl : l = [] := List.eq_nil_of_length_eq_zero (by omega)
    simp [wgGo]
  | n + 1, m + 1, l, hn, hm => by
    unfold wgGo
    by_cases hne : l = []
    · rw [if_pos hne, if_pos hne]
    · have hw := decodeL_width l
      have hl : 0 < l.length := List.length_pos_iff.2 hne
      rw [if_neg hne, if_neg hne, wgGo_fuel n m (l.drop (decodeL l).2) (by rw [List.length_drop]; omega) (by rw [List.length_drop]; omega)]
theorem wgo_nil : wgo [] = 0 := rfl
theorem wgo_step {l : List UInt8} (hne : l ≠ []) : wgo l = if goC (decodeL l).1 = true then (decodeL l).2 + wgo (l.drop (decodeL l).2) else 0 := by
  have hw := decodeL_width l
  have hl : 0 < l.length := List.length_pos_iff.2 hne
  obtain ⟨n, hn⟩ : ∃ n, l.length = n + 1 := ⟨l.length - 1, by omega⟩
  conv => lhs; unfold wgo; rw [hn]; unfold wgGo
  rw [if_neg hne, wgGo_fuel n (l.drop (decodeL l).2).length _ (by rw [List.length_drop]; omega) (Nat.le_refl _)]
  rfl
theorem wgo_le : ∀ (n : Nat) (l : List UInt8), l.length ≤ n → wgo l ≤ l.length
  | 0, l, h => by
    obtain rfl : l = [] := List.eq_nil_of_length_eq_zero (by omega)
    exact Nat.le_refl _
  | n + 1, l, h => by
    by_cases hne : l = []
    · subst hne; exact Nat.le_refl _
    · have hw := decodeL_width l
      have hle := decodeL_le l hne
      rw [wgo_step hne]
      split
      · have := wgo_le n (l.drop (decodeL l).2) (by rw [List.length_drop]; omega)
        rw [List.length_drop] at this
        omega
      · exact Nat.zero_le _
/-- How many bytes the word at the front has. -/
def wsz (l : List UInt8) : Nat := if l ≠ [] ∧ ((decodeL l).1 = 95 ∨ letterN (decodeL l).1 = true) then wgo l else 0
def marks1 : List UInt8 := [61, 60, 62, 123, 125, 40, 41, 44]
/-- How many bytes the mark at the front has. -/
def msz (l : List UInt8) : Nat :=
  if hasPrefix l [33, 61] = true ∨ hasPrefix l [60, 61] = true ∨ hasPrefix l [62, 61] = true then 2
  else if 0 ≤ indexByte marks1 (l.getD 0 0) then 1 else 0
/-- A token. -/
structure Tk where
  k : Int
  p : Int
  s : List UInt8
  vk : Int
  vn : Int
  vs : List UInt8
/-- A token at the front, its size, and the error. -/
structure Ct where
  t : Tk
  z : Nat
  e : Int
def Ct.bad (e : Int) : Ct := ⟨⟨0, 0, [], 0, 0, []⟩, 0, e⟩
def cutL (l : List UInt8) : Ct :=
  if (scn l).e = 2 then .bad 2
  else if (scn l).e = 0 ∧ wgo (scn l).r = 0 then ⟨⟨2, 0, [], (scn l).k, (scn l).n, (scn l).s⟩, l.length - (scn l).r.length, 0⟩
  else if 0 < wsz l then ⟨⟨1, 0, l.take (wsz l), 0, 0, []⟩, wsz l, 0⟩
  else if 0 < msz l then ⟨⟨3, 0, l.take (msz l), 0, 0, []⟩, msz l, 0⟩
  else .bad 3
def blankN (c : Nat) : Bool := c == 32 || (c == 9 || (c == 10 || c == 13))
/-- What cutting answers: the tokens, a place, the error. -/
structure Lx where
  l : List Tk
  a : Int
  e : Int
def lxEnd (at' : Nat) (long : Int) (acc : List Tk) : Lx := if 0 ≤ long then ⟨[], long, 2⟩ else ⟨acc, at', 0⟩
def lxGo : Nat → List UInt8 → Nat → Nat → Nat → Int → List Tk → Lx
  | 0, _, _, at', _, long, acc => lxEnd at' long acc
  | n + 1, l, pos, at', en, long, acc =>
    if l = [] then lxEnd at' long acc
    else if en ≤ pos ∧ blankN (decodeL l).1 = false then
      if (cutL l).e = 3 then ⟨[], at', 3⟩
      else if (cutL l).e = 2 then ⟨[], if long < 0 then at' else long, 2⟩
      else if long < 0 ∧ acc.length ≠ 300 then lxGo n (l.drop (decodeL l).2) (pos + (decodeL l).2) (at' + 1) (pos + (cutL l).z) long (acc ++ [{ (cutL l).t with p := at' }])
      else lxGo n (l.drop (decodeL l).2) (pos + (decodeL l).2) (at' + 1) (pos + (cutL l).z) (if long < 0 then at' else long) acc
    else lxGo n (l.drop (decodeL l).2) (pos + (decodeL l).2) (at' + 1) en long acc
/-- All tokens of a text. -/
def lexL (l : List UInt8) : Lx := if validD l = true then lxGo l.length l 0 0 0 (-1) [] else ⟨[], 0, 3⟩
theorem lxGo_fuel : ∀ (n m : Nat) (l : List UInt8) (pos at' en : Nat) (long : Int) (acc : List Tk), l.length ≤ n → l.length ≤ m → lxGo n l pos at' en long acc = lxGo m l pos at' en long acc
  | 0, m, l, _, _, _, _, _, hn, _ => by
    obtain rfl : l = [] := List.eq_nil_of_length_eq_zero (by omega)
    cases m <;> simp [lxGo]
  | n + 1, 0, l, _, _, _, _, _, _, hm => by
    obtain rfl : l = [] := List.eq_nil_of_length_eq_zero (by omega)
    simp [lxGo]
  | n + 1, m + 1, l, pos, at', en, long, acc, hn, hm => by
    unfold lxGo
    by_cases hne : l = []
    · rw [if_pos hne, if_pos hne]
    · have hw := decodeL_width l
      have hl : 0 < l.length := List.length_pos_iff.2 hne
      have f := fun p a e lo ac => lxGo_fuel n m (l.drop (decodeL l).2) p a e lo ac (by rw [List.length_drop]; omega) (by rw [List.length_drop]; omega)
      rw [if_neg hne, if_neg hne]
      simp only [f]
/-- From a state on. -/
def lxs (l : List UInt8) (pos at' en : Nat) (long : Int) (acc : List Tk) : Lx := lxGo l.length l pos at' en long acc
theorem lxs_nil (pos at' en : Nat) (long : Int) (acc : List Tk) : lxs [] pos at' en long acc = lxEnd at' long acc := rfl
theorem lxs_step {l : List UInt8} (hne : l ≠ []) (pos at' en : Nat) (long : Int) (acc : List Tk) : lxs l pos at' en long acc =
    if en ≤ pos ∧ blankN (decodeL l).1 = false then
      if (cutL l).e = 3 then ⟨[], at', 3⟩
      else if (cutL l).e = 2 then ⟨[], if long < 0 then at' else long, 2⟩
      else if long < 0 ∧ acc.length ≠ 300 then lxs (l.drop (decodeL l).2) (pos + (decodeL l).2) (at' + 1) (pos + (cutL l).z) long (acc ++ [{ (cutL l).t with p := at' }])
      else lxs (l.drop (decodeL l).2) (pos + (decodeL l).2) (at' + 1) (pos + (cutL l).z) (if long < 0 then at' else long) acc
    else lxs (l.drop (decodeL l).2) (pos + (decodeL l).2) (at' + 1) en long acc := by
  have hw := decodeL_width l
  have hl : 0 < l.length := List.length_pos_iff.2 hne
  obtain ⟨n, hn⟩ : ∃ n, l.length = n + 1 := ⟨l.length - 1, by omega⟩
  conv => lhs; unfold lxs; rw [hn]; unfold lxGo
  have f := fun p a e lo ac => lxGo_fuel n (l.drop (decodeL l).2).length (l.drop (decodeL l).2) p a e lo ac (by rw [List.length_drop]; omega) (Nat.le_refl _)
  rw [if_neg hne]
  simp only [f]
  rfl
def Tk.cells (x : Tk) : List Go.Value := [.int .i64 x.k, .int .i64 x.p, .string (str x.s), .int .i64 x.vk, .int .i64 x.vn, .string (str x.vs)]
def tkCells (l : List Tk) : List Go.Value := l.flatMap Tk.cells
theorem tkCells_len (l : List Tk) : (tkCells l).length = l.length * 6 := by
  induction l with
  | nil => rfl
  | cons x l ih => simp only [tkCells, List.flatMap_cons, List.length_append, List.length_cons] at ih ⊢; rw [ih]; simp [Tk.cells]; omega
theorem tkCells_snoc (l : List Tk) (x : Tk) : tkCells (l ++ [x]) = tkCells l ++ Tk.cells x := by simp [tkCells]
end Go.Proofs.YtdendpckihckeabDoor
/- Tokens of so many marks, each behind so many blanks. Plain, of no program. -/
namespace Go.Proofs.YtdendpckihckeabDoor
open Go.Lib
set_option maxRecDepth 100000

/-- So many marks, each behind so many blanks. -/
def many : Nat → Nat → List UInt8
  | 0, _ => []
  | n + 1, g => List.replicate g 32 ++ 40 :: many n g
theorem many_snoc (g : Nat) : ∀ n, many (n + 1) g = many n g ++ (List.replicate g 32 ++ [40])
  | 0 => by simp [many]
  | n + 1 => by
    have ih := many_snoc g n
    show List.replicate g 32 ++ 40 :: many (n + 1) g = (List.replicate g 32 ++ 40 :: many n g) ++ _
    rw [ih]
    simp
theorem many_len (g : Nat) : ∀ n, (many n g).length = n * (g + 1)
  | 0 => by simp [many]
  | n + 1 => by
    simp only [many, List.length_append, List.length_replicate, List.length_cons, many_len g n, Nat.add_mul, Nat.one_mul]
    omega
theorem many_valid (g : Nat) : ∀ n, validD (many n g) = true
  | 0 => rfl
  | n + 1 => by
    unfold many
    have key : ∀ (m : Nat) (r : List UInt8), validD (List.replicate m 32 ++ r) = validD r := by
      intro m r
      induction m with
      | zero => rfl
      | succ m ih => rw [List.replicate_succ, List.cons_append, validD_cons _ _ (by decide), ih]
    rw [key, validD_cons _ _ (by decide), many_valid g n]
theorem dec32 (r : List UInt8) : decodeL (32 :: r) = (32, 1) := dec_ascii (b := 32) (by decide)
theorem dec40 (r : List UInt8) : decodeL (40 :: r) = (40, 1) := dec_ascii (b := 40) (by decide)
theorem lxs_blank (r : List UInt8) (pos at' en : Nat) (long : Int) (acc : List Tk) : lxs (32 :: r) pos at' en long acc = lxs r (pos + 1) (at' + 1) en long acc := by
  rw [lxs_step (by simp), dec32]
  rw [if_neg (by simp [blankN])]
  rfl
theorem lxs_blanks (r : List UInt8) : ∀ (g pos at' en : Nat) (long : Int) (acc : List Tk), lxs (List.replicate g 32 ++ r) pos at' en long acc = lxs r (pos + g) (at' + g) en long acc
  | 0, _, _, _, _, _ => rfl
  | g + 1, pos, at', en, long, acc => by
    rw [List.replicate_succ, List.cons_append, lxs_blank, lxs_blanks r g]
    rw [show pos + 1 + g = pos + (g + 1) by omega, show at' + 1 + g = at' + (g + 1) by omega]
theorem cut40 (r : List UInt8) : cutL (40 :: r) = ⟨⟨3, 0, [40], 0, 0, []⟩, 1, 0⟩ := by
  have h1 : scn (40 :: r) = .bad 3 := by
    unfold scn
    rw [if_neg (by simp [hasPrefix]), if_neg (by simp [hasPrefix]), if_neg (by simp [hasPrefix]), if_neg (by simp [hasPrefix]), if_neg (by simp [hasPrefix])]
    unfold scI
    rw [if_pos (.inl (by simp [digs, isD]))]
  have h2 : wsz (40 :: r) = 0 := by
    unfold wsz
    rw [dec40, if_neg (by simp [letterN])]
  have h3 : msz (40 :: r) = 1 := by
    unfold msz
    rw [if_neg (by simp [hasPrefix])]
    exact if_pos (by show 0 ≤ indexByte marks1 40; decide)
  unfold cutL
  rw [h1, h2, h3]
  rfl
/-- A mark behind blanks, taken. -/
theorem lxs_unit (r : List UInt8) (g pos at' en : Nat) (acc : List Tk) (he : en ≤ pos) (h : acc.length ≠ 300) :
    lxs (List.replicate g 32 ++ 40 :: r) pos at' en (-1) acc = lxs r (pos + (g + 1)) (at' + (g + 1)) (pos + (g + 1)) (-1) (acc ++ [⟨3, ((at' + g : Nat) : Int), [40], 0, 0, []⟩]) := by
  rw [lxs_blanks, lxs_step (by simp), dec40, cut40, if_pos ⟨by omega, by decide⟩, if_neg (by decide), if_neg (by decide), if_pos ⟨by decide, h⟩]
  rfl
/-- A mark behind blanks, one too many. -/
theorem lxs_unit_long (r : List UInt8) (g pos at' en : Nat) (long : Int) (acc : List Tk) (he : en ≤ pos) (h : 0 ≤ long ∨ acc.length = 300) :
    lxs (List.replicate g 32 ++ 40 :: r) pos at' en long acc = lxs r (pos + (g + 1)) (at' + (g + 1)) (pos + (g + 1)) (if long < 0 then ((at' + g : Nat) : Int) else long) acc := by
  rw [lxs_blanks, lxs_step (by simp), dec40, cut40, if_pos ⟨by omega, by decide⟩, if_neg (by decide), if_neg (by decide), if_neg (by rintro ⟨h1, h2⟩; rcases h with h | h <;> omega)]
  rfl
theorem lxs_more (g : Nat) : ∀ (m pos at' en : Nat) (long : Int) (acc : List Tk), en ≤ pos → 0 ≤ long → lxs (many m g) pos at' en long acc = ⟨[], long, 2⟩
  | 0, _, _, _, _, _, _, h => if_pos h
  | m + 1, pos, at', en, long, acc, he, h => by
    rw [many, lxs_unit_long _ _ _ _ _ _ _ he (.inl h), if_neg (by omega)]
    exact lxs_more g m _ _ _ _ _ (Nat.le_refl _) h
theorem lxs_few (g m : Nat) : ∀ (k pos at' en : Nat) (acc : List Tk), en ≤ pos → acc.length + k ≤ 300 →
    ∃ (en' : Nat) (acc' : List Tk), en' ≤ pos + k * (g + 1) ∧ acc'.length = acc.length + k ∧ lxs (many (k + m) g) pos at' en (-1) acc = lxs (many m g) (pos + k * (g + 1)) (at' + k * (g + 1)) en' (-1) acc'
  | 0, pos, at', en, acc, he, _ => ⟨en, acc, by simpa using he, rfl, by simp⟩
  | k + 1, pos, at', en, acc, he, h => by
    obtain ⟨en', acc', h1, h2, h3⟩ := lxs_few g m k (pos + (g + 1)) (at' + (g + 1)) (pos + (g + 1)) (acc ++ [⟨3, ((at' + g : Nat) : Int), [40], 0, 0, []⟩]) (Nat.le_refl _) (by simp; omega)
    have e : (k + 1) * (g + 1) = (g + 1) + k * (g + 1) := by rw [Nat.add_mul, Nat.one_mul, Nat.add_comm]
    refine ⟨en', acc', by omega, by rw [h2]; simp; omega, ?_⟩
    rw [show k + 1 + m = (k + m) + 1 by omega, many, lxs_unit _ _ _ _ _ _ he (by omega), h3, e, ← Nat.add_assoc pos (g + 1), ← Nat.add_assoc at' (g + 1)]
theorem lex_few (g n : Nat) (h : n ≤ 300) : ∃ acc : List Tk, acc.length = n ∧ lexL (many n g) = ⟨acc, ((n * (g + 1) : Nat) : Int), 0⟩ := by
  obtain ⟨en', acc', _, h2, h3⟩ := lxs_few g 0 n 0 0 0 [] (Nat.le_refl _) (by simpa using h)
  refine ⟨acc', by simpa using h2, ?_⟩
  unfold lexL
  rw [if_pos (many_valid g n)]
  show lxs (many n g) 0 0 0 (-1) [] = _
  rw [show n = n + 0 from rfl, h3]
  simp [many, lxs_nil, lxEnd]
theorem lex_more (g n : Nat) (h : 300 < n) : lexL (many n g) = ⟨[], (((g + 1) * 300 + g : Nat) : Int), 2⟩ := by
  obtain ⟨m, rfl⟩ : ∃ m, n = 300 + (m + 1) := ⟨n - 301, by omega⟩
  obtain ⟨en', acc', h1, h2, h3⟩ := lxs_few g (m + 1) 300 0 0 0 [] (Nat.le_refl _) (by simp)
  unfold lexL
  rw [if_pos (many_valid g _)]
  show lxs (many (300 + (m + 1)) g) 0 0 0 (-1) [] = _
  rw [h3, many, lxs_unit_long _ _ _ _ _ _ _ h1 (.inr (by simpa using h2)), if_pos (by decide), lxs_more g m _ _ _ _ _ (Nat.le_refl _) (by omega)]
  have e : 0 + 300 * (g + 1) + g = (g + 1) * 300 + g := by rw [Nat.zero_add, Nat.mul_comm]
  rw [e]
end Go.Proofs.YtdendpckihckeabDoor
/- Rows that are read: a slice, its elements cell by cell, wherever it lies. -/
namespace Go.Proofs.YtdendpckihckeabDoor
open Go.RowKit

/-- The slice v has n elements of 'sz' cells each, and they hold xs. -/
def IsRow (w : World) (sz : Nat) (v : Value) (n : Nat) (xs : List Value) : Prop :=
  xs.length = n * sz ∧ ((n = 0 ∧ ∃ a cap, v = .slice a 0 cap) ∨
    ∃ b off cap, v = .slice (some ⟨b, off, none⟩) n cap ∧ b < w.heap.size ∧ n ≤ cap ∧ cap ≤ maxLen ∧ ∀ j u, xs[j]? = some u → w.cell? ⟨b, off + j, none⟩ = some u)

theorem IsRow.below {w w' : World} {sz : Nat} {v : Value} {n : Nat} {xs : List Value} (h : IsRow w sz v n xs) (hb : Below w.heap.size w w') : IsRow w' sz v n xs := by
  refine ⟨h.1, ?_⟩
  rcases h.2 with h | ⟨b, off, cap, rfl, hlt, hc, hm, hcell⟩
  · exact .inl h
  · exact .inr ⟨b, off, cap, rfl, Nat.lt_of_lt_of_le hlt hb.size, hc, hm, fun j u hu => (hb.cell (p := ⟨b, off + j, none⟩) hlt).trans (hcell j u hu)⟩

/-- What the call itself has made is such a row, too. -/
theorem IsRow.own {w : World} {base : Nat} {e : TypeId} {sz : Nat} {v : Value} {n : Nat} {xs : List Value} (h : w.ownsRow base e sz v n xs) : IsRow w sz v n xs := by
  obtain ⟨h1, h2⟩ := h
  refine ⟨h1, ?_⟩
  rcases h2 with ⟨hv, hn⟩ | ⟨g, cap, cur, rfl, hb, hg, hc, hm, hs, ht⟩
  · exact .inl ⟨hn, _, _, hv⟩
  · refine .inr ⟨g, 0, cap, rfl, (Array.getElem?_eq_some_iff.1 hg).1, hc, hm, fun j u hu => ?_⟩
    rw [Nat.zero_add, cell_of_row w g j cur e (0, 0) hg]
    rw [← ht, List.getElem?_take] at hu
    split at hu
    · simpa using hu
    · cases hu

theorem IsRow.nil (w : World) (sz : Nat) : IsRow w sz (.slice none 0 0) 0 [] := ⟨by simp, .inl ⟨rfl, _, _, rfl⟩⟩

/-- One that is not empty, laid open. -/
theorem IsRow.open {w : World} {sz : Nat} {v : Value} {n : Nat} {xs : List Value} (h : IsRow w sz v n xs) (hn : 0 < n) :
    ∃ b off cap, v = .slice (some ⟨b, off, none⟩) n cap ∧ b < w.heap.size ∧ n ≤ cap ∧ cap ≤ maxLen ∧ ∀ j u, xs[j]? = some u → w.cell? ⟨b, off + j, none⟩ = some u := by
  rcases h.2 with ⟨h0, _⟩ | h
  · omega
  · exact h
theorem IsRow.form {w : World} {sz : Nat} {v : Value} {n : Nat} {xs : List Value} (h : IsRow w sz v n xs) : ∃ a cap, v = .slice a n cap := by
  rcases h.2 with ⟨rfl, a, cap, rfl⟩ | ⟨b, off, cap, rfl, _⟩
  · exact ⟨a, cap, rfl⟩
  · exact ⟨_, _, rfl⟩

/-- An item: its kind, its number, its text. -/
structure It where
  k : Int
  n : Int
  s : ByteArray
def It.cells (x : It) : List Value := [.int .i64 x.k, .int .i64 x.n, .string x.s]
def itCells (l : List It) : List Value := l.flatMap It.cells
theorem itCells_len (l : List It) : (itCells l).length = l.length * 3 := by
  induction l with
  | nil => rfl
  | cons x l ih => simp only [itCells, List.flatMap_cons, List.length_append, List.length_cons] at ih ⊢; rw [ih]; simp [It.cells]; omega
theorem itCells_at (l : List It) (i : Nat) (h : i < l.length) : (itCells l)[3 * i]? = some (.int .i64 (l[i]'h).k) ∧ (itCells l)[3 * i + 1]? = some (.int .i64 (l[i]'h).n) ∧ (itCells l)[3 * i + 2]? = some (.string (l[i]'h).s) := by
  induction l generalizing i with
  | nil => simp at h
  | cons x l ih =>
    cases i with
    | zero => exact ⟨rfl, rfl, rfl⟩
    | succ i =>
      have h' : i < l.length := by simpa using h
      have := ih i h'
      have e : itCells (x :: l) = It.cells x ++ itCells l := by simp [itCells]
      have e0 : (It.cells x).length = 3 := rfl
      rw [e]
      refine ⟨?_, ?_, ?_⟩
      · rw [List.getElem?_append_right (by rw [e0]; omega), e0, show 3 * (i + 1) - 3 = 3 * i by omega]; exact this.1
      · rw [List.getElem?_append_right (by rw [e0]; omega), e0, show 3 * (i + 1) + 1 - 3 = 3 * i + 1 by omega]; exact this.2.1
      · rw [List.getElem?_append_right (by rw [e0]; omega), e0, show 3 * (i + 1) + 2 - 3 = 3 * i + 2 by omega]; exact this.2.2
theorem itCells_snoc (l : List It) (x : It) : itCells (l ++ [x]) = itCells l ++ It.cells x := by simp [itCells]
/-- A row of items, item i's cells, as the walk asks for them. -/
theorem items_at {w : World} {a : Option Addr} {cap : Nat} {l : List It} (h : IsRow w 3 (.slice a l.length cap) l.length (itCells l)) (i : Nat) (hi : i < l.length) :
    ∃ b off, a = some ⟨b, off, none⟩ ∧ b < w.heap.size ∧ w.cell? ⟨b, off + i * 3, none⟩ = some (.int .i64 (l[i]'hi).k) ∧ w.cell? ⟨b, off + i * 3 + 1, none⟩ = some (.int .i64 (l[i]'hi).n) ∧ w.cell? ⟨b, off + i * 3 + 2, none⟩ = some (.string (l[i]'hi).s) := by
  obtain ⟨b, off, cap', hv, hlt, _, _, hc⟩ := h.open (by omega)
  have := itCells_at l i hi
  simp only [Value.slice.injEq] at hv
  refine ⟨b, off, hv.1, hlt, ?_, ?_, ?_⟩
  · rw [show off + i * 3 = off + 3 * i by omega]; exact hc _ _ this.1
  · rw [show off + i * 3 + 1 = off + (3 * i + 1) by omega]; exact hc _ _ this.2.1
  · rw [show off + i * 3 + 2 = off + (3 * i + 2) by omega]; exact hc _ _ this.2.2
end Go.Proofs.YtdendpckihckeabDoor
/- LexMany: its walk, over what Lex and awake say. -/
namespace Go.Proofs.YtdendpckihckeabDoor
open Go.RowKit

theorem tm_lt (n m : Int) (hm : 0 < m) : -m < n.tmod m ∧ n.tmod m < m := by
  have h1 := Int.tmod_lt_of_pos n hm
  have h2 := Int.tmod_lt_of_pos (-n) hm
  rw [Int.neg_tmod] at h2
  omega
theorem tm_nat (a m : Int) (h : -m < a) (hm : 0 < m) : ∃ r : Nat, (r : Int) < m ∧ (a + m).tmod m = r := by
  have h1 := Int.tmod_lt_of_pos (a + m) hm
  have h2 := Int.tmod_nonneg m (show 0 ≤ a + m by omega)
  exact ⟨((a + m).tmod m).toNat, by omega, by omega⟩
/-- What holds of the outer loop at every round. -/
def MnRel (N g : Nat) (w : World) (sv iv : Value) (wr : World) : Prop :=
  ∃ i : Nat, i ≤ N ∧ sv = .string (str (many i g)) ∧ iv = .int .i64 (i : Int) ∧ wr = w
/-- What holds of the inner one. -/
def MkRel (i g : Nat) (w : World) (sv kv : Value) (wr : World) : Prop :=
  ∃ k : Nat, k ≤ g ∧ sv = .string (str (many i g ++ List.replicate k 32)) ∧ kv = .int .i64 (k : Int) ∧ wr = w
/-- What Lex leaves (as LxPost has it). -/
def LyPost (x : Lx) (w : World) (e : Ending) (w' : World) : Prop :=
  ∃ v, e = .returned (.tuple #[v, .int .i64 x.a, .int .i64 x.e]) ∧ IsRow w' 6 v x.l.length (tkCells x.l) ∧ Below w.heap.size w w'
set_option maxRecDepth 100000 in
set_option maxHeartbeats 4000000 in
theorem many_core (V : World → Prop) (hV : ∀ w w', V w → Below w.heap.size w w' → V w') (HA : Hid (∀ w, V w → Calls Tryd.prog 5 #[] w fun e w' => e = .returned (.bool true) ∧ Below w.heap.size w w'))
    (HL : Hid (∀ s w, s.size ≤ 1000000 → V w → Calls Tryd.prog 4 #[.string s] w fun e w' => LyPost (lexL s.data.toList) w e w'))
    (n g : Int) (w : World) (h : V w) :
    Calls Tryd.prog 3 #[.int .i64 n, .int .i64 g] w fun e w' => e = .returned (.bool true) ∧ Below w.heap.size w w' := by
  obtain ⟨a1, a2⟩ := tm_lt n 20 (by decide)
  obtain ⟨b1, b2⟩ := tm_lt g 3 (by decide)
  obtain ⟨r, hr, er⟩ := tm_nat _ 20 a1 (by decide)
  obtain ⟨q, hq, eq⟩ := tm_nat _ 3 b1 (by decide)
  go_enter Tryd.func3, Tryd.ntmps3
  go_wp2_with fail
  go_loopw [5, 6] (fun s i wr => MnRel (290 + r) q w s i wr) (fun _ i _ => 290 + r - (RowKit.intOf i).toNat)
  case atStart => exact ⟨0, Nat.zero_le _, rfl, rfl, rfl⟩
  case round =>
    obtain ⟨i, hi, rfl, rfl, rfl⟩ := hrel
    have hsz : (str (many i q)).size = i * (q + 1) := (str_size _).trans (many_len q i)
    have hle : i * (q + 1) ≤ 310 * 3 := Nat.mul_le_mul (by omega) (by omega)
    have hz : (str (many i q)).size ≤ 1000 := by omega
    by_cases hlt : i < 290 + r
    · have d : decide ((i : Int) < 290 + (r : Int)) = true := by simp; omega
      have H0 : Hid (str (many i q) = str (many i q ++ List.replicate 0 32)) := by show _ = _; simp
      go_wp2_with fail
      go_loopw [5, 7] (fun s k w' => MkRel i q wr s k w') (fun _ k _ => q - (RowKit.intOf k).toNat)
      case atStart => exact ⟨0, Nat.zero_le _, by rw [← H0.out], rfl, rfl⟩
      case round =>
        obtain ⟨k, hk, rfl, rfl, rfl⟩ := hrel
        have hsk : (str (many i q ++ List.replicate k 32)).size ≤ 1010 := by
          rw [str_size, List.length_append, List.length_replicate, ← str_size]; omega
        by_cases hkq : k < q
        · have dk : decide ((k : Int) < (q : Int)) = true := by simp; omega
          have HN : Hid (str (many i q ++ List.replicate k 32) ++ (⟨#[32]⟩ : ByteArray) = str (many i q ++ List.replicate (k + 1) 32)) := ba_eq (by
            rw [ba_append, str_data, str_data, List.replicate_succ', List.append_assoc])
          generalize str (many i q ++ List.replicate k 32) = S at *
          go_wp2
          exact ⟨⟨k + 1, by omega, by rw [HN.out], by simp, rfl⟩, by simp [intOf]; omega⟩
        · obtain rfl : k = q := by omega
          have dk : decide ((k : Int) < (k : Int)) = false := by simp
          have HN : Hid (str (many i k ++ List.replicate k 32) ++ (⟨#[40]⟩ : ByteArray) = str (many (i + 1) k)) := ba_eq (by
            rw [ba_append, str_data, str_data, many_snoc, List.append_assoc])
          generalize str (many i k ++ List.replicate k 32) = S at *
          go_wp2
          exact ⟨⟨i + 1, by omega, by rw [HN.out], by simp, rfl⟩, by simp [intOf]; omega⟩
    · obtain rfl : i = 290 + r := by omega
      have d : decide (((290 + r : Nat) : Int) < 290 + (r : Int)) = false := by simp
      have HX := HL.out (str (many (290 + r) q)) wr (by omega) h
      rw [str_data] at HX
      by_cases hN : 290 + r ≤ 300
      · obtain ⟨acc, hacc, hlx⟩ := lex_few q (290 + r) hN
        rw [hlx] at HX
        have HXX : Hid (Calls Tryd.prog 4 #[.string (str (many (290 + r) q))] wr fun e w' => LyPost ⟨acc, (((290 + r) * (q + 1) : Nat) : Int), 0⟩ wr e w') := HX
        have d2 : decide ((300 : Int) < 290 + (r : Int)) = false := by simp; omega
        have hac : (acc.length : Int) = 290 + r := by omega
        clear HX hlx HL
        generalize (290 + r) * (q + 1) = A at *
        generalize str (many (290 + r) q) = S at *
        go_wp2_with fail
        refine HXX.out.mono ?_
        rintro e0 w1 ⟨v, rfl, hrow, hb1⟩
        obtain ⟨a0, cap0, rfl⟩ := hrow.form
        have HV1 : Hid (V w1) := hV _ _ h hb1
        clear hrow
        go_wp2_with fail
        refine (HA.out _ HV1.out).mono ?_
        rintro e0 w2 ⟨rfl, hb2⟩
        have HB2 : Hid (Below wr.heap.size wr w2) := hb1.trans (hb2.mono hb1.size)
        clear hb1 hb2
        go_wp2
        go_ret
        exact ⟨rfl, HB2.out⟩
      · have hlx := lex_more q (290 + r) (by omega)
        rw [hlx] at HX
        have HXX : Hid (Calls Tryd.prog 4 #[.string (str (many (290 + r) q))] wr fun e w' => LyPost ⟨[], (((q + 1) * 300 + q : Nat) : Int), 2⟩ wr e w') := HX
        have d2 : decide ((300 : Int) < 290 + (r : Int)) = true := by simp; omega
        clear HX hlx HL
        generalize str (many (290 + r) q) = S at *
        go_wp2_with fail
        refine HXX.out.mono ?_
        rintro e0 w1 ⟨v, rfl, hrow, hb1⟩
        obtain ⟨a0, cap0, rfl⟩ := hrow.form
        have HV1 : Hid (V w1) := hV _ _ h hb1
        clear hrow
        go_wp2_with fail
        refine (HA.out _ HV1.out).mono ?_
        rintro e0 w2 ⟨rfl, hb2⟩
        have HB2 : Hid (Below wr.heap.size wr w2) := hb1.trans (hb2.mono hb1.size)
        clear hb1 hb2
        go_wp2
        go_ret
        exact ⟨rfl, HB2.out⟩
end Go.Proofs.YtdendpckihckeabDoor
/- The shelf's contracts of utf8.AppendRune and strconv.toError, at this program, laid by the shelf's tool in plain words. -/
namespace Go.Proofs
open Go.Shelf
def Tryd.lays242_ren : Go.Shelf.Ren := ⟨fun | 242 => 44 | 278 => 59 | n => n, fun | 37 => 54 | 21 => 21 | 51 => 87 | 4 => 4 | 5 => 5 | 46 => 42 | n => n, fun | n => n⟩
theorem Tryd.lays242 : Go.Proofs.Lays.n242 Tryd.prog Tryd.lays242_ren := {
  mixed := by kernel_rfl
  f242 := Tryd.func44.trans (congrArg some (by kernel_rfl))
  f278 := Tryd.func59.trans (congrArg some (by kernel_rfl))
  t4 := Tryd.underlying4
  a4 := Tryd.isAgg4
  z4 := Tryd.sizeOf4
  v4 := Tryd.zeroValue4
  t5 := Tryd.underlying5
  a5 := Tryd.isAgg5
  z5 := Tryd.sizeOf5
  v5 := Tryd.zeroValue5
  t21 := Tryd.underlying21
  a21 := Tryd.isAgg21
  z21 := Tryd.sizeOf21
  v21 := Tryd.zeroValue21
  t37 := Tryd.underlying54
  a37 := Tryd.isAgg54
  z37 := Tryd.sizeOf54
  v37 := Tryd.zeroValue54
  t46 := Tryd.underlying42
  a46 := Tryd.isAgg42
  z46 := Tryd.sizeOf42
  v46 := Tryd.zeroValue42
  t51 := Tryd.underlying87
  a51 := Tryd.isAgg87
  z51 := Tryd.sizeOf87
  v51 := Tryd.zeroValue87 }
open Go.RowKit in
theorem Tryd.utf8_AppendRune_row (B : Nat) (v : Value) (n : Nat) (xs : List Value) (r : Int) (hr0 : -2147483648 ≤ r) (hr1 : r ≤ 2147483647) (w : World) (hown : w.ownsRowF B 5 1 v n xs) (hlen : n + 4 ≤ 140737488355328) (hBw : B ≤ w.heap.size) :
    Calls Tryd.prog 44 #[v, .int .i32 r] w fun e w' => ∃ v', e = .returned v' ∧ w'.ownsRowF B 5 1 v' (n + (Lib.runeCells r).length) (xs ++ Lib.runeCells r) ∧ ∃ o, (w.alloc o).grownBy w' v.ownBlock := Any.utf8_AppendRune_row Tryd.lays242 (by kernel_rfl) B v n xs r hr0 hr1 w hown hlen hBw
def Tryd.laysPu17_ren : Go.Shelf.Ren := ⟨fun | 17 => 72 | 21 => 81 | 22 => 82 | 23 => 83 | 24 => 84 | 25 => 90 | 27 => 92 | 26 => 91 | 28 => 95 | 29 => 66 | 30 => 73 | 31 => 74 | 32 => 75 | 33 => 76 | 35 => 86 | 34 => 85 | 36 => 87 | 37 => 88 | 38 => 89 | 39 => 93 | 40 => 94 | n => n, fun | 9 => 9 | 3 => 3 | 24 => 58 | 34 => 103 | 4 => 4 | 39 => 105 | 44 => 114 | 37 => 54 | 0 => 0 | 47 => 72 | 50 => 119 | 48 => 117 | 2 => 2 | 52 => 96 | 22 => 47 | 5 => 5 | 55 => 99 | 59 => 109 | 60 => 87 | 20 => 20 | 61 => 110 | 36 => 42 | 65 => 120 | 66 => 121 | 67 => 62 | n => n, fun | 0 => 4 | 1 => 5 | 2 => 3 | 3 => 6 | 4 => 7 | n => n⟩
theorem Tryd.laysPu17 : Go.Proofs.LaysPu.n17 Tryd.prog Tryd.laysPu17_ren := {
  mixed := by kernel_rfl
  f17 := Tryd.func72.trans (congrArg some (by kernel_rfl))
  f21 := Tryd.func81.trans (congrArg some (by kernel_rfl))
  f22 := Tryd.func82.trans (congrArg some (by kernel_rfl))
  f23 := Tryd.func83.trans (congrArg some (by kernel_rfl))
  f24 := Tryd.func84.trans (congrArg some (by kernel_rfl))
  f25 := Tryd.func90.trans (congrArg some (by kernel_rfl))
  f26 := Tryd.func91.trans (congrArg some (by kernel_rfl))
  f27 := Tryd.func92.trans (congrArg some (by kernel_rfl))
  f28 := Tryd.func95.trans (congrArg some (by kernel_rfl))
  f29 := Tryd.func66.trans (congrArg some (by kernel_rfl))
  f30 := Tryd.func73.trans (congrArg some (by kernel_rfl))
  f31 := Tryd.func74.trans (congrArg some (by kernel_rfl))
  f32 := Tryd.func75.trans (congrArg some (by kernel_rfl))
  f33 := Tryd.func76.trans (congrArg some (by kernel_rfl))
  f34 := Tryd.func85.trans (congrArg some (by kernel_rfl))
  f35 := Tryd.func86.trans (congrArg some (by kernel_rfl))
  f36 := Tryd.func87.trans (congrArg some (by kernel_rfl))
  f37 := Tryd.func88.trans (congrArg some (by kernel_rfl))
  f38 := Tryd.func89.trans (congrArg some (by kernel_rfl))
  f39 := Tryd.func93.trans (congrArg some (by kernel_rfl))
  f40 := Tryd.func94.trans (congrArg some (by kernel_rfl))
  t0 := Tryd.underlying0
  a0 := Tryd.isAgg0
  z0 := Tryd.sizeOf0
  v0 := Tryd.zeroValue0
  i0 := by kernel_rfl
  t2 := Tryd.underlying2
  a2 := Tryd.isAgg2
  z2 := Tryd.sizeOf2
  v2 := Tryd.zeroValue2
  i2 := by kernel_rfl
  t3 := Tryd.underlying3
  a3 := Tryd.isAgg3
  z3 := Tryd.sizeOf3
  v3 := Tryd.zeroValue3
  i3 := by kernel_rfl
  t4 := Tryd.underlying4
  a4 := Tryd.isAgg4
  z4 := Tryd.sizeOf4
  v4 := Tryd.zeroValue4
  i4 := by kernel_rfl
  t5 := Tryd.underlying5
  a5 := Tryd.isAgg5
  z5 := Tryd.sizeOf5
  v5 := Tryd.zeroValue5
  i5 := by kernel_rfl
  t9 := Tryd.underlying9
  a9 := Tryd.isAgg9
  z9 := Tryd.sizeOf9
  v9 := Tryd.zeroValue9
  i9 := by kernel_rfl
  t20 := Tryd.underlying20
  a20 := Tryd.isAgg20
  z20 := Tryd.sizeOf20
  v20 := Tryd.zeroValue20
  i20 := by kernel_rfl
  t22 := Tryd.underlying47
  a22 := Tryd.isAgg47
  z22 := Tryd.sizeOf47
  v22 := Tryd.zeroValue47
  i22 := by kernel_rfl
  t24 := Tryd.underlying58
  a24 := Tryd.isAgg58
  z24 := Tryd.sizeOf58
  v24 := Tryd.zeroValue58
  i24 := by kernel_rfl
  t34 := Tryd.underlying103
  a34 := Tryd.isAgg103
  z34 := Tryd.sizeOf103
  v34 := Tryd.zeroValue103
  i34 := by kernel_rfl
  c34 := by kernel_rfl
  t36 := Tryd.underlying42
  a36 := Tryd.isAgg42
  z36 := Tryd.sizeOf42
  v36 := Tryd.zeroValue42
  i36 := by kernel_rfl
  t37 := Tryd.underlying54
  a37 := Tryd.isAgg54
  z37 := Tryd.sizeOf54
  v37 := Tryd.zeroValue54
  i37 := by kernel_rfl
  t39 := Tryd.underlying105
  a39 := Tryd.isAgg105
  z39 := Tryd.sizeOf105
  v39 := Tryd.zeroValue105
  i39 := by kernel_rfl
  t44 := Tryd.underlying114
  a44 := Tryd.isAgg114
  z44 := Tryd.sizeOf114
  v44 := Tryd.zeroValue114
  i44 := by kernel_rfl
  t47 := Tryd.underlying72
  a47 := Tryd.isAgg72
  z47 := Tryd.sizeOf72
  v47 := Tryd.zeroValue72
  i47 := by kernel_rfl
  t48 := Tryd.underlying117
  a48 := Tryd.isAgg117
  z48 := Tryd.sizeOf117
  v48 := Tryd.zeroValue117
  i48 := by kernel_rfl
  t50 := Tryd.underlying119
  a50 := Tryd.isAgg119
  z50 := Tryd.sizeOf119
  v50 := Tryd.zeroValue119
  i50 := by kernel_rfl
  t52 := Tryd.underlying96
  a52 := Tryd.isAgg96
  z52 := Tryd.sizeOf96
  v52 := Tryd.zeroValue96
  i52 := by kernel_rfl
  t55 := Tryd.underlying99
  a55 := Tryd.isAgg99
  z55 := Tryd.sizeOf99
  v55 := Tryd.zeroValue99
  i55 := by kernel_rfl
  t59 := Tryd.underlying109
  a59 := Tryd.isAgg109
  z59 := Tryd.sizeOf109
  v59 := Tryd.zeroValue109
  i59 := by kernel_rfl
  t60 := Tryd.underlying87
  a60 := Tryd.isAgg87
  z60 := Tryd.sizeOf87
  v60 := Tryd.zeroValue87
  i60 := by kernel_rfl
  t61 := Tryd.underlying110
  a61 := Tryd.isAgg110
  z61 := Tryd.sizeOf110
  t65 := Tryd.underlying120
  a65 := Tryd.isAgg120
  z65 := Tryd.sizeOf120
  v65 := Tryd.zeroValue120
  i65 := by kernel_rfl
  t66 := Tryd.underlying121
  a66 := Tryd.isAgg121
  z66 := Tryd.sizeOf121
  v66 := Tryd.zeroValue121
  i66 := by kernel_rfl
  t67 := Tryd.underlying62
  a67 := Tryd.isAgg62
  z67 := Tryd.sizeOf62
  v67 := Tryd.zeroValue62
  i67 := by kernel_rfl
  g0 := by kernel_rfl
  m0 := by kernel_rfl
  g1 := by kernel_rfl
  m1 := by kernel_rfl
  g2 := by kernel_rfl
  m2 := by kernel_rfl
  g3 := by kernel_rfl
  m3 := by kernel_rfl
  g4 := by kernel_rfl
  m4 := by kernel_rfl }
open Go.RowKit in
theorem Tryd.strconv_toError_syntax (fn s : ByteArray) (base bits : Int) (ev : Value) (w : World) (hlim : s.size ≤ 281474976710656) (hv : w.cell? ⟨4, 0, none⟩ = some ev) (hev : ev = .nilIface ∨ ∃ te pe, ev = .iface te pe) :
    Calls Tryd.prog 72 #[.string fn, .string s, .int .i64 base, .int .i64 bits, .iface 103 (.int .i64 2)] w fun e w' => ∃ N, e = .returned (.iface 105 (.pointer (some ⟨N, 0, none⟩))) ∧ w.heap.size ≤ N ∧ w'.heap[N]? = some (.cells #[.string fn, .string s, ev] 114 (0, 0)) ∧ Below w.heap.size w w' := AnyPu.strconv_toError_syntax Tryd.laysPu17 fn s base bits ev w hlim hv hev
end Go.Proofs
/- strconv.ParseUint at base 16 and 8 bits, of one or two bytes: walks. -/
namespace Go.Proofs.YtdendpckihckeabDoor
open Go.RowKit

def puG : Nat → List UInt8 → Option Nat
  | acc, [] => some acc
  | acc, c :: t => match puD c with
    | none => none
    | some d => puG (16 * acc + d) t
theorem puG_puL {l : List UInt8} (h1 : l.length ≠ 0) (h2 : l.length ≤ 2) : puG 0 l = puL l := by
  match l, h1, h2 with
  | [x], _, _ =>
    simp only [puG, puL]
    cases puD x <;> simp
  | [x, y], _, _ =>
    simp only [puG, puL]
    cases puD x with
    | none => rfl
    | some d =>
      simp only
      cases puD y <;> simp
/-- What the inner ParseUint hands back. -/
def puVal : Option Nat → Value
  | some n => .tuple #[.int .u64 (n : Int), .nilIface]
  | none => .tuple #[.int .u64 0, .iface 103 (.int .i64 2)]
theorem or32 : ∀ n : Fin 256, bits BinOp.or IntKind.u8 (n.val : Int) 32 = ((n.val ||| 32 : Nat) : Int) := by decide +kernel
theorem or32_lt : ∀ n : Fin 256, (n.val ||| 32) < 256 := by decide +kernel
theorem lower_any (c : Nat) (w : World) (h : c < 256) : Calls Tryd.prog 79 #[.int .u8 (c : Int)] w fun e w' => e = .returned (.int .u8 ((c ||| 32 : Nat) : Int)) ∧ w' = w := by
  have ho := or32 ⟨c, h⟩
  simp only at ho
  go_enter Tryd.func79, Tryd.ntmps79
  go_wp2
  go_ret
  exact ⟨rfl, rfl⟩
theorem bytesWorld_below (w : World) (e : TypeId) (s : ByteArray) : Below w.heap.size w (Lib.bytesWorld w e s) := ⟨rfl, rfl, rfl, by rw [Lib.bytesWorld_size]; exact Nat.le_succ _, fun k hk => Lib.bytesWorld_at_old w e s k hk⟩
set_option maxHeartbeats 8000000 in
set_option maxRecDepth 100000 in
theorem parseUint_i (t : ByteArray) (w : World) (h1 : t.size ≠ 0) (h2 : t.size ≤ 2) :
    Calls Tryd.prog 71 #[.string t, .int .i64 16, .int .i64 8] w fun e w' => e = .returned (puVal (puG 0 t.data.toList)) ∧ Below w.heap.size w w' := by
  have hemp : t.toList.isEmpty = false := empty_not t h1
  have hcv := Lib.run_convert_string_bytes (P := Tryd.prog) w 9 54 5 t (u := .string) Tryd.underlying9 Tryd.underlying54 Tryd.underlying5
  have hB : ∀ j, j < t.size → (Lib.bytesWorld w 5 t).cell? ⟨w.heap.size, j, none⟩ = some (.int .u8 (t.data.toList.getD j 0).toNat) := fun j hj => Lib.bytesWorld_cell w 5 t j hj
  have HW : Hid (Below w.heap.size w (Lib.bytesWorld w 5 t)) := bytesWorld_below w _ t
  generalize Lib.bytesWorld w 5 t = W1 at *
  obtain ⟨bs, hL⟩ : ∃ bs, bs = t.data.toList := ⟨_, rfl⟩
  have hLn : bs.length = t.size := by rw [hL, Lib.size_eq]
  rw [← hL] at hB ⊢
  clear hL h1
  have hmv : IntKind.u64.wrap (IntKind.u64.wrap 256 - 1) = 255 := by decide +kernel
  go_enter Tryd.func71, Tryd.ntmps71
  go_wp2
  go_loop [12, 13, 101] (fun vu vn vi => ∃ (k acc : Nat) (a : Int), vu = .bool false ∧ vn = .int .u64 a ∧ vi = .int .i64 k ∧ k ≤ t.size ∧ Hid (a = (acc : Int) ∧ (k = 0 → acc = 0) ∧ (k = 1 → acc < 16) ∧ acc < 256 ∧ puG 0 bs = puG acc (bs.drop k)))
    (fun _ _ vi => t.size - (intOf vi).toNat)
  case atStart => exact ⟨0, 0, 0, rfl, rfl, rfl, by omega, rfl, fun _ => rfl, fun h => by omega, by omega, rfl⟩
  case round =>
    obtain ⟨k, acc, a, rfl, rfl, rfl, hk, hh⟩ := hrel
    obtain ⟨ha, hk0, hk1, hacc, hdec⟩ := hh.out
    clear hh
    by_cases hkn : k < t.size
    · have hc := hB k hkn
      have hdrop : bs.drop k = bs[k]'(by omega) :: bs.drop (k + 1) := List.drop_eq_getElem_cons (by omega)
      have hget : bs.getD k 0 = bs[k]'(by omega) := by simp [List.getD, List.getElem?_eq_getElem (show k < bs.length by omega)]
      rw [hdrop] at hdec
      rw [hget] at hc
      generalize bs[k]'(by omega) = c at hc hdec
      have hc256 : c.toNat < 256 := c.toNat_lt
      have hacc16 : acc < 16 := by
        rcases Nat.lt_or_ge 0 k with h | h
        · exact hk1 (by omega)
        · rw [hk0 (by omega)]; decide
      clear hB hdrop hget
      by_cases hdig : 48 ≤ c.toNat ∧ c.toNat ≤ 57
      · have hF : puG acc (c :: bs.drop (k + 1)) = puG (16 * acc + (c.toNat - 48)) (bs.drop (k + 1)) := by
          simp only [puG, puD, if_pos hdig]
        obtain ⟨hd0, hd1⟩ := hdig
        have HN : Hid (a * 16 + ((c.toNat : Int) - 48) = ((16 * acc + (c.toNat - 48) : Nat) : Int) ∧ (k + 1 = 0 → 16 * acc + (c.toNat - 48) = 0) ∧ (k + 1 = 1 → 16 * acc + (c.toNat - 48) < 16) ∧ 16 * acc + (c.toNat - 48) < 256 ∧ puG 0 bs = puG (16 * acc + (c.toNat - 48)) (bs.drop (k + 1))) := ⟨by omega, fun h => by omega, fun h => by have := hk0 (by omega); omega, by omega, hdec.trans hF⟩
        have a0 : 0 ≤ a := by omega
        have a1 : a < 16 := by omega
        clear hF hdec ha hk0 hk1 hacc hacc16
        go_wp2
        refine ⟨⟨k + 1, 16 * acc + (c.toNat - 48), a * 16 + ((c.toNat : Int) - 48), rfl, (by first | rfl | (congr 1; omega)), (by first | rfl | (congr 1; omega)), by omega, HN⟩, by simp [intOf]; omega⟩
      · have ho := or32_lt ⟨c.toNat, hc256⟩
        simp only at ho
        by_cases hlet : 97 ≤ (c.toNat ||| 32) ∧ (c.toNat ||| 32) ≤ 102
        · have hF : puG acc (c :: bs.drop (k + 1)) = puG (16 * acc + ((c.toNat ||| 32) - 87)) (bs.drop (k + 1)) := by
            simp only [puG, puD, if_neg hdig, if_pos hlet]
          have HL : Hid (∀ w : World, Calls Tryd.prog 79 #[.int .u8 (c.toNat : Int)] w fun e w' => e = .returned (.int .u8 ((c.toNat ||| 32 : Nat) : Int)) ∧ w' = w) := fun w => lower_any c.toNat w hc256
          generalize (c.toNat ||| 32) = m at *
          obtain ⟨hm0, hm1⟩ := hlet
          have HN : Hid (a * 16 + ((m : Int) - 87) = ((16 * acc + (m - 87) : Nat) : Int) ∧ (k + 1 = 0 → 16 * acc + (m - 87) = 0) ∧ (k + 1 = 1 → 16 * acc + (m - 87) < 16) ∧ 16 * acc + (m - 87) < 256 ∧ puG 0 bs = puG (16 * acc + (m - 87)) (bs.drop (k + 1))) := ⟨by omega, fun h => by omega, fun h => by have := hk0 (by omega); omega, by omega, hdec.trans hF⟩
          have a0 : 0 ≤ a := by omega
          have a1 : a < 16 := by omega
          have n95 : ((c.toNat : Int) == 95) = false ∨ ((c.toNat : Int) == 95) = true := by cases ((c.toNat : Int) == 95) <;> simp
          have nd : (decide ((48 : Int) ≤ c.toNat) = false) ∨ (decide ((48 : Int) ≤ c.toNat) = true ∧ decide ((c.toNat : Int) ≤ 57) = false) := by
            by_cases h48 : 48 ≤ c.toNat
            · exact .inr ⟨by simp; omega, by simp; omega⟩
            · exact .inl (by simp; omega)
          have d1 : decide ((97 : Int) ≤ m) = true := by simp; omega
          have d2 : decide ((m : Int) ≤ 122) = true := by simp; omega
          clear hF hdec ha hk0 hk1 hacc hacc16 hdig
          rcases nd with nd | ⟨nd, nd2⟩
          all_goals
            rcases n95 with n95 | n95
            all_goals
              go_wp2_with (go_at_call 79; refine (HL.out _).mono ?_; rintro e w' ⟨rfl, rfl⟩)
              refine ⟨⟨k + 1, 16 * acc + (m - 87), a * 16 + ((m : Int) - 87), rfl, (by first | rfl | (congr 1; omega)), (by first | rfl | (congr 1; omega)), by omega, HN⟩, by simp [intOf]; omega⟩
        · have hF : puG acc (c :: bs.drop (k + 1)) = none := by
            simp only [puG, puD, if_neg hdig, if_neg hlet]
          have HD : Hid (puG 0 bs = none) := hdec.trans hF
          have HL : Hid (∀ w : World, Calls Tryd.prog 79 #[.int .u8 (c.toNat : Int)] w fun e w' => e = .returned (.int .u8 ((c.toNat ||| 32 : Nat) : Int)) ∧ w' = w) := fun w => lower_any c.toNat w hc256
          generalize (c.toNat ||| 32) = m at *
          have n95 : ((c.toNat : Int) == 95) = false ∨ ((c.toNat : Int) == 95) = true := by cases ((c.toNat : Int) == 95) <;> simp
          have nd : (decide ((48 : Int) ≤ c.toNat) = false) ∨ (decide ((48 : Int) ≤ c.toNat) = true ∧ decide ((c.toNat : Int) ≤ 57) = false) := by
            by_cases h48 : 48 ≤ c.toNat
            · exact .inr ⟨by simp; omega, by simp; omega⟩
            · exact .inl (by simp; omega)
          have nm : (decide ((97 : Int) ≤ m) = false) ∨ (decide ((97 : Int) ≤ m) = true ∧ decide ((m : Int) ≤ 122) = false) ∨ (decide ((97 : Int) ≤ m) = true ∧ decide ((m : Int) ≤ 122) = true ∧ 103 ≤ m ∧ m ≤ 122) := by
            by_cases h97 : 97 ≤ m
            · by_cases h122 : m ≤ 122
              · exact .inr (.inr ⟨by simp; omega, by simp; omega, by omega, h122⟩)
              · exact .inr (.inl ⟨by simp; omega, by simp; omega⟩)
            · exact .inl (by simp; omega)
          clear hF hdec ha hk0 hk1 hacc hacc16 hdig hlet
          rcases nd with nd | ⟨nd, nd2⟩
          all_goals
            rcases n95 with n95 | n95
            all_goals
              rcases nm with nm | ⟨nm, nm2⟩ | ⟨nm, nm2, nm3, nm4⟩
              all_goals
                go_wp2_with (go_at_call 79; refine (HL.out _).mono ?_; rintro e w' ⟨rfl, rfl⟩)
                go_ret2
                exact ⟨by rw [HD.out]; rfl, HW.out⟩
    · have hkk : k = t.size := by omega
      subst hkk
      have hF : puG acc (bs.drop t.size) = some acc := by rw [List.drop_eq_nil_of_le (by omega)]; rfl
      rw [hF] at hdec
      have HD : Hid (puG 0 bs = some acc) := hdec
      subst ha
      clear hacc hF hk0 hk1 hdec hB
      go_wp2
      go_ret2
      exact ⟨by rw [HD.out]; rfl, HW.out⟩
end Go.Proofs.YtdendpckihckeabDoor
