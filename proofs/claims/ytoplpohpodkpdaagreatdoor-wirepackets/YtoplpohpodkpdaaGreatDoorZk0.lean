/- Small laws of our own, over whatever program: an append of one element onto a row that the call owns; a row that is owned, read as cells. -/
import Derived.Test.YtoplpohpodkpdaaGreatDoorRows
import Derived.WalkKit
import Derived.WalkSpells
import Derived.WalkLawsBesides
import Derived.Deep.RegionWith
import Derived.Lib.ValidLaws
import Derived.Lib.RuneCount
import Derived.Laws.Cover4
import Derived.Lib.OthersKept
import Derived.BigCall
import Derived.RegionTactic
import Derived.Deep.QuietTactic
import Derived.BigQuiet
import Derived.WalkMore
namespace Go.Proofs.YtoplpohpodkpdaaGreatDoor
open Go.RowKit

theorem ret_int {k : IntKind} {a b : Int} (h : a = b) : Ending.returned (.int k a) = .returned (.int k b) := by rw [h]
theorem ret_str {xs ys : List Int} (h : xs = ys) : Ending.returned (.string (strOfNums xs)) = .returned (.string (strOfNums ys)) := by rw [h]

theorem wpl_app {P : Program} (wr : World) {ops : Array Oper} {rest : List Oper} {o : Oper} {a : Act} {Q : Exit → Act → World → Prop} (hgd : o.guard = none) (s x : Operand) (t e : TypeId)
    (ho : o.op = .call { callee := .builtin .append, args := #[s, x], argTypes := #[t, t] })
    (i : TypeInfo) (z : Value) (bytes : Nat) (ht : P.underlying t = some (.slice e)) (hi : P.info? e = some i) (hz : i.zero = some z)
    (hsize : i.size = 1) (hby : i.bytes = bytes) (hzs : z.cells.size = 1)
    (base : Nat) (v : Value) (n : Nat) (xs : List Value) (hs : a.eval s = v) (hown : wr.ownsRow base e 1 v n xs)
    (el : Value) (hx : a.eval x = .slice (some ⟨wr.heap.size, 0, none⟩) 1 1) (h1 : el.oneCell' = true)
    (hbytes : (n + 1) * bytes ≤ 140737488355328) (h63 : n + 1 ≤ maxLen) (hbase : base ≤ wr.heap.size)
    (h : ∀ v' w', w'.ownsRow base e 1 v' (n + 1) (xs ++ [el]) → Below base wr w' → v' ≠ .slice none 0 0 → wpList P ops Q rest (a.put o.dst v') w') :
    wpList P ops Q (o :: rest) a (wr.alloc (.cells #[el] e)) := by
  refine wpList_append_own _ hgd s x t ho base e i z 1 bytes ht hi hz hsize hby hzs (by omega) v n xs hs (hown.alloc _) ⟨wr.heap.size, 0, none⟩ 1 1 [el] hx rfl ?_ ?_ h63 hbytes ?_ ?_
  · intro j u hj
    match j, hj with
    | 0, hj => simp at hj; subst hj; simp [Addr.add]
  · intro u hu; simp at hu; subst hu; exact h1
  · simp; omega
  · intro v' w' h2 h3 h4
    refine h v' w' h2 ?_ (fun e => by have := (h4.1 e).2; omega)
    exact ((Below.refl _ _).alloc hbase _).grown h3 (by simp; omega) (fun k hk => (hown.lt k hk).1)

/-- An owned row of bytes that is not empty, laid open. -/
theorem own_open {w : World} {base : Nat} {e : TypeId} {v : Value} {n : Nat} {xs : List Value} (h : w.ownsRow base e 1 v n xs) (hn : 0 < n) :
    ∃ g cap, v = .slice (some ⟨g, 0, none⟩) n cap ∧ base ≤ g ∧ n ≤ cap ∧ cap ≤ maxLen ∧ xs.length = n ∧ (∀ j u, xs[j]? = some u → w.cell? ⟨g, j, none⟩ = some u) ∧ (∀ j, w.frozen? ⟨g, j, none⟩ = false) := by
  obtain ⟨h1, h2⟩ := h
  rcases h2 with ⟨_, h0⟩ | ⟨g, cap, cur, rfl, hb, hg, hc, hm, hs, ht⟩
  · omega
  · refine ⟨g, cap, rfl, hb, hc, hm, by omega, ?_, ?_⟩
    · intro j u hu
      rw [cell_of_row w g j cur e (0, 0) hg]
      rw [← ht, List.getElem?_take] at hu
      split at hu
      · simpa using hu
      · cases hu
    · intro j
      simp [World.frozen?, hg]

end Go.Proofs.YtoplpohpodkpdaaGreatDoor
/- Small laws of our own, over whatever program, more of them. -/
namespace Go.Proofs.YtoplpohpodkpdaaGreatDoor
open Go.RowKit
/-- A block that was laid before a call that keeps what was there: it holds what it held. -/
theorem part_cells {w w1 : World} {C : Array Value} {t : TypeId} (hb : Below (w.alloc (.cells C t)).drew.heap.size (w.alloc (.cells C t)).drew w1) :
    (∀ j, w1.cell? ⟨w.heap.size, j, none⟩ = C[j]?) ∧ (∀ j, w1.frozen? ⟨w.heap.size, j, none⟩ = false) ∧ Below w.heap.size w w1 ∧ w.heap.size < w1.heap.size := by
  have hs := hb.size
  simp at hs
  refine ⟨fun j => ?_, fun j => ?_, ?_, by omega⟩
  · rw [hb.cell (p := ⟨w.heap.size, j, none⟩) (by simp)]
    simp
  · rw [hb.frozen (p := ⟨w.heap.size, j, none⟩) (by simp)]
    simp
  · exact ((Below.refl _ _).alloc (Nat.le_refl _) _).drew.trans (hb.mono (by simp))

theorem part_cells0 {w w1 : World} {C : Array Value} {t : TypeId} (hb : Below (w.alloc (.cells C t)).heap.size (w.alloc (.cells C t)) w1) :
    (∀ j, w1.cell? ⟨w.heap.size, j, none⟩ = C[j]?) ∧ (∀ j, w1.frozen? ⟨w.heap.size, j, none⟩ = false) ∧ Below w.heap.size w w1 ∧ w.heap.size < w1.heap.size := by
  have hs := hb.size
  simp at hs
  refine ⟨fun j => ?_, fun j => ?_, ?_, by omega⟩
  · rw [hb.cell (p := ⟨w.heap.size, j, none⟩) (by simp)]
    simp
  · rw [hb.frozen (p := ⟨w.heap.size, j, none⟩) (by simp)]
    simp
  · exact ((Below.refl _ _).alloc (Nat.le_refl _) _).trans (hb.mono (by simp))

end Go.Proofs.YtoplpohpodkpdaaGreatDoor
/- Rows that are read: a slice, its elements cell by cell, wherever it lies. -/
namespace Go.Proofs.YtoplpohpodkpdaaGreatDoor
open Go.RowKit

/-- The slice v has n elements of 'sz' cells each, and they hold xs. -/
def IsRow (w : World) (sz : Nat) (v : Value) (n : Nat) (xs : List Value) : Prop :=
  xs.length = n * sz ∧ ((n = 0 ∧ ∃ a cap, v = .slice a 0 cap) ∨
    ∃ b off cap, v = .slice (some ⟨b, off, none⟩) n cap ∧ b < w.heap.size ∧ n ≤ cap ∧ cap ≤ maxLen ∧ ∀ j u, xs[j]? = some u → w.cell? ⟨b, off + j, none⟩ = some u)

theorem IsRow.below {w w' : World} {sz : Nat} {v : Value} {n : Nat} {xs : List Value} (h : IsRow w sz v n xs) (hb : Below w.heap.size w w') : IsRow w' sz v n xs := by
  refine ⟨h.1, ?_⟩
  rcases h.2 with h | ⟨b, off, cap, rfl, hlt, hc, hm, hcell⟩
  · exact .inl h
  · exact .inr ⟨b, off, cap, rfl, Nat.lt_of_lt_of_le hlt hb.size, hc, hm, fun j u hu => (hb.cell (p := ⟨b, off + j, none⟩) hlt).trans (hcell j u hu)⟩

/-- What the call itself has made is such a row, too. -/
theorem IsRow.own {w : World} {base : Nat} {e : TypeId} {sz : Nat} {v : Value} {n : Nat} {xs : List Value} (h : w.ownsRow base e sz v n xs) : IsRow w sz v n xs := by
  obtain ⟨h1, h2⟩ := h
  refine ⟨h1, ?_⟩
  rcases h2 with ⟨hv, hn⟩ | ⟨g, cap, cur, rfl, hb, hg, hc, hm, hs, ht⟩
  · exact .inl ⟨hn, _, _, hv⟩
  · refine .inr ⟨g, 0, cap, rfl, (Array.getElem?_eq_some_iff.1 hg).1, hc, hm, fun j u hu => ?_⟩
    rw [Nat.zero_add, cell_of_row w g j cur e (0, 0) hg]
    rw [← ht, List.getElem?_take] at hu
    split at hu
    · simpa using hu
    · cases hu

theorem IsRow.nil (w : World) (sz : Nat) : IsRow w sz (.slice none 0 0) 0 [] := ⟨by simp, .inl ⟨rfl, _, _, rfl⟩⟩

/-- One that is not empty, laid open. -/
theorem IsRow.open {w : World} {sz : Nat} {v : Value} {n : Nat} {xs : List Value} (h : IsRow w sz v n xs) (hn : 0 < n) :
    ∃ b off cap, v = .slice (some ⟨b, off, none⟩) n cap ∧ b < w.heap.size ∧ n ≤ cap ∧ cap ≤ maxLen ∧ ∀ j u, xs[j]? = some u → w.cell? ⟨b, off + j, none⟩ = some u := by
  rcases h.2 with ⟨h0, _⟩ | h
  · omega
  · exact h
theorem IsRow.form {w : World} {sz : Nat} {v : Value} {n : Nat} {xs : List Value} (h : IsRow w sz v n xs) : ∃ a cap, v = .slice a n cap := by
  rcases h.2 with ⟨rfl, a, cap, rfl⟩ | ⟨b, off, cap, rfl, _⟩
  · exact ⟨a, cap, rfl⟩
  · exact ⟨_, _, rfl⟩

/-- An item: its kind, its number, its text. -/
structure It where
  k : Int
  n : Int
  s : ByteArray
def It.cells (x : It) : List Value := [.int .i64 x.k, .int .i64 x.n, .string x.s]
def itCells (l : List It) : List Value := l.flatMap It.cells
theorem itCells_at (l : List It) (i : Nat) (h : i < l.length) : (itCells l)[3 * i]? = some (.int .i64 (l[i]'h).k) ∧ (itCells l)[3 * i + 1]? = some (.int .i64 (l[i]'h).n) ∧ (itCells l)[3 * i + 2]? = some (.string (l[i]'h).s) := by
  induction l generalizing i with
  | nil => simp at h
  | cons x l ih =>
    cases i with
    | zero => exact ⟨rfl, rfl, rfl⟩
    | succ i =>
      have h' : i < l.length := by simpa using h
      have := ih i h'
      have e : itCells (x :: l) = It.cells x ++ itCells l := by simp [itCells]
      have e0 : (It.cells x).length = 3 := rfl
      rw [e]
      refine ⟨?_, ?_, ?_⟩
      · rw [List.getElem?_append_right (by rw [e0]; omega), e0, show 3 * (i + 1) - 3 = 3 * i by omega]; exact this.1
      · rw [List.getElem?_append_right (by rw [e0]; omega), e0, show 3 * (i + 1) + 1 - 3 = 3 * i + 1 by omega]; exact this.2.1
      · rw [List.getElem?_append_right (by rw [e0]; omega), e0, show 3 * (i + 1) + 2 - 3 = 3 * i + 2 by omega]; exact this.2.2
theorem itCells_snoc (l : List It) (x : It) : itCells (l ++ [x]) = itCells l ++ It.cells x := by simp [itCells]
/-- A row of items, item i's cells, as the walk asks for them. -/
theorem items_at {w : World} {a : Option Addr} {cap : Nat} {l : List It} (h : IsRow w 3 (.slice a l.length cap) l.length (itCells l)) (i : Nat) (hi : i < l.length) :
    ∃ b off, a = some ⟨b, off, none⟩ ∧ b < w.heap.size ∧ w.cell? ⟨b, off + i * 3, none⟩ = some (.int .i64 (l[i]'hi).k) ∧ w.cell? ⟨b, off + i * 3 + 1, none⟩ = some (.int .i64 (l[i]'hi).n) ∧ w.cell? ⟨b, off + i * 3 + 2, none⟩ = some (.string (l[i]'hi).s) := by
  obtain ⟨b, off, cap', hv, hlt, _, _, hc⟩ := h.open (by omega)
  have := itCells_at l i hi
  simp only [Value.slice.injEq] at hv
  refine ⟨b, off, hv.1, hlt, ?_, ?_, ?_⟩
  · rw [show off + i * 3 = off + 3 * i by omega]; exact hc _ _ this.1
  · rw [show off + i * 3 + 1 = off + (3 * i + 1) by omega]; exact hc _ _ this.2.1
  · rw [show off + i * 3 + 2 = off + (3 * i + 2) by omega]; exact hc _ _ this.2.2
end Go.Proofs.YtoplpohpodkpdaaGreatDoor
/- Runes of bytes; small letters; which runes are a name: plain, of no program. -/
namespace Go.Proofs.YtoplpohpodkpdaaGreatDoor
open Go.Lib
set_option maxRecDepth 100000

def rnGo : Nat → List UInt8 → List Nat
  | 0, _ => []
  | n + 1, l => if l = [] then [] else (decodeL l).1 :: rnGo n (l.drop (decodeL l).2)
/-- The runes of bytes, as a range hands them over. -/
def rns (l : List UInt8) : List Nat := rnGo l.length l
theorem rnGo_nil : ∀ n, rnGo n [] = []
  | 0 => rfl
  | _ + 1 => by simp [rnGo]
theorem rnGo_fuel : ∀ (n m : Nat) (l : List UInt8), l.length ≤ n → l.length ≤ m → rnGo n l = rnGo m l
  | 0, m, l, hn, _ => by
    have : l = [] := List.eq_nil_of_length_eq_zero (by omega)
    subst this
    rw [rnGo_nil, rnGo_nil]
  | n + 1, 0, l, _, hm => by
    have : l = [] := List.eq_nil_of_length_eq_zero (by omega)
    subst this
    rw [rnGo_nil, rnGo_nil]
  | n + 1, m + 1, l, hn, hm => by
    unfold rnGo
    by_cases hne : l = []
    · simp [hne]
    · have hw := decodeL_width l
      have hl : 0 < l.length := List.length_pos_iff.2 hne
      rw [if_neg hne, if_neg hne, rnGo_fuel n m (l.drop (decodeL l).2) (by rw [List.length_drop]; omega) (by rw [List.length_drop]; omega)]
theorem rns_step (l : List UInt8) (hne : l ≠ []) : rns l = (decodeL l).1 :: rns (l.drop (decodeL l).2) := by
  have hl : 0 < l.length := List.length_pos_iff.2 hne
  have hw := decodeL_width l
  obtain ⟨n, hn⟩ : ∃ n, l.length = n + 1 := ⟨l.length - 1, by omega⟩
  unfold rns
  rw [hn]
  show (if l = [] then [] else _) = _
  rw [if_neg hne, rnGo_fuel n (l.drop (decodeL l).2).length _ (by rw [List.length_drop]; omega) (Nat.le_refl _)]
/-- From a place of a text on. -/
theorem rns_at (s : ByteArray) (pos : Nat) (h : pos < s.size) : rns (s.data.toList.drop pos) = (Utf8.decode s pos).1 :: rns (s.data.toList.drop (pos + (Utf8.decode s pos).2)) := by
  have hne : s.data.toList.drop pos ≠ [] := by
    intro e
    have := congrArg List.length e
    rw [List.length_drop] at this
    have e2 : s.data.toList.length = s.size := Array.length_toList
    simp at this
    omega
  rw [rns_step _ hne, decodeL_drop, List.drop_drop]
theorem rns_end (s : ByteArray) (pos : Nat) (h : ¬ pos < s.size) : rns (s.data.toList.drop pos) = [] := by
  have e2 : s.data.toList.length = s.size := Array.length_toList
  rw [List.drop_of_length_le (by omega)]
  rfl
/-- The bytes of a rune. -/
def enc (c : Nat) : List UInt8 := (Utf8.encode c).data.toList
theorem enc_len4 (c : Nat) : (enc c).length ≤ 4 := by
  unfold enc Utf8.encode
  simp only
  repeat' split
  all_goals simp
/-! ### letters -/
def letterN (c : Nat) : Bool := decide ((65 ≤ c ∧ c ≤ 90) ∨ (97 ≤ c ∧ c ≤ 122) ∨ (192 ≤ c ∧ c ≤ 591 ∧ c ≠ 215 ∧ c ≠ 247) ∨ (913 ≤ c ∧ c ≤ 937 ∧ c ≠ 930) ∨ (945 ≤ c ∧ c ≤ 969) ∨ (1040 ≤ c ∧ c ≤ 1103) ∨ (19968 ≤ c ∧ c ≤ 40959))
def beginsN (c : Nat) : Bool := c == 95 || letterN c
/-- What Check answers, from some parts and runes on. -/
def chk : Nat → Nat → Bool → List Nat → Int
  | p, r, f, [] => if f then 3 else if 5 < p ∨ 40 < r then 2 else 0
  | p, r, f, c :: cs => if beginsN c then chk p (r + 1) false cs else if f then 3 else if c = 46 then chk (p + 1) (r + 1) true cs else if c ≠ 45 ∧ ¬ (48 ≤ c ∧ c ≤ 57) then 3 else chk p (r + 1) f cs
def checkL (l : List UInt8) : Int := chk 1 0 true (rns l)
theorem flat_len : ∀ cs : List Nat, (cs.flatMap enc).length ≤ 4 * cs.length
  | [] => by simp
  | c :: cs => by
    have := flat_len cs
    have := enc_len4 c
    simp only [List.flatMap_cons, List.length_append, List.length_cons]
    omega
end Go.Proofs.YtoplpohpodkpdaaGreatDoor
/- name.within, Letter, Small, begins, Hash: walks. -/
namespace Go.Proofs.YtoplpohpodkpdaaGreatDoor
open Go.RowKit

def inR (c lo hi : Int) : Bool := decide (lo ≤ c ∧ c ≤ hi)
theorem within_any (c lo hi : Int) (w : World) :
    Calls Tryz.prog 109 #[.int .i32 c, .int .i32 lo, .int .i32 hi] w fun e w' => e = .returned (.bool (inR c lo hi)) ∧ w' = w := by
  go_enter Tryz.func109, Tryz.ntmps109
  by_cases h1 : lo ≤ c
  · have hd : decide (lo ≤ c) = true := by simpa using h1
    go_wp2
    go_ret
    refine ⟨?_, rfl⟩
    simp [inR, h1]
  · have hd : decide (lo ≤ c) = false := by simpa using h1
    go_wp2
    go_ret
    refine ⟨?_, rfl⟩
    have : inR c lo hi = false := by simp only [inR, decide_eq_false_iff_not]; omega
    rw [this]
    rfl

def letterZ (c : Int) : Bool := decide ((65 ≤ c ∧ c ≤ 90) ∨ (97 ≤ c ∧ c ≤ 122) ∨ (192 ≤ c ∧ c ≤ 591 ∧ c ≠ 215 ∧ c ≠ 247) ∨ (913 ≤ c ∧ c ≤ 937 ∧ c ≠ 930) ∨ (945 ≤ c ∧ c ≤ 969) ∨ (1040 ≤ c ∧ c ≤ 1103) ∨ (19968 ≤ c ∧ c ≤ 40959))
set_option maxHeartbeats 1000000 in
theorem letter_any (c : Int) (w : World) :
    Calls Tryz.prog 120 #[.int .i32 c] w fun e w' => e = .returned (.bool (letterZ c)) ∧ w' = w := by
  go_enter Tryz.func120, Tryz.ntmps120
  go_wp2_with (go_at_call 109; refine (within_any _ _ _ _).mono ?_; rintro e w' ⟨rfl, rfl⟩)
  all_goals go_ret
  all_goals refine ⟨?_, rfl⟩
  all_goals refine congrArg (fun b => Ending.returned (Value.bool b)) ?_
  all_goals (rw [Bool.eq_iff_iff]; try simp only [inR, decide_eq_true_eq, decide_eq_false_iff_not, beq_iff_eq, beq_eq_false_iff_ne, ne_eq] at *)
  all_goals (simp only [letterZ, Bool.false_eq_true, decide_eq_true_eq, true_iff, false_iff]; omega)

def beginsZ (c : Int) : Bool := c == 95 || letterZ c
theorem begins_any (c : Int) (w : World) :
    Calls Tryz.prog 108 #[.int .i32 c] w fun e w' => e = .returned (.bool (beginsZ c)) ∧ w' = w := by
  by_cases h : c = 95
  · subst h
    go_enter Tryz.func108, Tryz.ntmps108
    go_wp2_with (go_at_call 120; refine (letter_any _ _).mono ?_; rintro e w' ⟨rfl, rfl⟩)
    go_ret
    exact ⟨rfl, rfl⟩
  · have hd : (c == 95) = false := by simpa using h
    go_enter Tryz.func108, Tryz.ntmps108
    go_wp2_with (go_at_call 120; refine (letter_any _ _).mono ?_; rintro e w' ⟨rfl, rfl⟩)
    go_ret
    refine ⟨?_, rfl⟩
    simp [beginsZ, hd]

theorem letterZ_nat (c : Nat) : letterZ (c : Int) = letterN c := by
  rw [Bool.eq_iff_iff]; simp only [letterZ, letterN, decide_eq_true_eq]; omega
theorem beginsZ_nat (c : Nat) : beginsZ (c : Int) = beginsN c := by
  unfold beginsZ beginsN
  rw [letterZ_nat]
  congr 1
  rw [Bool.eq_iff_iff]; simp only [beq_iff_eq]; omega
end Go.Proofs.YtoplpohpodkpdaaGreatDoor
/- name.Check and name.Hash: walks, at every text. -/
namespace Go.Proofs.YtoplpohpodkpdaaGreatDoor
open Go.RowKit

/-- What holds of Check's loop at every round. -/
def CkRel (s : ByteArray) (w : World) (p r f : Value) (wr : World) : Prop :=
  ∃ (pos P R : Nat) (F : Bool), p = .int .i64 P ∧ r = .int .i64 R ∧ f = .bool F ∧ wr.heap[w.heap.size]? = some (.stringIter s pos) ∧ Below w.heap.size w wr ∧ chk P R F (rns (s.data.toList.drop pos)) = checkL s.data.toList ∧ P ≤ pos + 1 ∧ R ≤ pos

set_option maxRecDepth 100000 in
set_option maxHeartbeats 2000000 in
theorem check_any (s : ByteArray) (w : World) (hs : s.size ≤ 140737488355328) :
    Calls Tryz.prog 87 #[.string s] w fun e w' => e = .returned (.int .i64 (checkL s.data.toList)) ∧ Below w.heap.size w w' := by
  go_enter Tryz.func87, Tryz.ntmps87
  go_wp2
  go_loopw [3, 4, 5] (fun p r f wr => CkRel s w p r f wr) (fun _ _ _ wr => s.size - wr.iterPos w.heap.size)
  case atStart =>
    refine ⟨0, 1, 0, true, rfl, rfl, rfl, ?_, (Below.refl _ _).alloc (Nat.le_refl _) _, rfl, by omega, by omega⟩
    have := World.iter_heap w s 0
    simpa using this
  case round =>
    obtain ⟨pos, P, R, F, rfl, rfl, rfl, hit, hbw, hck, hP, hR⟩ := hrel
    have HC : Hid (chk P R F (rns (s.data.toList.drop pos)) = checkL s.data.toList) := hck
    clear hck
    have hsz : w.heap.size < wr.heap.size := (Array.getElem?_eq_some_iff.1 hit).1
    by_cases hp : pos < s.size
    · have hnx : ∀ ty, (Instr.next (.pointer (some ⟨w.heap.size, 0, none⟩)) true ty).run Tryz.prog wr = _ := fun ty => Lib.run_next_any_at wr w.heap.size s pos ty hit hp
      have hwd := Lib.decode_width_pos s pos hp
      have hit2 := Lib.iterAt_heap wr w.heap.size s pos (pos + (Utf8.decode s pos).2) hit
      have hbw2 := Lib.below_iterAt hbw (k := w.heap.size) (Nat.le_refl _) s (pos + (Utf8.decode s pos).2)
      have hrn : Hid (rns (s.data.toList.drop pos) = (Utf8.decode s pos).1 :: rns (s.data.toList.drop (pos + (Utf8.decode s pos).2))) := rns_at s pos hp
      have hmeas : Hid (s.size - (pos + (Utf8.decode s pos).2) < s.size - wr.iterPos w.heap.size) := by
        show _ < _
        rw [iterPos_of hit]; omega
      generalize (Utf8.decode s pos).1 = c at *
      generalize (Utf8.decode s pos).2 = d at *
      generalize hW : wr.iterAt w.heap.size s (pos + d) = W at *
      have hmW : Hid (W.iterPos w.heap.size = pos + d) := iterPos_of hit2
      have HC2 : Hid (chk P R F (c :: rns (s.data.toList.drop (pos + d))) = checkL s.data.toList) := by show _ = _; rw [← hrn.out]; exact HC.out
      have hbz := beginsZ_nat c
      by_cases hb : beginsN c = true
      · rw [hb] at hbz
        have HC3 : Hid (chk P (R + 1) false (rns (s.data.toList.drop (pos + d))) = checkL s.data.toList) := by
          show _ = _; rw [← HC2.out]; simp [chk, hb]
        clear HC HC2 hrn hb
        go_wp2_with (go_at_call 108; refine (begins_any _ _).mono ?_; rintro e w' ⟨rfl, rfl⟩)
        go_roundw
        case rel => exact ⟨pos + d, P, R + 1, false, rfl, by go_num, rfl, hit2, hbw2, HC3.out, by omega, by omega⟩
        case measure => rw [hmW.out]; exact hmeas.out
      · have hb' : beginsN c = false := by simpa using hb
        rw [hb'] at hbz
        cases F
        · by_cases h46 : c = 46
          · have h46' : ((c : Int) == 46) = true := by rw [beq_iff_eq]; omega
            have HC3 : Hid (chk (P + 1) (R + 1) true (rns (s.data.toList.drop (pos + d))) = checkL s.data.toList) := by
              show _ = _; rw [← HC2.out]; simp [chk, h46, show beginsN 46 = false by decide]
            clear HC HC2 hrn hb hb' h46
            go_wp2_with (go_at_call 108; refine (begins_any _ _).mono ?_; rintro e w' ⟨rfl, rfl⟩)
            go_roundw
            case rel => exact ⟨pos + d, P + 1, R + 1, true, by go_num, by go_num, rfl, hit2, hbw2, HC3.out, by omega, by omega⟩
            case measure => rw [hmW.out]; exact hmeas.out
          · have h46' : ((c : Int) == 46) = false := by rw [beq_eq_false_iff_ne]; omega
            by_cases h45 : c = 45
            · have h45' : ((c : Int) != 45) = false := by rw [bne_eq_false_iff_eq]; omega
              have HC3 : Hid (chk P (R + 1) false (rns (s.data.toList.drop (pos + d))) = checkL s.data.toList) := by
                show _ = _; rw [← HC2.out]; simp [chk, h45, show beginsN 45 = false by decide]
              clear HC HC2 hrn hb hb' h46 h45
              go_wp2_with (first | (go_at_call 108; refine (begins_any _ _).mono ?_; rintro e w' ⟨rfl, rfl⟩) | (go_at_call 109; refine (within_any _ _ _ _).mono ?_; rintro e w' ⟨rfl, rfl⟩))
              go_roundw
              case rel => exact ⟨pos + d, P, R + 1, false, rfl, by go_num, rfl, hit2, hbw2, HC3.out, by omega, by omega⟩
              case measure => rw [hmW.out]; exact hmeas.out
            · have h45' : ((c : Int) != 45) = true := by rw [bne_iff_ne]; omega
              by_cases hdg : 48 ≤ c ∧ c ≤ 57
              · have hin : inR (c : Int) 48 57 = true := by simp only [inR, decide_eq_true_eq]; omega
                have HC3 : Hid (chk P (R + 1) false (rns (s.data.toList.drop (pos + d))) = checkL s.data.toList) := by
                  show _ = _; rw [← HC2.out]; simp [chk, hb', h46, hdg]
                clear HC HC2 hrn hb hb' h46 h45 hdg
                go_wp2_with (first | (go_at_call 108; refine (begins_any _ _).mono ?_; rintro e w' ⟨rfl, rfl⟩) | (go_at_call 109; refine (within_any _ _ _ _).mono ?_; rintro e w' ⟨rfl, rfl⟩))
                go_roundw
                case rel => exact ⟨pos + d, P, R + 1, false, rfl, by go_num, rfl, hit2, hbw2, HC3.out, by omega, by omega⟩
                case measure => rw [hmW.out]; exact hmeas.out
              · have hin : inR (c : Int) 48 57 = false := by simp only [inR, decide_eq_false_iff_not]; omega
                have HC3 : Hid (3 = checkL s.data.toList) := by
                  show _ = _; rw [← HC2.out]; simp [chk, hb', h46, h45, hdg]
                clear HC HC2 hrn hb hb' h46 h45 hdg
                go_wp2_with (first | (go_at_call 108; refine (begins_any _ _).mono ?_; rintro e w' ⟨rfl, rfl⟩) | (go_at_call 109; refine (within_any _ _ _ _).mono ?_; rintro e w' ⟨rfl, rfl⟩))
                go_ret
                exact ⟨by rw [← HC3.out]; rfl, hbw2⟩
        · have HC3 : Hid (3 = checkL s.data.toList) := by
            show _ = _; rw [← HC2.out]; simp [chk, hb']
          clear HC HC2 hrn hb hb'
          go_wp2_with (go_at_call 108; refine (begins_any _ _).mono ?_; rintro e w' ⟨rfl, rfl⟩)
          go_ret
          exact ⟨by rw [← HC3.out]; rfl, hbw2⟩
    · have hnx : ∀ ty, (Instr.next (.pointer (some ⟨w.heap.size, 0, none⟩)) true ty).run Tryz.prog wr = _ := fun ty => Lib.run_next_end_at wr w.heap.size s pos ty hit hp
      have HC2 : Hid (chk P R F [] = checkL s.data.toList) := by show _ = _; rw [← HC.out, rns_end s pos hp]
      clear HC
      cases F
      · by_cases h5 : 5 < P
        · have h5' : (5 : Int) < P := by omega
          have HC3 : Hid (2 = checkL s.data.toList) := by show _ = _; rw [← HC2.out]; simp [chk, h5]
          clear HC2
          go_wp2
          go_ret
          exact ⟨by rw [← HC3.out]; rfl, hbw⟩
        · have h5' : decide ((5 : Int) < P) = false := by simp; omega
          by_cases h40 : 40 < R
          · have h40' : decide ((40 : Int) < R) = true := by simp; omega
            have HC3 : Hid (2 = checkL s.data.toList) := by show _ = _; rw [← HC2.out]; simp [chk, h40]
            clear HC2
            go_wp2
            go_ret
            exact ⟨by rw [← HC3.out]; rfl, hbw⟩
          · have h40' : decide ((40 : Int) < R) = false := by simp; omega
            have HC3 : Hid (0 = checkL s.data.toList) := by show _ = _; rw [← HC2.out]; simp [chk, h40, h5]
            clear HC2
            go_wp2
            go_ret
            exact ⟨by rw [← HC3.out]; rfl, hbw⟩
      · have HC3 : Hid (3 = checkL s.data.toList) := by show _ = _; rw [← HC2.out]; simp [chk]
        clear HC2
        go_wp2
        go_ret
        exact ⟨by rw [← HC3.out]; rfl, hbw⟩

end Go.Proofs.YtoplpohpodkpdaaGreatDoor
/- wire: its table; isKind, counts, has, isZero, mayBe at the messages of the examples: walks. -/
namespace Go.Proofs.YtoplpohpodkpdaaGreatDoor
open Go.RowKit

theorem al_f (w : World) (o : Obj) : Below w.heap.size w (w.alloc o) := (Below.refl _ _).alloc (Nat.le_refl _) o
theorem nw_at (w : World) (o : Obj) : (w.alloc o).heap[w.heap.size]? = some o := by show (w.heap.push o)[w.heap.size]? = some o; simp
theorem bT {a b c : World} (h1 : Below a.heap.size a b) (h2 : Below b.heap.size b c) : Below a.heap.size a c := h1.trans (h2.mono h1.size)
def cntI (n : Int) : Bool := decide (1 ≤ n) && decide (n ≤ 1099511627775)
/-- May an identity be? -/
def idB (a b c : Int) : Bool := decide (1 ≤ a) && (decide (a ≤ 15) && (cntI b && cntI c))
abbrev idV (a b c : Int) : Value := .agg #[.int .i64 a, .int .i64 b, .int .i64 c]
theorem countsI_any (n : Int) (w : World) : Calls Tryz.prog 86 #[.int .i64 n] w fun e w' => e = .returned (.bool (cntI n)) ∧ w' = w := by
  by_cases h1 : 1 ≤ n
  · have d1 : decide (1 ≤ n) = true := decide_eq_true h1
    have e : cntI n = decide (n ≤ 1099511627775) := by unfold cntI; rw [d1, Bool.true_and]
    rw [e]
    clear e
    go_enter Tryz.func86, Tryz.ntmps86
    go_wp2
    go_ret
    exact ⟨rfl, rfl⟩
  · have d1 : decide (1 ≤ n) = false := decide_eq_false h1
    have e : cntI n = false := by unfold cntI; rw [d1, Bool.false_and]
    rw [e]
    clear e
    go_enter Tryz.func86, Tryz.ntmps86
    go_wp2
    go_ret
    exact ⟨rfl, rfl⟩
set_option maxRecDepth 100000 in
set_option maxHeartbeats 1000000 in
theorem isID_any (a b c : Int) (w : World) : Calls Tryz.prog 58 #[idV a b c] w fun e w' => e = .returned (.bool (idB a b c)) ∧ Below w.heap.size w w' := by
  have HB : Hid (Below w.heap.size w (w.alloc (.cells #[.int .i64 a, .int .i64 b, .int .i64 c] 37))) := al_f w _
  have HC : Hid (∀ n W, Calls Tryz.prog 86 #[.int .i64 n] W fun e w' => e = .returned (.bool (cntI n)) ∧ w' = W) := fun n W => countsI_any n W
  by_cases h1 : 1 ≤ a
  · have d1 : decide (1 ≤ a) = true := decide_eq_true h1
    by_cases h2 : a ≤ 15
    · have d2 : decide (a ≤ 15) = true := decide_eq_true h2
      have e0 : idB a b c = (cntI b && cntI c) := by unfold idB; rw [d1, d2, Bool.true_and, Bool.true_and]
      rw [e0]
      cases hb : cntI b
      · rw [Bool.false_and]
        have HCb := HC.out b
        rw [hb] at HCb
        clear e0 hb h1 h2
        go_enter Tryz.func58, Tryz.ntmps58
        go_wp2_with fail
        refine (HCb _).mono ?_
        rintro e w1 ⟨rfl, h1⟩
        obtain rfl := h1.symm
        go_wp2
        go_ret
        exact ⟨rfl, HB.out⟩
      · rw [Bool.true_and]
        have HCb := HC.out b
        rw [hb] at HCb
        have HCc := HC.out c
        generalize cntI c = cc at *
        clear e0 hb h1 h2 HC
        go_enter Tryz.func58, Tryz.ntmps58
        go_wp2_with fail
        refine (HCb _).mono ?_
        rintro e w1 ⟨rfl, h1⟩
        obtain rfl := h1.symm
        go_wp2_with fail
        refine (HCc _).mono ?_
        rintro e w2 ⟨rfl, h2⟩
        obtain rfl := h2.symm
        go_wp2
        go_ret
        exact ⟨rfl, HB.out⟩
    · have d2 : decide (a ≤ 15) = false := decide_eq_false h2
      have e0 : idB a b c = false := by unfold idB; rw [d1, d2, Bool.true_and, Bool.false_and]
      rw [e0]
      clear e0 HC h1 h2
      go_enter Tryz.func58, Tryz.ntmps58
      go_wp2
      go_ret
      exact ⟨rfl, HB.out⟩
  · have d1 : decide (1 ≤ a) = false := decide_eq_false h1
    have e0 : idB a b c = false := by unfold idB; rw [d1, Bool.false_and]
    rw [e0]
    clear e0 HC h1
    go_enter Tryz.func58, Tryz.ntmps58
    go_wp2
    go_ret
    exact ⟨rfl, HB.out⟩
/-- What stands in wire's table. -/
structure PO (w : World) : Prop where
  c12 : w.cell? ⟨0, 12, none⟩ = some (.int .i64 5)
  c14 : w.cell? ⟨0, 14, none⟩ = some (.int .i64 0)
theorem PO.below {w w' : World} (h : PO w) (hb : Below w.heap.size w w') : PO w' := by
  have hl : 0 < w.heap.size := World.block_lt_of_cell? _ _ h.c12
  exact ⟨(hb.cell (p := ⟨0, 12, none⟩) hl).trans h.c12, (hb.cell (p := ⟨0, 14, none⟩) hl).trans h.c14⟩
/-- A message of the examples. -/
abbrev msgC (k ep a b c : Int) (s : ByteArray) : Array Value := #[.int .i64 k, .int .i64 ep, .int .i64 a, .int .i64 b, .int .i64 c, .int .i64 0, .string s, .string ⟨#[]⟩, .int .i64 0, .slice none 0 0, .slice none 0 0, .slice none 0 0, .int .i64 0, .int .i64 0, .int .i64 0, .string ⟨#[]⟩, .slice none 0 0]
abbrev evZ : Array Value := #[.int .i64 0, .int .i64 0, .int .i64 0, .string ⟨#[]⟩, .slice none 0 0]
def pts : List Int := [1, 2, 4, 8, 16, 32, 64, 128, 256]
set_option maxRecDepth 100000 in
theorem isKindW_any (n : Int) (w : World) (h1 : 1 ≤ n) (h2 : n ≤ 14) : Calls Tryz.prog 31 #[.int .i64 n] w fun e w' => e = .returned (.bool true) ∧ w' = w := by
  have d1 : decide (1 ≤ n) = true := decide_eq_true h1
  have d2 : decide (n ≤ 14) = true := decide_eq_true h2
  go_enter Tryz.func31, Tryz.ntmps31
  go_wp2
  go_ret
  exact ⟨by first | rfl | simp, rfl⟩
set_option maxRecDepth 100000 in
theorem countsW_any (n : Int) (w : World) : Calls Tryz.prog 16 #[.int .i64 n] w fun e w' => e = .returned (.bool (cntI n)) ∧ w' = w := by
  have hE : cntI n = (decide (1 ≤ n) && decide (n ≤ 1099511627775)) := rfl
  rw [hE]
  clear hE
  by_cases h1 : 1 ≤ n
  · have d1 : decide (1 ≤ n) = true := decide_eq_true h1
    rw [d1, Bool.true_and]
    go_enter Tryz.func16, Tryz.ntmps16
    go_wp2
    go_ret
    exact ⟨by first | rfl | simp, rfl⟩
  · have d1 : decide (1 ≤ n) = false := decide_eq_false h1
    rw [d1, Bool.false_and]
    go_enter Tryz.func16, Tryz.ntmps16
    go_wp2
    go_ret
    exact ⟨by first | rfl | simp, rfl⟩
set_option maxRecDepth 100000 in
set_option maxHeartbeats 4000000 in
theorem has12 (ep a b c : Int) (s : ByteArray) (p : Int) (hp : p ∈ pts) (w : World) (h : PO w) : Calls Tryz.prog 32 #[.agg (msgC 12 ep a b c s), .int .i64 p] w fun e w' => e = .returned (.bool (decide (p = 1) || decide (p = 4))) ∧ Below w.heap.size w w' := by
  obtain ⟨w1, hw1⟩ : ∃ w1, w1 = w.alloc (.cells (msgC 12 ep a b c s) 45) := ⟨_, rfl⟩
  have B1 : Hid (Below w.heap.size w w1) := by show Below _ _ _; rw [hw1]; exact al_f _ _
  have hk : w1.heap[w.heap.size]? = some (.cells (msgC 12 ep a b c s) 45 (0, 0)) := by rw [hw1]; exact nw_at _ _
  have c0 : w1.cell? ⟨w.heap.size, 0, none⟩ = some (.int .i64 12) := by rw [Lib.cell_of_heap hk]; rfl
  have c5 : w1.cell? ⟨w.heap.size, 5, none⟩ = some (.int .i64 0) := by rw [Lib.cell_of_heap hk]; rfl
  have g0 : w1.cell? ⟨0, 12, none⟩ = some (.int .i64 5) := (h.below B1.out).c12
  clear hk h
  rw [hw1] at c0 c5 g0
  unfold pts at hp
  simp only [List.mem_cons, List.not_mem_nil, or_false] at hp
  rcases hp with rfl | rfl | rfl | rfl | rfl | rfl | rfl | rfl | rfl <;> (
    go_enter Tryz.func32, Tryz.ntmps32
    go_wp2_with fail
    rw [← hw1]
    go_ret
    exact ⟨by first | rfl | simp, B1.out⟩)
set_option maxRecDepth 100000 in
set_option maxHeartbeats 4000000 in
theorem has14 (ep a b c : Int) (s : ByteArray) (p : Int) (hp : p ∈ pts) (w : World) (h : PO w) : Calls Tryz.prog 32 #[.agg (msgC 14 ep a b c s), .int .i64 p] w fun e w' => e = .returned (.bool (false)) ∧ Below w.heap.size w w' := by
  obtain ⟨w1, hw1⟩ : ∃ w1, w1 = w.alloc (.cells (msgC 14 ep a b c s) 45) := ⟨_, rfl⟩
  have B1 : Hid (Below w.heap.size w w1) := by show Below _ _ _; rw [hw1]; exact al_f _ _
  have hk : w1.heap[w.heap.size]? = some (.cells (msgC 14 ep a b c s) 45 (0, 0)) := by rw [hw1]; exact nw_at _ _
  have c0 : w1.cell? ⟨w.heap.size, 0, none⟩ = some (.int .i64 14) := by rw [Lib.cell_of_heap hk]; rfl
  have c5 : w1.cell? ⟨w.heap.size, 5, none⟩ = some (.int .i64 0) := by rw [Lib.cell_of_heap hk]; rfl
  have g0 : w1.cell? ⟨0, 14, none⟩ = some (.int .i64 0) := (h.below B1.out).c14
  clear hk h
  rw [hw1] at c0 c5 g0
  unfold pts at hp
  simp only [List.mem_cons, List.not_mem_nil, or_false] at hp
  rcases hp with rfl | rfl | rfl | rfl | rfl | rfl | rfl | rfl | rfl <;> (
    go_enter Tryz.func32, Tryz.ntmps32
    go_wp2_with fail
    rw [← hw1]
    go_ret
    exact ⟨by first | rfl | simp, B1.out⟩)
set_option maxRecDepth 100000 in
set_option maxHeartbeats 4000000 in
theorem sameA0 (w : World) : Calls Tryz.prog 93 #[.slice none 0 0, .slice none 0 0] w fun e w' => e = .returned (.bool true) ∧ Below w.heap.size w w' := by
  go_enter Tryz.func93, Tryz.ntmps93
  go_wp2_with fail
  go_loopw [4, 5, 13] (fun r _ i wr => r = .bool false ∧ i = .int .i64 0 ∧ Below w.heap.size w wr) (fun _ _ i _ => 1)
  case atStart => exact ⟨rfl, rfl, Below.refl _ _⟩
  case round =>
    obtain ⟨rfl, rfl, HB⟩ := hrel
    go_wp2
    go_ret
    exact ⟨rfl, HB⟩
set_option maxRecDepth 100000 in
set_option maxHeartbeats 4000000 in
theorem sameE0 (w : World) : Calls Tryz.prog 65 #[.agg evZ, .agg evZ] w fun e w' => e = .returned (.bool true) ∧ Below w.heap.size w w' := by
  obtain ⟨w1, hw1⟩ : ∃ w1, w1 = w.alloc (.cells evZ 43) := ⟨_, rfl⟩
  have B1 : Hid (Below w.heap.size w w1) := by show Below _ _ _; rw [hw1]; exact al_f _ _
  have hk1 : w1.heap[w.heap.size]? = some (.cells evZ 43 (0, 0)) := by rw [hw1]; exact nw_at _ _
  obtain ⟨w2, hw2⟩ : ∃ w2, w2 = w1.alloc (.cells evZ 43) := ⟨_, rfl⟩
  have B12 : Below w1.heap.size w1 w2 := by rw [hw2]; exact al_f _ _
  have B2 : Hid (Below w.heap.size w w2) := bT B1.out B12
  have hk2 : w2.heap[w.heap.size]? = some (.cells evZ 43 (0, 0)) := (B12.block _ (Array.getElem?_eq_some_iff.1 hk1).1).trans hk1
  have hz : w1.heap.size = w.heap.size + 1 := by rw [hw1]; simp
  have hk3 : w2.heap[w.heap.size + 1]? = some (.cells evZ 43 (0, 0)) := by rw [hw2, ← hz]; exact nw_at _ _
  have c0 : w2.cell? ⟨w.heap.size, 0, none⟩ = some (.int .i64 0) := by rw [Lib.cell_of_heap hk2]; rfl
  have d0 : w2.cell? ⟨w.heap.size + 1, 0, none⟩ = some (.int .i64 0) := by rw [Lib.cell_of_heap hk3]; rfl
  have c1 : w2.cell? ⟨w.heap.size, 1, none⟩ = some (.int .i64 0) := by rw [Lib.cell_of_heap hk2]; rfl
  have d1 : w2.cell? ⟨w.heap.size + 1, 1, none⟩ = some (.int .i64 0) := by rw [Lib.cell_of_heap hk3]; rfl
  have c2 : w2.cell? ⟨w.heap.size, 2, none⟩ = some (.int .i64 0) := by rw [Lib.cell_of_heap hk2]; rfl
  have d2 : w2.cell? ⟨w.heap.size + 1, 2, none⟩ = some (.int .i64 0) := by rw [Lib.cell_of_heap hk3]; rfl
  have c3 : w2.cell? ⟨w.heap.size, 3, none⟩ = some (.string ⟨#[]⟩) := by rw [Lib.cell_of_heap hk2]; rfl
  have d3 : w2.cell? ⟨w.heap.size + 1, 3, none⟩ = some (.string ⟨#[]⟩) := by rw [Lib.cell_of_heap hk3]; rfl
  have c4 : w2.cell? ⟨w.heap.size, 4, none⟩ = some (.slice none 0 0) := by rw [Lib.cell_of_heap hk2]; rfl
  have d4 : w2.cell? ⟨w.heap.size + 1, 4, none⟩ = some (.slice none 0 0) := by rw [Lib.cell_of_heap hk3]; rfl
  clear hk1 hk2 hk3 hz B12
  rw [hw2, hw1] at c0 d0 c1 d1 c2 d2 c3 d3 c4 d4
  have HA : Hid (∀ W, Calls Tryz.prog 93 #[.slice none 0 0, .slice none 0 0] W fun e w' => e = .returned (.bool true) ∧ Below W.heap.size W w') := sameA0
  go_enter Tryz.func65, Tryz.ntmps65
  go_wp2_with fail
  rw [← hw1, ← hw2]
  clear hw1 hw2 c0 d0 c1 d1 c2 d2 c3 d3 c4 d4
  refine (HA.out _).mono ?_
  rintro e w3 ⟨rfl, hb⟩
  have B3 : Hid (Below w.heap.size w w3) := bT B2.out hb
  clear hb
  go_wp2
  go_ret
  exact ⟨rfl, B3.out⟩
set_option maxRecDepth 100000 in
set_option maxHeartbeats 8000000 in
theorem isZero_c (k ep a b c : Int) (s : ByteArray) (p : Int) (hp : p ∈ pts) (h1 : p = 1 → a = 0 ∧ b = 0 ∧ c = 0) (h4 : p = 4 → s = ⟨#[]⟩) (w : World) : Calls Tryz.prog 35 #[.agg (msgC k ep a b c s), .int .i64 p] w fun e w' => e = .returned (.bool true) ∧ Below w.heap.size w w' := by
  obtain ⟨w1, hw1⟩ : ∃ w1, w1 = w.alloc (.cells (msgC k ep a b c s) 45) := ⟨_, rfl⟩
  have B1 : Hid (Below w.heap.size w w1) := by show Below _ _ _; rw [hw1]; exact al_f _ _
  have hk : w1.heap[w.heap.size]? = some (.cells (msgC k ep a b c s) 45 (0, 0)) := by rw [hw1]; exact nw_at _ _
  have c2 : w1.cell? ⟨w.heap.size, 2, none⟩ = some (.int .i64 a) := by rw [Lib.cell_of_heap hk]; rfl
  have c3 : w1.cell? ⟨w.heap.size, 3, none⟩ = some (.int .i64 b) := by rw [Lib.cell_of_heap hk]; rfl
  have c4 : w1.cell? ⟨w.heap.size, 4, none⟩ = some (.int .i64 c) := by rw [Lib.cell_of_heap hk]; rfl
  have c5 : w1.cell? ⟨w.heap.size, 5, none⟩ = some (.int .i64 0) := by rw [Lib.cell_of_heap hk]; rfl
  have c6 : w1.cell? ⟨w.heap.size, 6, none⟩ = some (.string s) := by rw [Lib.cell_of_heap hk]; rfl
  have c7 : w1.cell? ⟨w.heap.size, 7, none⟩ = some (.string ⟨#[]⟩) := by rw [Lib.cell_of_heap hk]; rfl
  have c8 : w1.cell? ⟨w.heap.size, 8, none⟩ = some (.int .i64 0) := by rw [Lib.cell_of_heap hk]; rfl
  have c9 : w1.cell? ⟨w.heap.size, 9, none⟩ = some (.slice none 0 0) := by rw [Lib.cell_of_heap hk]; rfl
  have c10 : w1.cell? ⟨w.heap.size, 10, none⟩ = some (.slice none 0 0) := by rw [Lib.cell_of_heap hk]; rfl
  have c11 : w1.cell? ⟨w.heap.size, 11, none⟩ = some (.slice none 0 0) := by rw [Lib.cell_of_heap hk]; rfl
  have c12 : w1.cell? ⟨w.heap.size, 12, none⟩ = some (.int .i64 0) := by rw [Lib.cell_of_heap hk]; rfl
  have c13 : w1.cell? ⟨w.heap.size, 13, none⟩ = some (.int .i64 0) := by rw [Lib.cell_of_heap hk]; rfl
  have c14 : w1.cell? ⟨w.heap.size, 14, none⟩ = some (.int .i64 0) := by rw [Lib.cell_of_heap hk]; rfl
  have c15 : w1.cell? ⟨w.heap.size, 15, none⟩ = some (.string ⟨#[]⟩) := by rw [Lib.cell_of_heap hk]; rfl
  have c16 : w1.cell? ⟨w.heap.size, 16, none⟩ = some (.slice none 0 0) := by rw [Lib.cell_of_heap hk]; rfl
  clear hk
  rw [hw1] at c2 c3 c4 c5 c6 c7 c8 c9 c10 c11 c12 c13 c14 c15 c16
  have HE : Hid (∀ W, Calls Tryz.prog 65 #[.agg evZ, .agg evZ] W fun e w' => e = .returned (.bool true) ∧ Below W.heap.size W w') := sameE0
  unfold pts at hp
  simp only [List.mem_cons, List.not_mem_nil, or_false] at hp
  rcases hp with rfl | rfl | rfl | rfl | rfl | rfl | rfl | rfl | rfl
  · obtain ⟨rfl, rfl, rfl⟩ := h1 rfl
    clear h1 h4
    go_enter Tryz.func35, Tryz.ntmps35
    go_wp2_with fail
    rw [← hw1]
    go_ret
    exact ⟨by first | rfl | simp, B1.out⟩
  rotate_left
  · obtain rfl := h4 rfl
    clear h1 h4
    go_enter Tryz.func35, Tryz.ntmps35
    go_wp2_with fail
    rw [← hw1]
    go_ret
    exact ⟨by first | rfl | simp, B1.out⟩
  rotate_left 5
  · clear h1 h4
    go_enter Tryz.func35, Tryz.ntmps35
    go_wp2_with fail
    rw [← hw1]
    clear c2 c3 c4 c5 c6 c7 c8 c9 c10 c11 c12 c13 c14 c15 c16 hw1
    refine (HE.out _).mono ?_
    rintro e w3 ⟨rfl, hb⟩
    have B3 : Hid (Below w.heap.size w w3) := bT B1.out hb
    clear hb
    go_wp2
    go_ret
    exact ⟨rfl, B3.out⟩
  all_goals (
    clear h1 h4
    go_enter Tryz.func35, Tryz.ntmps35
    go_wp2_with fail
    rw [← hw1]
    go_ret
    exact ⟨by first | rfl | simp, B1.out⟩)
set_option maxRecDepth 100000 in
theorem isName_a (w : World) : Calls Tryz.prog 59 #[.string ⟨#[97]⟩] w fun e w' => e = .returned (.bool true) ∧ Below w.heap.size w w' := by
  have HC : Hid (Calls Tryz.prog 87 #[.string ⟨#[97]⟩] w fun e w' => e = .returned (.int .i64 0) ∧ Below w.heap.size w w') := by
    have h := check_any ⟨#[97]⟩ w (by decide)
    have e : checkL (⟨#[97]⟩ : ByteArray).data.toList = 0 := by kernel_rfl
    rw [e] at h
    exact h
  go_enter Tryz.func59, Tryz.ntmps59
  go_wp2_with fail
  refine HC.out.mono ?_
  rintro e w3 ⟨rfl, hb⟩
  have B3 : Hid (Below w.heap.size w w3) := hb
  clear hb
  go_wp2
  go_ret
  exact ⟨rfl, B3.out⟩
set_option maxRecDepth 100000 in
set_option maxHeartbeats 8000000 in
theorem mayBe_c (k ep : Int) (p : Int) (hp : p = 1 ∨ p = 4) (w : World) : Calls Tryz.prog 34 #[.agg (msgC k ep 2 1 7 ⟨#[97]⟩), .int .i64 p] w fun e w' => e = .returned (.bool true) ∧ Below w.heap.size w w' := by
  obtain ⟨w1, hw1⟩ : ∃ w1, w1 = w.alloc (.cells (msgC k ep 2 1 7 ⟨#[97]⟩) 45) := ⟨_, rfl⟩
  have B1 : Hid (Below w.heap.size w w1) := by show Below _ _ _; rw [hw1]; exact al_f _ _
  have hk : w1.heap[w.heap.size]? = some (.cells (msgC k ep 2 1 7 ⟨#[97]⟩) 45 (0, 0)) := by rw [hw1]; exact nw_at _ _
  have c2 : w1.cell? ⟨w.heap.size, 2, none⟩ = some (.int .i64 2) := by rw [Lib.cell_of_heap hk]; rfl
  have c3 : w1.cell? ⟨w.heap.size, 3, none⟩ = some (.int .i64 1) := by rw [Lib.cell_of_heap hk]; rfl
  have c4 : w1.cell? ⟨w.heap.size, 4, none⟩ = some (.int .i64 7) := by rw [Lib.cell_of_heap hk]; rfl
  have c6 : w1.cell? ⟨w.heap.size, 6, none⟩ = some (.string ⟨#[97]⟩) := by rw [Lib.cell_of_heap hk]; rfl
  clear hk
  rw [hw1] at c2 c3 c4 c6
  have HI : Hid (∀ W, Calls Tryz.prog 58 #[.agg #[.int .i64 2, .int .i64 1, .int .i64 7]] W fun e w' => e = .returned (.bool true) ∧ Below W.heap.size W w') := fun W => by
    have h := isID_any 2 1 7 W
    have e : idB 2 1 7 = true := by decide
    rw [e] at h
    exact h
  have HN : Hid (∀ W, Calls Tryz.prog 59 #[.string ⟨#[97]⟩] W fun e w' => e = .returned (.bool true) ∧ Below W.heap.size W w') := isName_a
  rcases hp with rfl | rfl
  · go_enter Tryz.func34, Tryz.ntmps34
    go_wp2_with fail
    rw [← hw1]
    clear hw1 c2 c3 c4 c6
    refine (HI.out _).mono ?_
    rintro e w3 ⟨rfl, hb⟩
    have B3 : Hid (Below w.heap.size w w3) := bT B1.out hb
    clear hb
    go_wp2
    go_ret
    exact ⟨rfl, B3.out⟩
  · go_enter Tryz.func34, Tryz.ntmps34
    go_wp2_with fail
    rw [← hw1]
    clear hw1 c2 c3 c4 c6
    refine (HN.out _).mono ?_
    rintro e w3 ⟨rfl, hb⟩
    have B3 : Hid (Below w.heap.size w w3) := bT B1.out hb
    clear hb
    go_wp2
    go_ret
    exact ⟨rfl, B3.out⟩
end Go.Proofs.YtoplpohpodkpdaaGreatDoor
