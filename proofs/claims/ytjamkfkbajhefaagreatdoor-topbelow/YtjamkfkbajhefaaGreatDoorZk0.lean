/- Small laws of our own, over whatever program: an append of one element onto a row that the call owns; a row that is owned, read as cells. -/
import Derived.Test.YtjamkfkbajhefaaGreatDoorRows
import Derived.WalkKit
import Derived.WalkSpells
import Derived.WalkLawsBesides
import Derived.Deep.RegionWith
import Derived.RegionTactic
import Derived.Deep.QuietTactic
import Derived.BigQuiet
import Derived.Lib.ValidLaws
import Derived.Lib.RuneCount
import Derived.Laws.Cover4
import Derived.Lib.OthersKept
import Derived.BigCall
namespace Go.Proofs.YtjamkfkbajhefaaGreatDoor
open Go.RowKit

end Go.Proofs.YtjamkfkbajhefaaGreatDoor
/- Small laws of our own, over whatever program, more of them. -/
namespace Go.Proofs.YtjamkfkbajhefaaGreatDoor
open Go.RowKit
end Go.Proofs.YtjamkfkbajhefaaGreatDoor
/- Rows that are read: a slice, its elements cell by cell, wherever it lies. -/
namespace Go.Proofs.YtjamkfkbajhefaaGreatDoor
open Go.RowKit

/-- The slice v has n elements of 'sz' cells each, and they hold xs. -/
def IsRow (w : World) (sz : Nat) (v : Value) (n : Nat) (xs : List Value) : Prop :=
  xs.length = n * sz ∧ ((n = 0 ∧ ∃ a cap, v = .slice a 0 cap) ∨
    ∃ b off cap, v = .slice (some ⟨b, off, none⟩) n cap ∧ b < w.heap.size ∧ n ≤ cap ∧ cap ≤ maxLen ∧ ∀ j u, xs[j]? = some u → w.cell? ⟨b, off + j, none⟩ = some u)

theorem IsRow.below {w w' : World} {sz : Nat} {v : Value} {n : Nat} {xs : List Value} (h : IsRow w sz v n xs) (hb : Below w.heap.size w w') : IsRow w' sz v n xs := by
  refine ⟨h.1, ?_⟩
  rcases h.2 with h | ⟨b, off, cap, rfl, hlt, hc, hm, hcell⟩
  · exact .inl h
  · exact .inr ⟨b, off, cap, rfl, Nat.lt_of_lt_of_le hlt hb.size, hc, hm, fun j u hu => (hb.cell (p := ⟨b, off + j, none⟩) hlt).trans (hcell j u hu)⟩

/-- What the call itself has made is such a row, too. -/
theorem IsRow.own {w : World} {base : Nat} {e : TypeId} {sz : Nat} {v : Value} {n : Nat} {xs : List Value} (h : w.ownsRow base e sz v n xs) : IsRow w sz v n xs := by
  obtain ⟨h1, h2⟩ := h
  refine ⟨h1, ?_⟩
  rcases h2 with ⟨hv, hn⟩ | ⟨g, cap, cur, rfl, hb, hg, hc, hm, hs, ht⟩
  · exact .inl ⟨hn, _, _, hv⟩
  · refine .inr ⟨g, 0, cap, rfl, (Array.getElem?_eq_some_iff.1 hg).1, hc, hm, fun j u hu => ?_⟩
    rw [Nat.zero_add, cell_of_row w g j cur e (0, 0) hg]
    rw [← ht, List.getElem?_take] at hu
    split at hu
    · simpa using hu
    · cases hu

theorem IsRow.nil (w : World) (sz : Nat) : IsRow w sz (.slice none 0 0) 0 [] := ⟨by simp, .inl ⟨rfl, _, _, rfl⟩⟩

/-- One that is not empty, laid open. -/
theorem IsRow.open {w : World} {sz : Nat} {v : Value} {n : Nat} {xs : List Value} (h : IsRow w sz v n xs) (hn : 0 < n) :
    ∃ b off cap, v = .slice (some ⟨b, off, none⟩) n cap ∧ b < w.heap.size ∧ n ≤ cap ∧ cap ≤ maxLen ∧ ∀ j u, xs[j]? = some u → w.cell? ⟨b, off + j, none⟩ = some u := by
  rcases h.2 with ⟨h0, _⟩ | h
  · omega
  · exact h
theorem IsRow.form {w : World} {sz : Nat} {v : Value} {n : Nat} {xs : List Value} (h : IsRow w sz v n xs) : ∃ a cap, v = .slice a n cap := by
  rcases h.2 with ⟨rfl, a, cap, rfl⟩ | ⟨b, off, cap, rfl, _⟩
  · exact ⟨a, cap, rfl⟩
  · exact ⟨_, _, rfl⟩

/-- An item: its kind, its number, its text. -/
structure It where
  k : Int
  n : Int
  s : ByteArray
def It.cells (x : It) : List Value := [.int .i64 x.k, .int .i64 x.n, .string x.s]
def itCells (l : List It) : List Value := l.flatMap It.cells
theorem itCells_at (l : List It) (i : Nat) (h : i < l.length) : (itCells l)[3 * i]? = some (.int .i64 (l[i]'h).k) ∧ (itCells l)[3 * i + 1]? = some (.int .i64 (l[i]'h).n) ∧ (itCells l)[3 * i + 2]? = some (.string (l[i]'h).s) := by
  induction l generalizing i with
  | nil => simp at h
  | cons x l ih =>
    cases i with
    | zero => exact ⟨rfl, rfl, rfl⟩
    | succ i =>
      have h' : i < l.length := by simpa using h
      have := ih i h'
      have e : itCells (x :: l) = It.cells x ++ itCells l := by simp [itCells]
      have e0 : (It.cells x).length = 3 := rfl
      rw [e]
      refine ⟨?_, ?_, ?_⟩
      · rw [List.getElem?_append_right (by rw [e0]; omega), e0, show 3 * (i + 1) - 3 = 3 * i by omega]; exact this.1
      · rw [List.getElem?_append_right (by rw [e0]; omega), e0, show 3 * (i + 1) + 1 - 3 = 3 * i + 1 by omega]; exact this.2.1
      · rw [List.getElem?_append_right (by rw [e0]; omega), e0, show 3 * (i + 1) + 2 - 3 = 3 * i + 2 by omega]; exact this.2.2
/-- A row of items, item i's cells, as the walk asks for them. -/
theorem items_at {w : World} {a : Option Addr} {cap : Nat} {l : List It} (h : IsRow w 3 (.slice a l.length cap) l.length (itCells l)) (i : Nat) (hi : i < l.length) :
    ∃ b off, a = some ⟨b, off, none⟩ ∧ b < w.heap.size ∧ w.cell? ⟨b, off + i * 3, none⟩ = some (.int .i64 (l[i]'hi).k) ∧ w.cell? ⟨b, off + i * 3 + 1, none⟩ = some (.int .i64 (l[i]'hi).n) ∧ w.cell? ⟨b, off + i * 3 + 2, none⟩ = some (.string (l[i]'hi).s) := by
  obtain ⟨b, off, cap', hv, hlt, _, _, hc⟩ := h.open (by omega)
  have := itCells_at l i hi
  simp only [Value.slice.injEq] at hv
  refine ⟨b, off, hv.1, hlt, ?_, ?_, ?_⟩
  · rw [show off + i * 3 = off + 3 * i by omega]; exact hc _ _ this.1
  · rw [show off + i * 3 + 1 = off + (3 * i + 1) by omega]; exact hc _ _ this.2.1
  · rw [show off + i * 3 + 2 = off + (3 * i + 2) by omega]; exact hc _ _ this.2.2
end Go.Proofs.YtjamkfkbajhefaaGreatDoor
/- The pieces of a filter's text, as the reader hands them out; what a call that moves the reader leaves; place, wrong: walks. -/
namespace Go.Proofs.YtjamkfkbajhefaaGreatDoor.F
open Go.RowKit

theorem al_f (w : World) (o : Obj) : Below w.heap.size w (w.alloc o) := (Below.refl _ _).alloc (Nat.le_refl _) o
theorem nw_at (w : World) (o : Obj) : (w.alloc o).heap[w.heap.size]? = some o := by show (w.heap.push o)[w.heap.size]? = some o; simp
/-- A piece. -/
inductive Pc where
  | word (p : Int) (s : ByteArray)
  | mark (p : Int) (s : ByteArray)
  | lit (p k n : Int) (s : ByteArray)
  | fin (p : Int)
def Pc.v : Pc → Value
  | .word p s => .iface 156 (.agg #[.int .i64 p, .string s])
  | .mark p s => .iface 157 (.agg #[.int .i64 p, .string s])
  | .lit p k n s => .iface 159 (.agg #[.int .i64 p, .int .i64 k, .int .i64 n, .string s])
  | .fin p => .iface 154 (.agg #[.int .i64 p])
def Pc.at : Pc → Int
  | .word p _ => p
  | .mark p _ => p
  | .lit p _ _ _ => p
  | .fin p => p
/-- What is wrong, and where. -/
abbrev ftV (p e : Int) : Value := .agg #[.int .i64 p, .int .i64 e]
/-- What a call that moves the reader at R leaves. -/
structure Sr (R : Nat) (w w' : World) : Prop where
  os : w'.os = w.os
  tape : w'.tape = w.tape
  output : w'.output = w.output
  size : w.heap.size ≤ w'.heap.size
  block : ∀ k, k < w.heap.size → k ≠ R → w'.heap[k]? = w.heap[k]?
theorem Sr.refl (R : Nat) (w : World) : Sr R w w := ⟨rfl, rfl, rfl, Nat.le_refl _, fun _ _ _ => rfl⟩
theorem Sr.of {R : Nat} {w w' : World} (h : Below w.heap.size w w') : Sr R w w' := ⟨h.os, h.tape, h.output, h.size, fun k hk _ => h.block k hk⟩
theorem Sr.trans {R : Nat} {a b c : World} (h : Sr R a b) (k : Sr R b c) : Sr R a c :=
  ⟨k.os.trans h.os, k.tape.trans h.tape, k.output.trans h.output, Nat.le_trans h.size k.size, fun i hi hn => (k.block i (Nat.lt_of_lt_of_le hi h.size) hn).trans (h.block i hi hn)⟩
theorem Sr.below {R B : Nat} {w w' : World} (h : Sr R w w') (hs : B ≤ w.heap.size) (hr : B ≤ R) : Below B w w' :=
  ⟨h.os, h.tape, h.output, h.size, fun k hk => h.block k (Nat.lt_of_lt_of_le hk hs) (by omega)⟩
theorem Sr.row {R : Nat} {w w' : World} (h : Sr R w w') {sz : Nat} {a : Option Addr} {n c : Nat} {xs : List Value} (hr : IsRow w sz (.slice a n c) n xs) (hn : ∀ d, a = some d → d.block ≠ R) : IsRow w' sz (.slice a n c) n xs := by
  refine ⟨hr.1, ?_⟩
  rcases hr.2 with q | ⟨b, off, cap, hv, hlt, hc, hm, hcell⟩
  · exact .inl q
  · simp only [Value.slice.injEq] at hv
    obtain ⟨h1, -, h2⟩ := hv
    subst h1 h2
    refine .inr ⟨b, off, c, rfl, Nat.lt_of_lt_of_le hlt h.size, hc, hm, fun j u hu => ?_⟩
    have hb := h.block b hlt (hn _ rfl)
    have := hcell j u hu
    unfold World.cell? at this ⊢
    rw [hb]
    exact this
theorem Sr.set {R g : Nat} {w w' : World} (h : Sr R w w') (hg : g = R ∨ w.heap.size ≤ g) (j : Nat) (u : Value) : Sr R w (w'.setCell ⟨g, j, none⟩ u) :=
  ⟨h.os, h.tape, h.output, by simpa [World.setCell] using h.size, fun k hk hn => by
    rw [Below.heap_setCell _ _ _ _ (show k ≠ g from by rcases hg with rfl | hg; exact hn; omega)]
    exact h.block k hk hn⟩
theorem Sr.drew {R : Nat} {w w' : World} (h : Sr R w w') : Sr R w w'.drew := ⟨h.os, h.tape, h.output, h.size, h.block⟩
theorem Sr.al {R : Nat} {w w' : World} (h : Sr R w w') (o : Obj) : Sr R w (w'.alloc o) := h.trans (Sr.of (al_f w' o))
theorem Sr.box {R : Nat} {w w' : World} (h : Sr R w w') {g : Nat} {o : Obj} (hg : w.heap[g]? = some o) (hn : g ≠ R) : w'.heap[g]? = some o := (h.block g (Array.getElem?_eq_some_iff.1 hg).1 hn).trans hg
set_option maxRecDepth 100000 in
theorem place_any (p : Int) (w : World) : Calls Tryz.prog 124 #[.int .i64 p] w fun e w' => e = .returned (.int .i64 p) ∧ w' = w := by
  go_enter Tryz.func124, Tryz.ntmps124
  go_wp2
  go_ret
  exact ⟨rfl, rfl⟩
theorem results_f1 {fn : Func} {p : Tmp} {ty : TypeId} (h : fn.results = #[.cell p ty]) (tmps : Array Value) (P : Program) (w : World) :
    (results fn tmps).run P w = ((asAddr (tmps.getD p undef)).run P w).andThen fun a w₁ => (loadVar ty a).run P w₁ := by
  simp only [results, h]
  simp [Sem.run_bind, Result.andThen]
theorem me_word (p : Int) (s : ByteArray) (W : World) : (method 381 156 (.agg #[.int .i64 p, .string s]) "caduceus/filter.place").run Tryz.prog W = .ok (124, .int .i64 p) W := by kernel_rfl
theorem me_mark (p : Int) (s : ByteArray) (W : World) : (method 381 157 (.agg #[.int .i64 p, .string s]) "caduceus/filter.place").run Tryz.prog W = .ok (124, .int .i64 p) W := by kernel_rfl
theorem me_literal (p k n : Int) (s : ByteArray) (W : World) : (method 381 159 (.agg #[.int .i64 p, .int .i64 k, .int .i64 n, .string s]) "caduceus/filter.place").run Tryz.prog W = .ok (124, .int .i64 p) W := by kernel_rfl
theorem me_end (p : Int) (W : World) : (method 381 154 (.agg #[.int .i64 p]) "caduceus/filter.place").run Tryz.prog W = .ok (124, .int .i64 p) W := by kernel_rfl
set_option maxRecDepth 100000 in
set_option maxHeartbeats 1000000 in
theorem wrong_any (x : Pc) (c : Int) (w : World) : Calls Tryz.prog 97 #[x.v, .int .i64 c] w fun e w' => e = .returned (ftV x.at c) ∧ Below w.heap.size w w' := by
  cases x with
  | word p s =>
    have hm := me_word p s
    show Calls Tryz.prog 97 #[.iface 156 (.agg #[.int .i64 p, .string s]), .int .i64 c] w fun e w' => e = .returned (ftV p c) ∧ Below w.heap.size w w'
    go_enter Tryz.func97, Tryz.ntmps97
    go_wp2
    refine bodyPost_ret (v := ftV p c) ?_ rfl ⟨rfl, al_f _ _⟩
    rw [results_f1 rfl]; go_simp
  | mark p s =>
    have hm := me_mark p s
    show Calls Tryz.prog 97 #[.iface 157 (.agg #[.int .i64 p, .string s]), .int .i64 c] w fun e w' => e = .returned (ftV p c) ∧ Below w.heap.size w w'
    go_enter Tryz.func97, Tryz.ntmps97
    go_wp2
    refine bodyPost_ret (v := ftV p c) ?_ rfl ⟨rfl, al_f _ _⟩
    rw [results_f1 rfl]; go_simp
  | lit p k n s =>
    have hm := me_literal p k n s
    show Calls Tryz.prog 97 #[.iface 159 (.agg #[.int .i64 p, .int .i64 k, .int .i64 n, .string s]), .int .i64 c] w fun e w' => e = .returned (ftV p c) ∧ Below w.heap.size w w'
    go_enter Tryz.func97, Tryz.ntmps97
    go_wp2
    refine bodyPost_ret (v := ftV p c) ?_ rfl ⟨rfl, al_f _ _⟩
    rw [results_f1 rfl]; go_simp
  | fin p =>
    have hm := me_end p
    show Calls Tryz.prog 97 #[.iface 154 (.agg #[.int .i64 p]), .int .i64 c] w fun e w' => e = .returned (ftV p c) ∧ Below w.heap.size w w'
    go_enter Tryz.func97, Tryz.ntmps97
    go_wp2
    refine bodyPost_ret (v := ftV p c) ?_ rfl ⟨rfl, al_f _ _⟩
    rw [results_f1 rfl]; go_simp
end Go.Proofs.YtjamkfkbajhefaaGreatDoor.F
/- Tokens as cells; the reader in memory; next: a walk. -/
namespace Go.Proofs.YtjamkfkbajhefaaGreatDoor.F
open Go.RowKit

/-- A token. -/
structure Ft where
  k : Int
  p : Int
  s : ByteArray
  vk : Int
  vn : Int
  vs : ByteArray
def enT6 (x : Ft) : List Value := [.int .i64 x.k, .int .i64 x.p, .string x.s, .int .i64 x.vk, .int .i64 x.vn, .string x.vs]
def ftCells (l : List Ft) : List Value := l.flatMap enT6
theorem ftCells_len (l : List Ft) : (ftCells l).length = l.length * 6 := by
  induction l with
  | nil => rfl
  | cons d D ih => rw [ftCells, List.flatMap_cons, List.length_append, List.length_cons]; rw [ftCells] at ih; rw [ih]; show 6 + _ = _; omega
/-- The piece that is next. -/
def pcF : List Ft → Int → Pc
  | [], z => .fin z
  | t :: _, _ => if t.k = 1 then .word t.p t.s else if t.k = 3 then .mark t.p t.s else .lit t.p t.vk t.vn t.vs
/-- The reader at R has these tokens. -/
def Rd (w0 : World) (R : Nat) (l : List Ft) (z : Int) (w : World) : Prop := ∃ a c, w.heap[R]? = some (.cells #[.slice a l.length c, .int .i64 z] 81 (0, 0)) ∧ ∀ W, Sr R w0 W → IsRow W 6 (.slice a l.length c) l.length (ftCells l)
theorem Rd.keep {w0 : World} {R : Nat} {l : List Ft} {z : Int} {w w' : World} (h : Rd w0 R l z w) (hb : w'.heap[R]? = w.heap[R]?) : Rd w0 R l z w' := by
  obtain ⟨a, c, h1, h2⟩ := h
  exact ⟨a, c, hb.trans h1, h2⟩
theorem Rd.below {w0 : World} {R : Nat} {l : List Ft} {z : Int} {w w' : World} (h : Rd w0 R l z w) (hb : Below w.heap.size w w') : Rd w0 R l z w' := by
  obtain ⟨a, c, h1, h2⟩ := h
  exact ⟨a, c, (hb.block _ (Array.getElem?_eq_some_iff.1 h1).1).trans h1, h2⟩
theorem Rd.set {w0 : World} {R : Nat} {l : List Ft} {z : Int} {w : World} (h : Rd w0 R l z w) {g : Nat} (hg : R < g) (j : Nat) (u : Value) : Rd w0 R l z (w.setCell ⟨g, j, none⟩ u) := h.keep (Below.heap_setCell _ _ _ _ (show R ≠ g by omega))
theorem Rd.al {w0 : World} {R : Nat} {l : List Ft} {z : Int} {w : World} (h : Rd w0 R l z w) (o : Obj) : Rd w0 R l z (w.alloc o) := h.below (al_f w o)
/-- A row without its first token. -/
theorem row_tailF {W : World} {b off cap c' : Nat} {x : Ft} {A : List Ft} {X : Option Addr} (h : IsRow W 6 (.slice (some ⟨b, off, none⟩) (x :: A).length cap) (x :: A).length (ftCells (x :: A))) (hX : cap ≠ 1 → X = some ⟨b, off + 6, none⟩) (hc : c' = cap - 1) : IsRow W 6 (.slice X A.length c') A.length (ftCells A) := by
  subst hc
  have e : ftCells (x :: A) = enT6 x ++ ftCells A := by simp [ftCells]
  refine ⟨ftCells_len A, ?_⟩
  by_cases h0 : A.length = 0
  · exact .inl ⟨h0, X, cap - 1, by rw [h0]⟩
  · rcases h.2 with ⟨h1, -⟩ | ⟨b', off', cap', hv, hlt, q1, q2, hc⟩
    · simp at h1
    · simp only [Value.slice.injEq, Option.some.injEq, Addr.mk.injEq] at hv
      obtain ⟨⟨rfl, rfl, -⟩, -, rfl⟩ := hv
      simp only [List.length_cons] at q1
      rw [hX (by omega)]
      refine .inr ⟨b, off + 6, cap - 1, rfl, hlt, by omega, by omega, fun j u hu => ?_⟩
      have := hc (6 + j) u (by rw [e, List.getElem?_append_right (by show 6 ≤ _; omega)]; show (ftCells A)[6 + j - 6]? = _; rw [Nat.add_sub_cancel_left]; exact hu)
      rwa [← Nat.add_assoc] at this
theorem tk_at {w : World} {a : Option Addr} {cap : Nat} {x : Ft} {l : List Ft} (h : IsRow w 6 (.slice a (x :: l).length cap) (x :: l).length (ftCells (x :: l))) :
    ∃ b off, a = some ⟨b, off, none⟩ ∧ b < w.heap.size ∧ (x :: l).length ≤ cap ∧ w.cell? ⟨b, off, none⟩ = some (.int .i64 x.k) ∧ w.cell? ⟨b, off + 1, none⟩ = some (.int .i64 x.p) ∧ w.cell? ⟨b, off + 2, none⟩ = some (.string x.s) ∧ w.cell? ⟨b, off + 3, none⟩ = some (.int .i64 x.vk) ∧ w.cell? ⟨b, off + 4, none⟩ = some (.int .i64 x.vn) ∧ w.cell? ⟨b, off + 5, none⟩ = some (.string x.vs) := by
  obtain ⟨b, off, cap', hv, hlt, q1, q2, hc⟩ := h.open (by simp)
  simp only [Value.slice.injEq] at hv
  refine ⟨b, off, hv.1, hlt, by omega, ?_, ?_, ?_, ?_, ?_, ?_⟩
  · exact hc 0 _ rfl
  · exact hc 1 _ rfl
  · exact hc 2 _ rfl
  · exact hc 3 _ rfl
  · exact hc 4 _ rfl
  · exact hc 5 _ rfl
def NxP (w0 : World) (R : Nat) (l : List Ft) (z : Int) (w : World) (e : Ending) (w' : World) : Prop := e = .returned (pcF l z).v ∧ Sr R w w' ∧ Rd w0 R l.tail z w'
theorem NxP.at {w0 : World} {R : Nat} {x : Ft} {l : List Ft} {z : Int} {w : World} {b off c : Nat} {X : Option Addr} {u : Value} {o : Obj} (hR : w.heap[R]? = some (.cells #[.slice (some ⟨b, off, none⟩) (x :: l).length c, .int .i64 z] 81 (0, 0))) (h2 : ∀ W, Sr R w0 W → IsRow W 6 (.slice (some ⟨b, off, none⟩) (x :: l).length c) (x :: l).length (ftCells (x :: l))) (hX : X = if c = 1 then some ⟨b, off, none⟩ else some ⟨b, off + 6, none⟩) (hu : u = (pcF (x :: l) z).v) :
    NxP w0 R (x :: l) z w (.returned u) ((w.setCell ⟨R, 0, none⟩ (.slice X l.length (c - 1))).alloc o) := by
  have hlt : R < w.heap.size := (Array.getElem?_eq_some_iff.1 hR).1
  have hs : (w.setCell ⟨R, 0, none⟩ (.slice X l.length (c - 1))).heap.size = w.heap.size := by simp [World.setCell]
  refine ⟨by rw [hu], ((Sr.refl R w).set (.inl rfl) _ _).al _, X, c - 1, ?_, fun W hW => row_tailF (h2 W hW) (fun hc => by rw [hX, if_neg hc]) rfl⟩
  refine ((al_f (w.setCell ⟨R, 0, none⟩ (.slice X l.length (c - 1))) o).block R (by rw [hs]; exact hlt)).trans ?_
  show (w.heap.modify R _)[R]? = _
  rw [Array.getElem?_modify, if_pos rfl, hR]
  rfl
set_option maxRecDepth 100000 in
set_option maxHeartbeats 2000000 in
theorem next_any (w0 : World) (R : Nat) (l : List Ft) (z : Int) (w : World) (h0 : Sr R w0 w) (h : Rd w0 R l z w) (hl : l.length ≤ 1000000) :
    Calls Tryz.prog 66 #[.pointer (some ⟨R, 0, none⟩)] w fun e w' => NxP w0 R l z w e w' := by
  obtain ⟨a, c, h1, h2⟩ := h
  have c0 : w.cell? ⟨R, 0, none⟩ = some (.slice a l.length c) := by rw [Lib.cell_of_heap h1]; rfl
  have c1 : w.cell? ⟨R, 1, none⟩ = some (.int .i64 z) := by rw [Lib.cell_of_heap h1]; rfl
  have fz : ∀ j, w.frozen? ⟨R, j, none⟩ = false := fun j => Lib.frozen_of_heap h1 j
  cases l with
  | nil =>
    have HE : Hid (NxP w0 R [] z w (.returned (.iface 154 (.agg #[.int .i64 z]))) w) := ⟨rfl, Sr.refl _ _, a, c, h1, h2⟩
    clear h1 h2
    go_enter Tryz.func66, Tryz.ntmps66
    go_wp2
    go_ret
    exact HE.out
  | cons x l =>
    obtain ⟨b, off, rfl, hlt, hcap, t0, t1, t2, t3, t4, t5⟩ := tk_at (h2 w h0)
    have HE : Hid (∀ X n u o, n = l.length → X = (if c = 1 then some ⟨b, off, none⟩ else some ⟨b, off + 6, none⟩) → u = (pcF (x :: l) z).v → NxP w0 R (x :: l) z w (.returned u) ((w.setCell ⟨R, 0, none⟩ (.slice X n (c - 1))).alloc o)) := fun X n u o hn hX hu => by subst hn; exact NxP.at h1 h2 hX hu
    have dl : decide (((l.length : Int) + 1) = 0) = false := decide_eq_false (by omega)
    have dl2 : (((l.length : Int) + 1) == 0) = false := by simp; omega
    have i0 : (0 : Int) < (l.length : Int) + 1 := by omega
    have i1 : (1 : Int) ≤ (l.length : Int) + 1 := by omega
    simp only [List.length_cons] at c0 hcap hl
    have hlt' : R < w.heap.size := (Array.getElem?_eq_some_iff.1 h1).1
    obtain ⟨k, p, s, vk, vn, vs⟩ := x
    clear h1 h2 h0
    dsimp only at *
    have HK : Hid ((pcF (⟨k, p, s, vk, vn, vs⟩ :: l) z).v = if k = 1 then .iface 156 (.agg #[.int .i64 p, .string s]) else if k = 3 then .iface 157 (.agg #[.int .i64 p, .string s]) else .iface 159 (.agg #[.int .i64 p, .int .i64 vk, .int .i64 vn, .string vs])) := by
      show _ = _
      unfold pcF
      dsimp only
      split
      · rfl
      · split <;> rfl
    by_cases k1 : k = 1
    · subst k1
      by_cases hc : c = 1
      · subst hc
        go_enter Tryz.func66, Tryz.ntmps66
        go_wp2
        go_ret
        exact HE.out (some ⟨b, off, none⟩) 0 (.iface 156 (.agg #[.int .i64 p, .string s])) _ (by omega) rfl (by rw [HK.out]; simp)
      · go_enter Tryz.func66, Tryz.ntmps66
        go_wp2
        go_ret
        exact HE.out (some ⟨b, off + 6, none⟩) _ (.iface 156 (.agg #[.int .i64 p, .string s])) _ rfl (by rw [if_neg hc]) (by rw [HK.out]; simp)
    · by_cases k3 : k = 3
      · subst k3
        by_cases hc : c = 1
        · subst hc
          go_enter Tryz.func66, Tryz.ntmps66
          go_wp2
          go_ret
          exact HE.out (some ⟨b, off, none⟩) 0 (.iface 157 (.agg #[.int .i64 p, .string s])) _ (by omega) rfl (by rw [HK.out]; simp)
        · go_enter Tryz.func66, Tryz.ntmps66
          go_wp2
          go_ret
          exact HE.out (some ⟨b, off + 6, none⟩) _ (.iface 157 (.agg #[.int .i64 p, .string s])) _ rfl (by rw [if_neg hc]) (by rw [HK.out]; simp)
      · have e1 : (k == 1) = false := by simp [k1]
        have e3 : (k == 3) = false := by simp [k3]
        by_cases hc : c = 1
        · subst hc
          go_enter Tryz.func66, Tryz.ntmps66
          go_wp2
          go_ret
          exact HE.out (some ⟨b, off, none⟩) 0 (.iface 159 (.agg #[.int .i64 p, .int .i64 vk, .int .i64 vn, .string vs])) _ (by omega) rfl (by rw [HK.out]; simp [k1, k3])
        · go_enter Tryz.func66, Tryz.ntmps66
          go_wp2
          go_ret
          exact HE.out (some ⟨b, off + 6, none⟩) _ (.iface 159 (.agg #[.int .i64 p, .int .i64 vk, .int .i64 vn, .string vs])) _ rfl (by rw [if_neg hc]) (by rw [HK.out]; simp [k1, k3])
end Go.Proofs.YtjamkfkbajhefaaGreatDoor.F
/- Runes of bytes; small letters; which runes are a name: plain, of no program. -/
namespace Go.Proofs.YtjamkfkbajhefaaGreatDoor
open Go.Lib
set_option maxRecDepth 100000

def rnGo : Nat → List UInt8 → List Nat
  | 0, _ => []
  | n + 1, l => if l = [] then [] else (decodeL l).1 :: rnGo n (l.drop (decodeL l).2)
/-- The runes of bytes, as a range hands them over. -/
def rns (l : List UInt8) : List Nat := rnGo l.length l
theorem rnGo_nil : ∀ n, rnGo n [] = []
  | 0 => rfl
  | _ + 1 => by simp [rnGo]
theorem rnGo_fuel : ∀ (n m : Nat) (l : List UInt8), l.length ≤ n → l.length ≤ m → rnGo n l = rnGo m l
  | 0, m, l, hn, _ => by
    have : l = [] := List.eq_nil_of_length_eq_zero (by omega)
    subst this
    rw [rnGo_nil, rnGo_nil]
  | n + 1, 0, l, _, hm => by
    have : l = [] := List.eq_nil_of_length_eq_zero (by omega)
    subst this
    rw [rnGo_nil, rnGo_nil]
  | n + 1, m + 1, l, hn, hm => by
    unfold rnGo
    by_cases hne : l = []
    · simp [hne]
    · have hw := decodeL_width l
      have hl : 0 < l.length := List.length_pos_iff.2 hne
      rw [if_neg hne, if_neg hne, rnGo_fuel n m (l.drop (decodeL l).2) (by rw [List.length_drop]; omega) (by rw [List.length_drop]; omega)]
theorem rns_step (l : List UInt8) (hne : l ≠ []) : rns l = (decodeL l).1 :: rns (l.drop (decodeL l).2) := by
  have hl : 0 < l.length := List.length_pos_iff.2 hne
  have hw := decodeL_width l
  obtain ⟨n, hn⟩ : ∃ n, l.length = n + 1 := ⟨l.length - 1, by omega⟩
  unfold rns
  rw [hn]
  show (if l = [] then [] else _) = _
  rw [if_neg hne, rnGo_fuel n (l.drop (decodeL l).2).length _ (by rw [List.length_drop]; omega) (Nat.le_refl _)]
/-- From a place of a text on. -/
theorem rns_at (s : ByteArray) (pos : Nat) (h : pos < s.size) : rns (s.data.toList.drop pos) = (Utf8.decode s pos).1 :: rns (s.data.toList.drop (pos + (Utf8.decode s pos).2)) := by
  have hne : s.data.toList.drop pos ≠ [] := by
    intro e
    have := congrArg List.length e
    rw [List.length_drop] at this
    have e2 : s.data.toList.length = s.size := Array.length_toList
    simp at this
    omega
  rw [rns_step _ hne, decodeL_drop, List.drop_drop]
theorem rns_end (s : ByteArray) (pos : Nat) (h : ¬ pos < s.size) : rns (s.data.toList.drop pos) = [] := by
  have e2 : s.data.toList.length = s.size := Array.length_toList
  rw [List.drop_of_length_le (by omega)]
  rfl
theorem rns_len_le : ∀ (n : Nat) (l : List UInt8), (rnGo n l).length ≤ n
  | 0, _ => by simp [rnGo]
  | n + 1, l => by
    unfold rnGo
    split
    · simp
    · have := rns_len_le n (l.drop (decodeL l).2)
      simp; omega
/-- A rune that UTF-8 has. -/
def scal (c : Nat) : Prop := c < 55296 ∨ (57344 ≤ c ∧ c ≤ 1114111)
theorem decodeN_scal (n b0 b1 b2 b3 : Nat) (h0 : b0 < 256) : scal (decodeN n b0 b1 b2 b3).1 := by
  unfold decodeN scal
  repeat' split
  all_goals (simp only; omega)
theorem decodeL_scal (l : List UInt8) : scal (decodeL l).1 := by rw [decodeL_N]; exact decodeN_scal _ _ _ _ _ (UInt8.toNat_lt _)
theorem rnGo_scal : ∀ (n : Nat) (l : List UInt8), ∀ c ∈ rnGo n l, scal c
  | 0, _ => by simp [rnGo]
  | n + 1, l => by
    unfold rnGo
    split
    · simp
    · intro c hc
      rcases List.mem_cons.1 hc with rfl | hc
      · exact decodeL_scal l
      · exact rnGo_scal n _ c hc
theorem rns_scal (l : List UInt8) : ∀ c ∈ rns l, scal c := rnGo_scal _ l

/-- The bytes of a rune. -/
def enc (c : Nat) : List UInt8 := (Utf8.encode c).data.toList
theorem enc1 {c : Nat} (h : c < 128) : enc c = [UInt8.ofNat c] := by
  have hv : Utf8.valid (c : Int) = true := by simp [Utf8.valid]; omega
  simp [enc, Utf8.encode, hv, h]
theorem enc2 {c : Nat} (h : 128 ≤ c) (h2 : c < 2048) : enc c = [UInt8.ofNat (192 + c / 64), UInt8.ofNat (128 + c % 64)] := by
  have hv : Utf8.valid (c : Int) = true := by simp [Utf8.valid]; omega
  have a : ¬ c < 128 := by omega
  simp [enc, Utf8.encode, hv, a, h2]
theorem enc3 {c : Nat} (h : 2048 ≤ c) (h2 : c < 65536) (hs : scal c) : enc c = [UInt8.ofNat (224 + c / 4096), UInt8.ofNat (128 + c / 64 % 64), UInt8.ofNat (128 + c % 64)] := by
  unfold scal at hs
  have hv : Utf8.valid (c : Int) = true := by simp [Utf8.valid]; omega
  have a : ¬ c < 128 := by omega
  have b : ¬ c < 2048 := by omega
  simp [enc, Utf8.encode, hv, a, b, h2]
theorem enc4 {c : Nat} (h : 65536 ≤ c) (hs : scal c) : enc c = [UInt8.ofNat (240 + c / 262144), UInt8.ofNat (128 + c / 4096 % 64), UInt8.ofNat (128 + c / 64 % 64), UInt8.ofNat (128 + c % 64)] := by
  unfold scal at hs
  have hv : Utf8.valid (c : Int) = true := by simp [Utf8.valid]; omega
  have a : ¬ c < 128 := by omega
  have b : ¬ c < 2048 := by omega
  have d : ¬ c < 65536 := by omega
  simp [enc, Utf8.encode, hv, a, b, d]
theorem toNat_of {n : Nat} (h : n < 256) : (UInt8.ofNat n).toNat = n := by simp; omega

set_option maxHeartbeats 1000000 in
/-- What is encoded is decoded, whatever stands behind it. -/
theorem dec_enc (c : Nat) (t : List UInt8) (hs : scal c) : decodeL (enc c ++ t) = (c, (enc c).length) := by
  rw [decodeL_N]
  by_cases h1 : c < 128
  · rw [enc1 h1]
    simp only [List.cons_append, List.nil_append, List.getD_cons_zero, List.length_cons, List.length_nil, toNat_of (show c < 256 by omega)]
    unfold decodeN
    rw [if_pos h1]
  by_cases h2 : c < 2048
  · rw [enc2 (by omega) h2]
    simp only [List.cons_append, List.nil_append, List.getD_cons_zero, List.getD_cons_succ, List.length_cons, List.length_nil, toNat_of (show 192 + c / 64 < 256 by omega), toNat_of (show 128 + c % 64 < 256 by omega)]
    unfold decodeN
    rw [if_neg (by omega), if_pos (by omega), if_pos (by omega)]
    apply Prod.ext <;> simp only <;> omega
  by_cases h3 : c < 65536
  · rw [enc3 (by omega) h3 hs]
    simp only [List.cons_append, List.nil_append, List.getD_cons_zero, List.getD_cons_succ, List.length_cons, List.length_nil, toNat_of (show 224 + c / 4096 < 256 by omega), toNat_of (show 128 + c / 64 % 64 < 256 by omega), toNat_of (show 128 + c % 64 < 256 by omega)]
    unfold scal at hs
    unfold decodeN
    rw [if_neg (by omega), if_neg (by omega), if_pos (by omega), if_pos (by omega)]
    apply Prod.ext <;> simp only <;> omega
  · rw [enc4 (by omega) hs]
    unfold scal at hs
    simp only [List.cons_append, List.nil_append, List.getD_cons_zero, List.getD_cons_succ, List.length_cons, List.length_nil, toNat_of (show 240 + c / 262144 < 256 by omega), toNat_of (show 128 + c / 4096 % 64 < 256 by omega), toNat_of (show 128 + c / 64 % 64 < 256 by omega), toNat_of (show 128 + c % 64 < 256 by omega)]
    unfold decodeN
    rw [if_neg (by omega), if_neg (by omega), if_neg (by omega), if_pos (by omega), if_pos (by omega)]
    apply Prod.ext <;> simp only <;> omega
theorem enc_len (c : Nat) : 1 ≤ (enc c).length := by
  unfold enc Utf8.encode
  simp only
  repeat' split
  all_goals simp
theorem enc_len4 (c : Nat) : (enc c).length ≤ 4 := by
  unfold enc Utf8.encode
  simp only
  repeat' split
  all_goals simp
theorem enc_err (c : Nat) (h : c = 65533) : (enc c).length = 3 := by subst h; decide +kernel

theorem rns_enc : ∀ cs : List Nat, (∀ c ∈ cs, scal c) → rns (cs.flatMap enc) = cs ∧ validD (cs.flatMap enc) = true
  | [], _ => ⟨rfl, rfl⟩
  | c :: cs, h => by
    obtain ⟨i1, i2⟩ := rns_enc cs (fun x hx => h x (List.mem_cons_of_mem _ hx))
    have hl := enc_len c
    have hne : enc c ++ cs.flatMap enc ≠ [] := by
      intro e
      have := congrArg List.length e
      simp at this
      rw [this.1] at hl
      simp at hl
    have hd := dec_enc c (cs.flatMap enc) (h c (by simp))
    rw [List.flatMap_cons]
    constructor
    · rw [rns_step _ hne, hd]
      simp [i1]
    · rw [validD_step _ hne, hd, if_neg]
      · simp [i2]
      · rintro ⟨e1, e2⟩
        have := enc_err c e1
        simp at e2
        omega
/-! ### letters -/
def letterN (c : Nat) : Bool := decide ((65 ≤ c ∧ c ≤ 90) ∨ (97 ≤ c ∧ c ≤ 122) ∨ (192 ≤ c ∧ c ≤ 591 ∧ c ≠ 215 ∧ c ≠ 247) ∨ (913 ≤ c ∧ c ≤ 937 ∧ c ≠ 930) ∨ (945 ≤ c ∧ c ≤ 969) ∨ (1040 ≤ c ∧ c ≤ 1103) ∨ (19968 ≤ c ∧ c ≤ 40959))
def bigN (c : Nat) : Bool := decide ((65 ≤ c ∧ c ≤ 90) ∨ (192 ≤ c ∧ c ≤ 222 ∧ c ≠ 215) ∨ (913 ≤ c ∧ c ≤ 937 ∧ c ≠ 930) ∨ (1040 ≤ c ∧ c ≤ 1071))
def smallN (c : Nat) : Nat := if bigN c then c + 32 else c
theorem smallN_scal {c : Nat} (h : scal c) : scal (smallN c) := by
  unfold smallN
  split
  · rename_i hb
    simp only [bigN, decide_eq_true_eq] at hb
    unfold scal
    omega
  · exact h
def beginsN (c : Nat) : Bool := c == 95 || letterN c
/-- What Check answers, from some parts and runes on. -/
def chk : Nat → Nat → Bool → List Nat → Int
  | p, r, f, [] => if f then 3 else if 5 < p ∨ 40 < r then 2 else 0
  | p, r, f, c :: cs => if beginsN c then chk p (r + 1) false cs else if f then 3 else if c = 46 then chk (p + 1) (r + 1) true cs else if c ≠ 45 ∧ ¬ (48 ≤ c ∧ c ≤ 57) then 3 else chk p (r + 1) f cs
def checkL (l : List UInt8) : Int := chk 1 0 true (rns l)
/-- What Fold answers. -/
def foldL (l : List UInt8) : List UInt8 := if validD l = true then ((rns l).map smallN).flatMap enc else l
end Go.Proofs.YtjamkfkbajhefaaGreatDoor
/- name.within, Letter, Small, begins, Hash: walks. -/
namespace Go.Proofs.YtjamkfkbajhefaaGreatDoor
open Go.RowKit

def inR (c lo hi : Int) : Bool := decide (lo ≤ c ∧ c ≤ hi)
theorem within_any (c lo hi : Int) (w : World) :
    Calls Tryz.prog 62 #[.int .i32 c, .int .i32 lo, .int .i32 hi] w fun e w' => e = .returned (.bool (inR c lo hi)) ∧ w' = w := by
  go_enter Tryz.func62, Tryz.ntmps62
  by_cases h1 : lo ≤ c
  · have hd : decide (lo ≤ c) = true := by simpa using h1
    go_wp2
    go_ret
    refine ⟨?_, rfl⟩
    simp [inR, h1]
  · have hd : decide (lo ≤ c) = false := by simpa using h1
    go_wp2
    go_ret
    refine ⟨?_, rfl⟩
    have : inR c lo hi = false := by simp only [inR, decide_eq_false_iff_not]; omega
    rw [this]
    rfl

def letterZ (c : Int) : Bool := decide ((65 ≤ c ∧ c ≤ 90) ∨ (97 ≤ c ∧ c ≤ 122) ∨ (192 ≤ c ∧ c ≤ 591 ∧ c ≠ 215 ∧ c ≠ 247) ∨ (913 ≤ c ∧ c ≤ 937 ∧ c ≠ 930) ∨ (945 ≤ c ∧ c ≤ 969) ∨ (1040 ≤ c ∧ c ≤ 1103) ∨ (19968 ≤ c ∧ c ≤ 40959))
def bigZ (c : Int) : Bool := decide ((65 ≤ c ∧ c ≤ 90) ∨ (192 ≤ c ∧ c ≤ 222 ∧ c ≠ 215) ∨ (913 ≤ c ∧ c ≤ 937 ∧ c ≠ 930) ∨ (1040 ≤ c ∧ c ≤ 1071))
def smallZ (c : Int) : Int := if bigZ c then c + 32 else c

set_option maxHeartbeats 1000000 in
theorem letter_any (c : Int) (w : World) :
    Calls Tryz.prog 92 #[.int .i32 c] w fun e w' => e = .returned (.bool (letterZ c)) ∧ w' = w := by
  go_enter Tryz.func92, Tryz.ntmps92
  go_wp2_with (go_at_call 62; refine (within_any _ _ _ _).mono ?_; rintro e w' ⟨rfl, rfl⟩)
  all_goals go_ret
  all_goals refine ⟨?_, rfl⟩
  all_goals refine congrArg (fun b => Ending.returned (Value.bool b)) ?_
  all_goals (rw [Bool.eq_iff_iff]; try simp only [inR, decide_eq_true_eq, decide_eq_false_iff_not, beq_iff_eq, beq_eq_false_iff_ne, ne_eq] at *)
  all_goals (simp only [letterZ, Bool.false_eq_true, decide_eq_true_eq, true_iff, false_iff]; omega)

set_option maxHeartbeats 1000000 in
theorem small_any (c : Int) (w : World) (h1 : -2147483648 ≤ c) (h2 : c ≤ 2147483647) :
    Calls Tryz.prog 78 #[.int .i32 c] w fun e w' => e = .returned (.int .i32 (smallZ c)) ∧ w' = w := by
  by_cases hb : bigZ c = true
  · have hs : smallZ c = c + 32 := if_pos hb
    have hc1 : (65 : Int) ≤ c := by simp only [bigZ, decide_eq_true_eq] at hb; omega
    have hc2 : c ≤ (1071 : Int) := by simp only [bigZ, decide_eq_true_eq] at hb; omega
    have HB : Hid (bigZ c = true) := hb
    clear hb
    rw [hs]
    go_enter Tryz.func78, Tryz.ntmps78
    go_wp2_with (go_at_call 62; refine (within_any _ _ _ _).mono ?_; rintro e w' ⟨rfl, rfl⟩)
    all_goals go_ret
    all_goals refine ⟨?_, rfl⟩
    all_goals first
      | rfl
      | (exfalso; have hb := HB.out; simp only [bigZ, inR, decide_eq_true_eq, decide_eq_false_iff_not, beq_iff_eq, beq_eq_false_iff_ne, ne_eq] at *; omega)
  · have hs : smallZ c = c := if_neg hb
    have HB : Hid (¬ bigZ c = true) := hb
    clear hb
    rw [hs]
    go_enter Tryz.func78, Tryz.ntmps78
    go_wp2_with (go_at_call 62; refine (within_any _ _ _ _).mono ?_; rintro e w' ⟨rfl, rfl⟩)
    all_goals go_ret
    all_goals refine ⟨?_, rfl⟩
    all_goals first
      | rfl
      | (exfalso; have hb := HB.out; simp only [bigZ, inR, decide_eq_true_eq, decide_eq_false_iff_not, beq_eq_false_iff_ne, ne_eq] at *; omega)

def beginsZ (c : Int) : Bool := c == 95 || letterZ c
theorem begins_any (c : Int) (w : World) :
    Calls Tryz.prog 61 #[.int .i32 c] w fun e w' => e = .returned (.bool (beginsZ c)) ∧ w' = w := by
  by_cases h : c = 95
  · subst h
    go_enter Tryz.func61, Tryz.ntmps61
    go_wp2_with (go_at_call 92; refine (letter_any _ _).mono ?_; rintro e w' ⟨rfl, rfl⟩)
    go_ret
    exact ⟨rfl, rfl⟩
  · have hd : (c == 95) = false := by simpa using h
    go_enter Tryz.func61, Tryz.ntmps61
    go_wp2_with (go_at_call 92; refine (letter_any _ _).mono ?_; rintro e w' ⟨rfl, rfl⟩)
    go_ret
    refine ⟨?_, rfl⟩
    simp [beginsZ, hd]

theorem letterZ_nat (c : Nat) : letterZ (c : Int) = letterN c := by
  rw [Bool.eq_iff_iff]; simp only [letterZ, letterN, decide_eq_true_eq]; omega
theorem bigZ_nat (c : Nat) : bigZ (c : Int) = bigN c := by
  rw [Bool.eq_iff_iff]; simp only [bigZ, bigN, decide_eq_true_eq]; omega
theorem smallZ_nat (c : Nat) : smallZ (c : Int) = (smallN c : Nat) := by
  unfold smallZ smallN
  rw [bigZ_nat]
  split <;> simp
theorem beginsZ_nat (c : Nat) : beginsZ (c : Int) = beginsN c := by
  unfold beginsZ beginsN
  rw [letterZ_nat]
  congr 1
  rw [Bool.eq_iff_iff]; simp only [beq_iff_eq]; omega
end Go.Proofs.YtjamkfkbajhefaaGreatDoor
/- name.Check and name.Hash: walks, at every text. -/
namespace Go.Proofs.YtjamkfkbajhefaaGreatDoor
open Go.RowKit

/-- What holds of Check's loop at every round. -/
def CkRel (s : ByteArray) (w : World) (p r f : Value) (wr : World) : Prop :=
  ∃ (pos P R : Nat) (F : Bool), p = .int .i64 P ∧ r = .int .i64 R ∧ f = .bool F ∧ wr.heap[w.heap.size]? = some (.stringIter s pos) ∧ Below w.heap.size w wr ∧ chk P R F (rns (s.data.toList.drop pos)) = checkL s.data.toList ∧ P ≤ pos + 1 ∧ R ≤ pos

set_option maxRecDepth 100000 in
set_option maxHeartbeats 2000000 in
theorem check_any (s : ByteArray) (w : World) (hs : s.size ≤ 140737488355328) :
    Calls Tryz.prog 33 #[.string s] w fun e w' => e = .returned (.int .i64 (checkL s.data.toList)) ∧ Below w.heap.size w w' := by
  go_enter Tryz.func33, Tryz.ntmps33
  go_wp2
  go_loopw [3, 4, 5] (fun p r f wr => CkRel s w p r f wr) (fun _ _ _ wr => s.size - wr.iterPos w.heap.size)
  case atStart =>
    refine ⟨0, 1, 0, true, rfl, rfl, rfl, ?_, (Below.refl _ _).alloc (Nat.le_refl _) _, rfl, by omega, by omega⟩
    have := World.iter_heap w s 0
    simpa using this
  case round =>
    obtain ⟨pos, P, R, F, rfl, rfl, rfl, hit, hbw, hck, hP, hR⟩ := hrel
    have HC : Hid (chk P R F (rns (s.data.toList.drop pos)) = checkL s.data.toList) := hck
    clear hck
    have hsz : w.heap.size < wr.heap.size := (Array.getElem?_eq_some_iff.1 hit).1
    by_cases hp : pos < s.size
    · have hnx : ∀ ty, (Instr.next (.pointer (some ⟨w.heap.size, 0, none⟩)) true ty).run Tryz.prog wr = _ := fun ty => Lib.run_next_any_at wr w.heap.size s pos ty hit hp
      have hwd := Lib.decode_width_pos s pos hp
      have hit2 := Lib.iterAt_heap wr w.heap.size s pos (pos + (Utf8.decode s pos).2) hit
      have hbw2 := Lib.below_iterAt hbw (k := w.heap.size) (Nat.le_refl _) s (pos + (Utf8.decode s pos).2)
      have hrn : Hid (rns (s.data.toList.drop pos) = (Utf8.decode s pos).1 :: rns (s.data.toList.drop (pos + (Utf8.decode s pos).2))) := rns_at s pos hp
      have hmeas : Hid (s.size - (pos + (Utf8.decode s pos).2) < s.size - wr.iterPos w.heap.size) := by
        show _ < _
        rw [iterPos_of hit]; omega
      generalize (Utf8.decode s pos).1 = c at *
      generalize (Utf8.decode s pos).2 = d at *
      generalize hW : wr.iterAt w.heap.size s (pos + d) = W at *
      have hmW : Hid (W.iterPos w.heap.size = pos + d) := iterPos_of hit2
      have HC2 : Hid (chk P R F (c :: rns (s.data.toList.drop (pos + d))) = checkL s.data.toList) := by show _ = _; rw [← hrn.out]; exact HC.out
      have hbz := beginsZ_nat c
      by_cases hb : beginsN c = true
      · rw [hb] at hbz
        have HC3 : Hid (chk P (R + 1) false (rns (s.data.toList.drop (pos + d))) = checkL s.data.toList) := by
          show _ = _; rw [← HC2.out]; simp [chk, hb]
        clear HC HC2 hrn hb
        go_wp2_with (go_at_call 61; refine (begins_any _ _).mono ?_; rintro e w' ⟨rfl, rfl⟩)
        go_roundw
        case rel => exact ⟨pos + d, P, R + 1, false, rfl, by go_num, rfl, hit2, hbw2, HC3.out, by omega, by omega⟩
        case measure => rw [hmW.out]; exact hmeas.out
      · have hb' : beginsN c = false := by simpa using hb
        rw [hb'] at hbz
        cases F
        · by_cases h46 : c = 46
          · have h46' : ((c : Int) == 46) = true := by rw [beq_iff_eq]; omega
            have HC3 : Hid (chk (P + 1) (R + 1) true (rns (s.data.toList.drop (pos + d))) = checkL s.data.toList) := by
              show _ = _; rw [← HC2.out]; simp [chk, h46, show beginsN 46 = false by decide]
            clear HC HC2 hrn hb hb' h46
            go_wp2_with (go_at_call 61; refine (begins_any _ _).mono ?_; rintro e w' ⟨rfl, rfl⟩)
            go_roundw
            case rel => exact ⟨pos + d, P + 1, R + 1, true, by go_num, by go_num, rfl, hit2, hbw2, HC3.out, by omega, by omega⟩
            case measure => rw [hmW.out]; exact hmeas.out
          · have h46' : ((c : Int) == 46) = false := by rw [beq_eq_false_iff_ne]; omega
            by_cases h45 : c = 45
            · have h45' : ((c : Int) != 45) = false := by rw [bne_eq_false_iff_eq]; omega
              have HC3 : Hid (chk P (R + 1) false (rns (s.data.toList.drop (pos + d))) = checkL s.data.toList) := by
                show _ = _; rw [← HC2.out]; simp [chk, h45, show beginsN 45 = false by decide]
              clear HC HC2 hrn hb hb' h46 h45
              go_wp2_with (first | (go_at_call 61; refine (begins_any _ _).mono ?_; rintro e w' ⟨rfl, rfl⟩) | (go_at_call 62; refine (within_any _ _ _ _).mono ?_; rintro e w' ⟨rfl, rfl⟩))
              go_roundw
              case rel => exact ⟨pos + d, P, R + 1, false, rfl, by go_num, rfl, hit2, hbw2, HC3.out, by omega, by omega⟩
              case measure => rw [hmW.out]; exact hmeas.out
            · have h45' : ((c : Int) != 45) = true := by rw [bne_iff_ne]; omega
              by_cases hdg : 48 ≤ c ∧ c ≤ 57
              · have hin : inR (c : Int) 48 57 = true := by simp only [inR, decide_eq_true_eq]; omega
                have HC3 : Hid (chk P (R + 1) false (rns (s.data.toList.drop (pos + d))) = checkL s.data.toList) := by
                  show _ = _; rw [← HC2.out]; simp [chk, hb', h46, hdg]
                clear HC HC2 hrn hb hb' h46 h45 hdg
                go_wp2_with (first | (go_at_call 61; refine (begins_any _ _).mono ?_; rintro e w' ⟨rfl, rfl⟩) | (go_at_call 62; refine (within_any _ _ _ _).mono ?_; rintro e w' ⟨rfl, rfl⟩))
                go_roundw
                case rel => exact ⟨pos + d, P, R + 1, false, rfl, by go_num, rfl, hit2, hbw2, HC3.out, by omega, by omega⟩
                case measure => rw [hmW.out]; exact hmeas.out
              · have hin : inR (c : Int) 48 57 = false := by simp only [inR, decide_eq_false_iff_not]; omega
                have HC3 : Hid (3 = checkL s.data.toList) := by
                  show _ = _; rw [← HC2.out]; simp [chk, hb', h46, h45, hdg]
                clear HC HC2 hrn hb hb' h46 h45 hdg
                go_wp2_with (first | (go_at_call 61; refine (begins_any _ _).mono ?_; rintro e w' ⟨rfl, rfl⟩) | (go_at_call 62; refine (within_any _ _ _ _).mono ?_; rintro e w' ⟨rfl, rfl⟩))
                go_ret
                exact ⟨by rw [← HC3.out]; rfl, hbw2⟩
        · have HC3 : Hid (3 = checkL s.data.toList) := by
            show _ = _; rw [← HC2.out]; simp [chk, hb']
          clear HC HC2 hrn hb hb'
          go_wp2_with (go_at_call 61; refine (begins_any _ _).mono ?_; rintro e w' ⟨rfl, rfl⟩)
          go_ret
          exact ⟨by rw [← HC3.out]; rfl, hbw2⟩
    · have hnx : ∀ ty, (Instr.next (.pointer (some ⟨w.heap.size, 0, none⟩)) true ty).run Tryz.prog wr = _ := fun ty => Lib.run_next_end_at wr w.heap.size s pos ty hit hp
      have HC2 : Hid (chk P R F [] = checkL s.data.toList) := by show _ = _; rw [← HC.out, rns_end s pos hp]
      clear HC
      cases F
      · by_cases h5 : 5 < P
        · have h5' : (5 : Int) < P := by omega
          have HC3 : Hid (2 = checkL s.data.toList) := by show _ = _; rw [← HC2.out]; simp [chk, h5]
          clear HC2
          go_wp2
          go_ret
          exact ⟨by rw [← HC3.out]; rfl, hbw⟩
        · have h5' : decide ((5 : Int) < P) = false := by simp; omega
          by_cases h40 : 40 < R
          · have h40' : decide ((40 : Int) < R) = true := by simp; omega
            have HC3 : Hid (2 = checkL s.data.toList) := by show _ = _; rw [← HC2.out]; simp [chk, h40]
            clear HC2
            go_wp2
            go_ret
            exact ⟨by rw [← HC3.out]; rfl, hbw⟩
          · have h40' : decide ((40 : Int) < R) = false := by simp; omega
            have HC3 : Hid (0 = checkL s.data.toList) := by show _ = _; rw [← HC2.out]; simp [chk, h40, h5]
            clear HC2
            go_wp2
            go_ret
            exact ⟨by rw [← HC3.out]; rfl, hbw⟩
      · have HC3 : Hid (3 = checkL s.data.toList) := by show _ = _; rw [← HC2.out]; simp [chk]
        clear HC2
        go_wp2
        go_ret
        exact ⟨by rw [← HC3.out]; rfl, hbw⟩

end Go.Proofs.YtjamkfkbajhefaaGreatDoor
