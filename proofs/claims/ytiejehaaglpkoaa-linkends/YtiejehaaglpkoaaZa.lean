/- Small laws of our own, over whatever program: an append of one element onto a row that the call owns; a row that is owned, read as cells. -/
import Derived.Test.YtiejehaaglpkoaaRows
import Derived.WalkKit
import Derived.WalkSpells
import Derived.WalkLawsBesides
import Derived.Deep.RegionWith
import Derived.RegionTactic
import Derived.Deep.QuietTactic
import Derived.BigQuiet
import Derived.Deep.RegionHeld3
import Derived.Deep.AppendLies
namespace Go.Proofs.Ytiejehaaglpkoaa
open Go.RowKit

theorem ret_int {k : IntKind} {a b : Int} (h : a = b) : Ending.returned (.int k a) = .returned (.int k b) := by rw [h]
theorem ret_str {xs ys : List Int} (h : xs = ys) : Ending.returned (.string (strOfNums xs)) = .returned (.string (strOfNums ys)) := by rw [h]

theorem wpl_app {P : Program} (wr : World) {ops : Array Oper} {rest : List Oper} {o : Oper} {a : Act} {Q : Exit → Act → World → Prop} (hgd : o.guard = none) (s x : Operand) (t e : TypeId)
    (ho : o.op = .call { callee := .builtin .append, args := #[s, x], argTypes := #[t, t] })
    (i : TypeInfo) (z : Value) (bytes : Nat) (ht : P.underlying t = some (.slice e)) (hi : P.info? e = some i) (hz : i.zero = some z)
    (hsize : i.size = 1) (hby : i.bytes = bytes) (hzs : z.cells.size = 1)
    (base : Nat) (v : Value) (n : Nat) (xs : List Value) (hs : a.eval s = v) (hown : wr.ownsRow base e 1 v n xs)
    (el : Value) (hx : a.eval x = .slice (some ⟨wr.heap.size, 0, none⟩) 1 1) (h1 : el.oneCell' = true)
    (hbytes : (n + 1) * bytes ≤ 140737488355328) (h63 : n + 1 ≤ maxLen) (hbase : base ≤ wr.heap.size)
    (h : ∀ v' w', w'.ownsRow base e 1 v' (n + 1) (xs ++ [el]) → Below base wr w' → v' ≠ .slice none 0 0 → wpList P ops Q rest (a.put o.dst v') w') :
    wpList P ops Q (o :: rest) a (wr.alloc (.cells #[el] e)) := by
  refine wpList_append_own _ hgd s x t ho base e i z 1 bytes ht hi hz hsize hby hzs (by omega) v n xs hs (hown.alloc _) ⟨wr.heap.size, 0, none⟩ 1 1 [el] hx rfl ?_ ?_ h63 hbytes ?_ ?_
  · intro j u hj
    match j, hj with
    | 0, hj => simp at hj; subst hj; simp [Addr.add]
  · intro u hu; simp at hu; subst hu; exact h1
  · simp; omega
  · intro v' w' h2 h3 h4
    refine h v' w' h2 ?_ (fun e => by have := (h4.1 e).2; omega)
    exact ((Below.refl _ _).alloc hbase _).grown h3 (by simp; omega) (fun k hk => (hown.lt k hk).1)

/-- An owned row of bytes that is not empty, laid open. -/
theorem own_open {w : World} {base : Nat} {e : TypeId} {v : Value} {n : Nat} {xs : List Value} (h : w.ownsRow base e 1 v n xs) (hn : 0 < n) :
    ∃ g cap, v = .slice (some ⟨g, 0, none⟩) n cap ∧ base ≤ g ∧ n ≤ cap ∧ cap ≤ maxLen ∧ xs.length = n ∧ (∀ j u, xs[j]? = some u → w.cell? ⟨g, j, none⟩ = some u) ∧ (∀ j, w.frozen? ⟨g, j, none⟩ = false) := by
  obtain ⟨h1, h2⟩ := h
  rcases h2 with ⟨_, h0⟩ | ⟨g, cap, cur, rfl, hb, hg, hc, hm, hs, ht⟩
  · omega
  · refine ⟨g, cap, rfl, hb, hc, hm, by omega, ?_, ?_⟩
    · intro j u hu
      rw [cell_of_row w g j cur e (0, 0) hg]
      rw [← ht, List.getElem?_take] at hu
      split at hu
      · simpa using hu
      · cases hu
    · intro j
      simp [World.frozen?, hg]

end Go.Proofs.Ytiejehaaglpkoaa
/- Small laws of our own, over whatever program, more of them. -/
namespace Go.Proofs.Ytiejehaaglpkoaa
open Go.RowKit
theorem bcell {B : Nat} {W w1 : World} (hb : Below B W w1) : (∀ b o, b < B → w1.cell? ⟨b, o, none⟩ = W.cell? ⟨b, o, none⟩) ∧ (∀ b o, b < B → w1.frozen? ⟨b, o, none⟩ = W.frozen? ⟨b, o, none⟩) :=
  ⟨fun b o h => hb.cell (p := ⟨b, o, none⟩) h, fun b o h => hb.frozen (p := ⟨b, o, none⟩) h⟩

/-- A block that was laid before a call that keeps what was there: it holds what it held. -/
theorem part_cells {w w1 : World} {C : Array Value} {t : TypeId} (hb : Below (w.alloc (.cells C t)).drew.heap.size (w.alloc (.cells C t)).drew w1) :
    (∀ j, w1.cell? ⟨w.heap.size, j, none⟩ = C[j]?) ∧ (∀ j, w1.frozen? ⟨w.heap.size, j, none⟩ = false) ∧ Below w.heap.size w w1 ∧ w.heap.size < w1.heap.size := by
  have hs := hb.size
  simp at hs
  refine ⟨fun j => ?_, fun j => ?_, ?_, by omega⟩
  · rw [hb.cell (p := ⟨w.heap.size, j, none⟩) (by simp)]
    simp
  · rw [hb.frozen (p := ⟨w.heap.size, j, none⟩) (by simp)]
    simp
  · exact ((Below.refl _ _).alloc (Nat.le_refl _) _).drew.trans (hb.mono (by simp))

theorem part_cells0 {w w1 : World} {C : Array Value} {t : TypeId} (hb : Below (w.alloc (.cells C t)).heap.size (w.alloc (.cells C t)) w1) :
    (∀ j, w1.cell? ⟨w.heap.size, j, none⟩ = C[j]?) ∧ (∀ j, w1.frozen? ⟨w.heap.size, j, none⟩ = false) ∧ Below w.heap.size w w1 ∧ w.heap.size < w1.heap.size := by
  have hs := hb.size
  simp at hs
  refine ⟨fun j => ?_, fun j => ?_, ?_, by omega⟩
  · rw [hb.cell (p := ⟨w.heap.size, j, none⟩) (by simp)]
    simp
  · rw [hb.frozen (p := ⟨w.heap.size, j, none⟩) (by simp)]
    simp
  · exact ((Below.refl _ _).alloc (Nat.le_refl _) _).trans (hb.mono (by simp))

end Go.Proofs.Ytiejehaaglpkoaa
/- Rows that are read: a slice, its elements cell by cell, wherever it lies. -/
namespace Go.Proofs.Ytiejehaaglpkoaa
open Go.RowKit

/-- The slice v has n elements of 'sz' cells each, and they hold xs. -/
def IsRow (w : World) (sz : Nat) (v : Value) (n : Nat) (xs : List Value) : Prop :=
  xs.length = n * sz ∧ ((n = 0 ∧ ∃ a cap, v = .slice a 0 cap) ∨
    ∃ b off cap, v = .slice (some ⟨b, off, none⟩) n cap ∧ b < w.heap.size ∧ n ≤ cap ∧ cap ≤ maxLen ∧ ∀ j u, xs[j]? = some u → w.cell? ⟨b, off + j, none⟩ = some u)

theorem IsRow.below {w w' : World} {sz : Nat} {v : Value} {n : Nat} {xs : List Value} (h : IsRow w sz v n xs) (hb : Below w.heap.size w w') : IsRow w' sz v n xs := by
  refine ⟨h.1, ?_⟩
  rcases h.2 with h | ⟨b, off, cap, rfl, hlt, hc, hm, hcell⟩
  · exact .inl h
  · exact .inr ⟨b, off, cap, rfl, Nat.lt_of_lt_of_le hlt hb.size, hc, hm, fun j u hu => (hb.cell (p := ⟨b, off + j, none⟩) hlt).trans (hcell j u hu)⟩

/-- What the call itself has made is such a row, too. -/
theorem IsRow.own {w : World} {base : Nat} {e : TypeId} {sz : Nat} {v : Value} {n : Nat} {xs : List Value} (h : w.ownsRow base e sz v n xs) : IsRow w sz v n xs := by
  obtain ⟨h1, h2⟩ := h
  refine ⟨h1, ?_⟩
  rcases h2 with ⟨hv, hn⟩ | ⟨g, cap, cur, rfl, hb, hg, hc, hm, hs, ht⟩
  · exact .inl ⟨hn, _, _, hv⟩
  · refine .inr ⟨g, 0, cap, rfl, (Array.getElem?_eq_some_iff.1 hg).1, hc, hm, fun j u hu => ?_⟩
    rw [Nat.zero_add, cell_of_row w g j cur e (0, 0) hg]
    rw [← ht, List.getElem?_take] at hu
    split at hu
    · simpa using hu
    · cases hu

theorem IsRow.nil (w : World) (sz : Nat) : IsRow w sz (.slice none 0 0) 0 [] := ⟨by simp, .inl ⟨rfl, _, _, rfl⟩⟩

/-- One that is not empty, laid open. -/
theorem IsRow.open {w : World} {sz : Nat} {v : Value} {n : Nat} {xs : List Value} (h : IsRow w sz v n xs) (hn : 0 < n) :
    ∃ b off cap, v = .slice (some ⟨b, off, none⟩) n cap ∧ b < w.heap.size ∧ n ≤ cap ∧ cap ≤ maxLen ∧ ∀ j u, xs[j]? = some u → w.cell? ⟨b, off + j, none⟩ = some u := by
  rcases h.2 with ⟨h0, _⟩ | h
  · omega
  · exact h
theorem IsRow.form {w : World} {sz : Nat} {v : Value} {n : Nat} {xs : List Value} (h : IsRow w sz v n xs) : ∃ a cap, v = .slice a n cap := by
  rcases h.2 with ⟨rfl, a, cap, rfl⟩ | ⟨b, off, cap, rfl, _⟩
  · exact ⟨a, cap, rfl⟩
  · exact ⟨_, _, rfl⟩

/-- An item: its kind, its number, its text. -/
structure It where
  k : Int
  n : Int
  s : ByteArray
def It.cells (x : It) : List Value := [.int .i64 x.k, .int .i64 x.n, .string x.s]
def itCells (l : List It) : List Value := l.flatMap It.cells
theorem itCells_len (l : List It) : (itCells l).length = l.length * 3 := by
  induction l with
  | nil => rfl
  | cons x l ih => simp only [itCells, List.flatMap_cons, List.length_append, List.length_cons] at ih ⊢; rw [ih]; simp [It.cells]; omega
theorem itCells_at (l : List It) (i : Nat) (h : i < l.length) : (itCells l)[3 * i]? = some (.int .i64 (l[i]'h).k) ∧ (itCells l)[3 * i + 1]? = some (.int .i64 (l[i]'h).n) ∧ (itCells l)[3 * i + 2]? = some (.string (l[i]'h).s) := by
  induction l generalizing i with
  | nil => simp at h
  | cons x l ih =>
    cases i with
    | zero => exact ⟨rfl, rfl, rfl⟩
    | succ i =>
      have h' : i < l.length := by simpa using h
      have := ih i h'
      have e : itCells (x :: l) = It.cells x ++ itCells l := by simp [itCells]
      have e0 : (It.cells x).length = 3 := rfl
      rw [e]
      refine ⟨?_, ?_, ?_⟩
      · rw [List.getElem?_append_right (by rw [e0]; omega), e0, show 3 * (i + 1) - 3 = 3 * i by omega]; exact this.1
      · rw [List.getElem?_append_right (by rw [e0]; omega), e0, show 3 * (i + 1) + 1 - 3 = 3 * i + 1 by omega]; exact this.2.1
      · rw [List.getElem?_append_right (by rw [e0]; omega), e0, show 3 * (i + 1) + 2 - 3 = 3 * i + 2 by omega]; exact this.2.2
theorem itCells_snoc (l : List It) (x : It) : itCells (l ++ [x]) = itCells l ++ It.cells x := by simp [itCells]
/-- A row of items, item i's cells, as the walk asks for them. -/
theorem items_at {w : World} {a : Option Addr} {cap : Nat} {l : List It} (h : IsRow w 3 (.slice a l.length cap) l.length (itCells l)) (i : Nat) (hi : i < l.length) :
    ∃ b off, a = some ⟨b, off, none⟩ ∧ b < w.heap.size ∧ w.cell? ⟨b, off + i * 3, none⟩ = some (.int .i64 (l[i]'hi).k) ∧ w.cell? ⟨b, off + i * 3 + 1, none⟩ = some (.int .i64 (l[i]'hi).n) ∧ w.cell? ⟨b, off + i * 3 + 2, none⟩ = some (.string (l[i]'hi).s) := by
  obtain ⟨b, off, cap', hv, hlt, _, _, hc⟩ := h.open (by omega)
  have := itCells_at l i hi
  simp only [Value.slice.injEq] at hv
  refine ⟨b, off, hv.1, hlt, ?_, ?_, ?_⟩
  · rw [show off + i * 3 = off + 3 * i by omega]; exact hc _ _ this.1
  · rw [show off + i * 3 + 1 = off + (3 * i + 1) by omega]; exact hc _ _ this.2.1
  · rw [show off + i * 3 + 2 = off + (3 * i + 2) by omega]; exact hc _ _ this.2.2
end Go.Proofs.Ytiejehaaglpkoaa
/- Packets, plainly; rows of packets that a net owns (they may be shorter than their block), and an append onto one; the net as it lies in memory. -/
namespace Go.Proofs.Ytiejehaaglpkoaa
open Go.RowKit

/-- A packet. -/
structure Pk where
  f : Int
  t : Int
  fl : Int
  tl : Int
  sq : Int
  ak : Int
  x : ByteArray
def enP (p : Pk) : List Value := [.int .i64 p.f, .int .i64 p.t, .int .i64 p.fl, .int .i64 p.tl, .int .i64 p.sq, .int .i64 p.ak, .string p.x]
abbrev pV (p : Pk) : Value := .agg #[.int .i64 p.f, .int .i64 p.t, .int .i64 p.fl, .int .i64 p.tl, .int .i64 p.sq, .int .i64 p.ak, .string p.x]
abbrev pA (p : Pk) : Array Value := #[.int .i64 p.f, .int .i64 p.t, .int .i64 p.fl, .int .i64 p.tl, .int .i64 p.sq, .int .i64 p.ak, .string p.x]
def zP : Pk := ⟨0, 0, 0, 0, 0, 0, ⟨#[]⟩⟩
def pCells (l : List Pk) : List Value := l.flatMap enP
theorem pCells_len (l : List Pk) : (pCells l).length = l.length * 7 := by
  induction l with
  | nil => rfl
  | cons d D ih => rw [pCells, List.flatMap_cons, List.length_append, List.length_cons]; rw [pCells] at ih; rw [ih]; show 7 + _ = _; omega
theorem pCells_get : ∀ (l : List Pk) (k : Nat) (h : k < l.length) (i : Nat), i < 7 → (pCells l)[k * 7 + i]? = (enP l[k])[i]?
  | [], k, h, _, _ => absurd h (by simp)
  | d :: D, 0, _, i, hi => by
    rw [pCells, List.flatMap_cons, Nat.zero_mul, Nat.zero_add, List.getElem?_append_left (by show i < 7; exact hi)]
    rfl
  | d :: D, k + 1, h, i, hi => by
    have z : (enP d).length = 7 := rfl
    rw [pCells, List.flatMap_cons, List.getElem?_append_right (by omega), show (k + 1) * 7 + i - (enP d).length = k * 7 + i by omega]
    have := pCells_get D k (by simpa using h) i hi
    rw [pCells] at this
    rw [this]
    rfl
theorem pCells_app (a b : List Pk) : pCells (a ++ b) = pCells a ++ pCells b := by simp [pCells]
theorem pCells_one (p : Pk) : pCells [p] = enP p := by simp [pCells]
theorem oneP_cell (p : Pk) : ∀ u ∈ enP p, u.oneCell' = true := by intro u hu; simp [enP] at hu; rcases hu with rfl | rfl | rfl | rfl | rfl | rfl | rfl <;> rfl
theorem oneC_cell (l : List Pk) : ∀ u ∈ pCells l, u.oneCell' = true := by
  intro u hu
  simp only [pCells, List.mem_flatMap] at hu
  obtain ⟨p, _, hp⟩ := hu
  exact oneP_cell p u hp

/-- A row of packets that is owned. -/
def OwnW (w : World) (base : Nat) (v : Value) (l : List Pk) : Prop :=
  (v = .slice none 0 0 ∧ l = []) ∨ ∃ g cap cur, v = .slice (some ⟨g, 0, none⟩) l.length cap ∧ base ≤ g ∧ w.heap[g]? = some (.cells cur 37 (0, 0)) ∧ l.length ≤ cap ∧ cap ≤ maxLen ∧ cap * 7 ≤ cur.size ∧ cur.toList.take (l.length * 7) = pCells l
theorem OwnW.keep {w w' : World} {base : Nat} {v : Value} {l : List Pk} (h : OwnW w base v l) (hk : ∀ k, v.ownBlock = some k → w'.heap[k]? = w.heap[k]?) : OwnW w' base v l := by
  rcases h with h | ⟨g, cap, cur, rfl, hb, hg, r⟩
  · exact .inl h
  · exact .inr ⟨g, cap, cur, rfl, hb, (hk g rfl).trans hg, r⟩
theorem OwnW.lt {w : World} {base : Nat} {v : Value} {l : List Pk} (h : OwnW w base v l) : ∀ k, v.ownBlock = some k → base ≤ k ∧ k < w.heap.size := by
  intro k hk
  rcases h with ⟨rfl, _⟩ | ⟨g, cap, cur, rfl, hb, hg, _⟩
  · simp [Value.ownBlock] at hk
  · simp [Value.ownBlock] at hk
    subst hk
    exact ⟨hb, (Array.getElem?_eq_some_iff.1 hg).1⟩
theorem OwnW.row {w : World} {base : Nat} {v : Value} {l : List Pk} (h : OwnW w base v l) : IsRow w 7 v l.length (pCells l) := by
  refine ⟨pCells_len l, ?_⟩
  rcases h with ⟨rfl, rfl⟩ | ⟨g, cap, cur, rfl, hb, hg, hc, hm, hs, ht⟩
  · exact .inl ⟨rfl, _, _, rfl⟩
  · refine .inr ⟨g, 0, cap, rfl, (Array.getElem?_eq_some_iff.1 hg).1, hc, hm, fun j u hu => ?_⟩
    rw [Nat.zero_add, cell_of_row w g j cur _ (0, 0) hg]
    rw [← ht, List.getElem?_take] at hu
    split at hu
    · simpa using hu
    · cases hu
theorem OwnW.form {w : World} {base : Nat} {v : Value} {l : List Pk} (h : OwnW w base v l) : ∃ a cap, v = .slice a l.length cap := h.row.form
theorem info_pk : (Try.prog.info? 37).map (fun i => (i.zero, i.size, i.bytes)) = some (some (pV zP), 7, 64) := by kernel_rfl

/-- An append of packets that lie somewhere else onto a row that is owned. -/
theorem run_app_w (w : World) (ty : TypeId) (base : Nat) (v : Value) (l : List Pk) (h : OwnW w base v l) (ad : Addr) (m : Nat) (c : Nat) (news : List Pk) (hm : m = news.length) (hne : 0 < m ∨ v ≠ .slice none 0 0)
    (hn : ∀ j u, (pCells news)[j]? = some u → w.cell? (ad.add j) = some u) (hl : l.length + m ≤ 1000000) (hbase : base ≤ w.heap.size) :
    ∃ g cap w', (Builtin.append_ #[40, 40] ty #[v, .slice (some ad) m c]).run Try.prog w = .ok (.slice (some ⟨g, 0, none⟩) (l.length + m) cap) w' ∧
      OwnW w' base (.slice (some ⟨g, 0, none⟩) (l.length + m) cap) (l ++ news) ∧ w.grownBy w' v.ownBlock ∧ (v.ownBlock = some g ∨ g = w.heap.size) := by
  obtain ⟨i, hi, hz0, hz1, hz2⟩ := info_parts info_pk
  have hnl : (pCells news).length = m * i.size := by rw [pCells_len, hz1, hm]
  have hlen : (l ++ news).length = l.length + m := by rw [List.length_append, hm]
  have fresh : ∀ old : Nat, old < l.length + m → ∀ row : Option Nat,
      OwnW (w.drew.alloc (.cells ((pCells l).toArray ++ (pCells news).toArray ++ Builtin.zeroCells (pV zP).cells (grownCap w (l.length + m) old 37 - (l.length + m))) 37)) base
        (.slice (some ⟨w.heap.size, 0, none⟩) (l.length + m) (grownCap w (l.length + m) old 37)) (l ++ news) ∧
      w.grownBy (w.drew.alloc (.cells ((pCells l).toArray ++ (pCells news).toArray ++ Builtin.zeroCells (pV zP).cells (grownCap w (l.length + m) old 37 - (l.length + m))) 37)) row := by
    intro old ho row
    have hge := grownCap_ge w (l.length + m) old 37
    have hle : grownCap w (l.length + m) old 37 ≤ maxLen := grownCap_le_maxLen w (l.length + m) old _ (by unfold maxLen; omega)
    refine ⟨.inr ⟨w.heap.size, _, _, by rw [hlen], hbase, heap_alloc_new w.drew _, by rw [hlen]; exact hge, hle, ?_, ?_⟩, ⟨rfl, rfl, rfl, by simp, fun k hk _ => Below.heap_alloc w.drew _ k hk⟩⟩
    · have z7 : (pV zP).cells.size = 7 := rfl
      simp only [Array.size_append, List.size_toArray, size_zeroCells, z7, pCells_len]
      omega
    · rw [Array.toList_append, Array.toList_append, hlen, pCells_app]
      have e7 : (l.length + m) * 7 = (pCells l ++ pCells news).length := by rw [List.length_append, pCells_len, pCells_len, hm]; omega
      rw [e7]
      exact List.take_left
  rcases h with ⟨rfl, rfl⟩ | ⟨g, cap, cur, rfl, hbg, hg, hnc, hcm, hcs, htake⟩
  · have hne : 0 < m := hne.resolve_right (fun h => h rfl)
    have hr := run_append_nil (P := Try.prog) w 40 ty 37 i _ Try.underlying40 hi hz0 ad m c (pCells news) hnl hn hne (by simp at hl; omega) (by rw [hz2]; simp at hl; omega)
    have hf := fresh 0 (by simp; omega) (Value.ownBlock (.slice none 0 0))
    simp only [List.length_nil, Nat.zero_add, pCells, List.flatMap_nil, List.nil_append, Array.empty_append] at hf hr ⊢
    exact ⟨_, _, _, hr, hf.1, hf.2, .inr rfl⟩
  · by_cases hroom : l.length + m ≤ cap
    · have hfit : l.length * i.size + (pCells news).length ≤ cur.size := by rw [hnl, hz1]; omega
      have hr := run_append_room (P := Try.prog) w 40 ty 37 i Try.underlying40 hi g l.length cap cur hg ad m c (pCells news) hnl hn (oneC_cell news) hroom hfit
      refine ⟨_, _, _, hr, .inr ⟨g, cap, _, by rw [hlen], hbg, setRow_heap w g cur _ _ _ hg, by rw [hlen]; exact hroom, hcm, ?_, ?_⟩, ⟨rfl, rfl, rfl, by simp, fun k _ hk => setRow_other w g k _ (fun e => hk (by simp [Value.ownBlock, e]))⟩, .inl rfl⟩
      · rw [hz1] at hfit ⊢
        simp only [List.size_toArray, List.length_append, List.length_take, List.length_drop, Array.length_toList]
        omega
      · rw [hz1, htake, hlen, pCells_app]
        have e7 : (l.length + m) * 7 = (pCells l ++ pCells news).length := by rw [List.length_append, pCells_len, pCells_len, hm]; omega
        rw [e7]
        exact List.take_left
    · have holds : ∀ j u, (pCells l)[j]? = some u → w.cell? ((⟨g, 0, none⟩ : Addr).add j) = some u := by
        intro j u hu
        have hadd : (⟨g, 0, none⟩ : Addr).add j = ⟨g, j, none⟩ := by unfold Addr.add; split <;> simp_all
        rw [hadd, cell_of_row w g j cur _ (0, 0) hg]
        rw [← htake, List.getElem?_take] at hu
        split at hu
        · simpa using hu
        · cases hu
      have hr := run_append_grow (P := Try.prog) w 40 ty 37 i _ Try.underlying40 hi hz0 ⟨g, 0, none⟩ l.length cap (pCells l) (by rw [pCells_len, hz1]) holds ad m c (pCells news) hnl hn (by omega) (by unfold maxLen at hcm; omega) (growslice_fits (by omega) (by rw [hz2]; omega))
      have hf := fresh cap (by omega) (Value.ownBlock (.slice (some ⟨g, 0, none⟩) l.length cap))
      exact ⟨_, _, _, hr, hf.1, hf.2, .inr rfl⟩
end Go.Proofs.Ytiejehaaglpkoaa
/- The net as it lies in memory: what is kept, what a store does. -/
namespace Go.Proofs.Ytiejehaaglpkoaa
open Go.RowKit

def up {α : Type} (F : Nat → α) (c : Nat) (x : α) : Nat → α := fun k => if k = c then x else F k
theorem up_same {α : Type} (F : Nat → α) (c : Nat) (x : α) : up F c x c = x := by simp [up]
theorem up_other {α : Type} (F : Nat → α) {c k : Nat} (x : α) (h : k ≠ c) : up F c x k = F k := by simp [up, h]
/-- The net that a pointer to block g means: the rows (at 16 times from where, and to where) and who is apart. -/
structure NetV (base : Nat) (w : World) (g : Nat) (V : Nat → Value) (R : Nat → List Pk) (A : Nat → Bool) : Prop where
  lo : base ≤ g
  blk : ∃ cur : Array Value, w.heap[g]? = some (.cells cur 105 (0, 0)) ∧ cur.size = 512 ∧ (∀ c, c < 256 → cur[c]? = some (V c)) ∧ (∀ c, c < 256 → cur[256 + c]? = some (.bool (A c)))
  own : ∀ c, c < 256 → OwnW w base (V c) (R c)
  ne : ∀ c, c < 256 → (V c).ownBlock ≠ some g
  sep : ∀ c d, c < 256 → d < 256 → c ≠ d → (V c).ownBlock = none ∨ (V c).ownBlock ≠ (V d).ownBlock
/-- The blocks of a net. -/
def Fp (g : Nat) (V : Nat → Value) (k : Nat) : Prop := k = g ∨ ∃ c, c < 256 ∧ (V c).ownBlock = some k
theorem NetV.lt {base : Nat} {w : World} {g : Nat} {V : Nat → Value} {R : Nat → List Pk} {A : Nat → Bool} (h : NetV base w g V R A) {k : Nat} (hk : Fp g V k) : base ≤ k ∧ k < w.heap.size := by
  rcases hk with rfl | ⟨c, hc, hk⟩
  · obtain ⟨cur, hb, _⟩ := h.blk
    exact ⟨h.lo, (Array.getElem?_eq_some_iff.1 hb).1⟩
  · exact (h.own c hc).lt k hk
theorem NetV.keep {base : Nat} {w w' : World} {g : Nat} {V : Nat → Value} {R : Nat → List Pk} {A : Nat → Bool} (h : NetV base w g V R A) (hk : ∀ k, Fp g V k → w'.heap[k]? = w.heap[k]?) : NetV base w' g V R A := by
  refine ⟨h.lo, ?_, fun c hc => (h.own c hc).keep fun k e => hk k (.inr ⟨c, hc, e⟩), h.ne, h.sep⟩
  obtain ⟨cur, hb, r⟩ := h.blk
  exact ⟨cur, (hk g (.inl rfl)).trans hb, r⟩
theorem NetV.below {base : Nat} {w w' : World} {g : Nat} {V : Nat → Value} {R : Nat → List Pk} {A : Nat → Bool} (h : NetV base w g V R A) (hb : Below w.heap.size w w') : NetV base w' g V R A :=
  h.keep fun k hk => hb.block k (h.lt hk).2
theorem NetV.cell {base : Nat} {w : World} {g : Nat} {V : Nat → Value} {R : Nat → List Pk} {A : Nat → Bool} (h : NetV base w g V R A) (c : Nat) (hc : c < 256) :
    w.cell? ⟨g, c, none⟩ = some (V c) ∧ w.cell? ⟨g, 256 + c, none⟩ = some (.bool (A c)) ∧ w.frozen? ⟨g, c, none⟩ = false ∧ w.frozen? ⟨g, 256 + c, none⟩ = false ∧ g < w.heap.size := by
  obtain ⟨cur, hb, _, h1, h2⟩ := h.blk
  exact ⟨by rw [cell_of_row w g c cur _ (0, 0) hb]; exact h1 c hc, by rw [cell_of_row w g (256 + c) cur _ (0, 0) hb]; exact h2 c hc, by simp [World.frozen?, hb], by simp [World.frozen?, hb], (Array.getElem?_eq_some_iff.1 hb).1⟩
/-- What a call on a net leaves: all but the net's blocks as it was; its blocks are old ones of its own, or new. -/
structure NStep (w : World) (g : Nat) (V V' : Nat → Value) (w' : World) : Prop where
  os : w'.os = w.os
  tape : w'.tape = w.tape
  output : w'.output = w.output
  size : w.heap.size ≤ w'.heap.size
  block : ∀ k, k < w.heap.size → ¬ Fp g V k → w'.heap[k]? = w.heap[k]?
  fp : ∀ k, Fp g V' k → Fp g V k ∨ w.heap.size ≤ k
theorem NStep.of {w w' : World} (g : Nat) (V : Nat → Value) (hb : Below w.heap.size w w') : NStep w g V V w' := ⟨hb.os, hb.tape, hb.output, hb.size, fun k hk _ => hb.block k hk, fun _ h => .inl h⟩
theorem NStep.trans {w w1 w2 : World} {g : Nat} {V V1 V2 : Nat → Value} (h : NStep w g V V1 w1) (k : NStep w1 g V1 V2 w2) : NStep w g V V2 w2 :=
  ⟨k.os.trans h.os, k.tape.trans h.tape, k.output.trans h.output, Nat.le_trans h.size k.size, fun i hi hn => (k.block i (Nat.lt_of_lt_of_le hi h.size) (fun hf => by
    rcases h.fp i hf with hf | hf
    · exact hn hf
    · omega)).trans (h.block i hi hn), fun i hf => by
    rcases k.fp i hf with hf | hf
    · exact h.fp i hf
    · exact .inr (Nat.le_trans h.size hf)⟩
theorem NStep.below {base : Nat} {w w' : World} {g : Nat} {V V' : Nat → Value} {R : Nat → List Pk} {A : Nat → Bool} (h : NStep w g V V' w') (hv : NetV base w g V R A) : Below base w w' :=
  ⟨h.os, h.tape, h.output, h.size, fun k hk => h.block k (Nat.lt_of_lt_of_le hk (Nat.le_trans hv.lo (Nat.le_of_lt (hv.cell 0 (by omega)).2.2.2.2))) fun hf => by have := (hv.lt hf).1; omega⟩
/-- Something that lies apart from the net stays. -/
theorem NStep.far {w w' : World} {g : Nat} {V V' : Nat → Value} (h : NStep w g V V' w') {k : Nat} (hk : k < w.heap.size) (hn : ¬ Fp g V k) : w'.heap[k]? = w.heap[k]? ∧ ¬ Fp g V' k := ⟨h.block k hk hn, fun hf => by
  rcases h.fp k hf with hf | hf
  · exact hn hf
  · omega⟩
theorem setCell_at (w : World) {g : Nat} (c : Nat) {cur : Array Value} {t : TypeId} (hb : w.heap[g]? = some (.cells cur t (0, 0))) (v : Value) :
    (w.setCell ⟨g, c, none⟩ v).heap[g]? = some (.cells (cur.setIfInBounds c v) t (0, 0)) ∧ (∀ k, k ≠ g → (w.setCell ⟨g, c, none⟩ v).heap[k]? = w.heap[k]?) := by
  rw [setCell_eq_setRow w g c cur t (0, 0) v hb]
  exact ⟨setRow_heap w g cur _ t _ hb, fun k hk => setRow_other w g k _ hk⟩
/-- A row is put into its place, be it appended to, shorter, or empty. -/
theorem net_put {base : Nat} {w w1 : World} {g : Nat} {V : Nat → Value} {R : Nat → List Pk} {A : Nat → Bool} (hv : NetV base w g V R A) {c : Nat} (hc : c < 256) (hg : w.grownBy w1 (V c).ownBlock) {v : Value} {l : List Pk} (ho : OwnW w1 base v l)
    (hat : v.ownBlock = (V c).ownBlock ∨ v.ownBlock = none ∨ ∃ k, v.ownBlock = some k ∧ w.heap.size ≤ k) :
    NetV base (w1.setCell ⟨g, c, none⟩ v) g (up V c v) (up R c l) A ∧ NStep w g V (up V c v) (w1.setCell ⟨g, c, none⟩ v) := by
  obtain ⟨cur, hb, hs, h1, h2⟩ := hv.blk
  have hgl := (hv.cell 0 (by omega)).2.2.2.2
  have hb1 : w1.heap[g]? = some (.cells cur 105 (0, 0)) := (hg.block g hgl (fun e => hv.ne c hc e.symm)).trans hb
  obtain ⟨s1, s2⟩ := setCell_at w1 c hb1 v
  have hvg : v.ownBlock ≠ some g := by
    intro e
    rcases hat with h | h | ⟨k, h, hk⟩
    · exact hv.ne c hc (h.symm.trans e)
    · rw [h] at e; cases e
    · rw [h] at e; cases e; omega
  have sepv : ∀ d, d < 256 → d ≠ c → v.ownBlock = none ∨ v.ownBlock ≠ (V d).ownBlock := by
    intro d hd hdc
    rcases hat with h | h | ⟨k, h, hk⟩
    · rw [h]; exact hv.sep c d hc hd (Ne.symm hdc)
    · exact .inl h
    · right; intro e
      have := (hv.own d hd).lt k (e.symm.trans h)
      omega
  refine ⟨⟨hv.lo, ⟨_, s1, by simpa using hs, fun d hd => ?_, fun d hd => ?_⟩, fun d hd => ?_, fun d hd => ?_, fun d e hd he hde => ?_⟩, ?_⟩
  · by_cases e : d = c
    · subst e; rw [up_same, Array.getElem?_setIfInBounds_self_of_lt (by omega)]
    · rw [up_other _ _ e, Array.getElem?_setIfInBounds_ne (Ne.symm e)]; exact h1 d hd
  · rw [Array.getElem?_setIfInBounds_ne (by omega)]; exact h2 d hd
  · by_cases e : d = c
    · subst e; rw [up_same, up_same]
      exact ho.keep fun k hk => s2 k fun e => hvg (by rw [hk, e])
    · rw [up_other _ _ e, up_other _ _ e]
      refine (hv.own d hd).keep fun k hk => ?_
      rw [s2 k fun e => hv.ne d hd (by rw [hk, e])]
      refine hg.block k ((hv.own d hd).lt k hk).2 fun e2 => ?_
      rcases hv.sep d c hd hc e with h | h
      · rw [h] at hk; cases hk
      · exact h (hk.trans e2)
  · by_cases e : d = c
    · subst e; rw [up_same]; exact hvg
    · rw [up_other _ _ e]; exact hv.ne d hd
  · by_cases e1 : d = c
    · subst e1
      rw [up_same, up_other _ _ (Ne.symm hde)]
      exact sepv e he (Ne.symm hde)
    · rw [up_other _ _ e1]
      by_cases e2 : e = c
      · subst e2
        rw [up_same]
        rcases sepv d hd e1 with h | h
        · by_cases h0 : (V d).ownBlock = none
          · exact .inl h0
          · right; rw [h]; exact h0
        · exact .inr (Ne.symm h)
      · rw [up_other _ _ e2]; exact hv.sep d e hd he hde
  · have z : (w1.setCell ⟨g, c, none⟩ v).heap.size = w1.heap.size := by rw [setCell_eq_setRow w1 g c cur _ (0, 0) v hb1]; simp
    refine ⟨hg.os, hg.tape, hg.output, by rw [z]; exact hg.size, fun k hk hn => ?_, fun k hf => ?_⟩
    · rw [s2 k fun e => hn (.inl e)]
      exact hg.block k hk fun e => hn (.inr ⟨c, hc, e.symm⟩)
    · rcases hf with rfl | ⟨d, hd, hk⟩
      · exact .inl (.inl rfl)
      · by_cases e : d = c
        · subst e
          rw [up_same] at hk
          rcases hat with h | h | ⟨k', h, hk'⟩
          · exact .inl (.inr ⟨d, hd, h.symm.trans hk⟩)
          · rw [h] at hk; cases hk
          · rw [h] at hk; cases hk; exact .inr hk'
        · rw [up_other _ _ e] at hk; exact .inl (.inr ⟨d, hd, hk⟩)
theorem grown_refl (w : World) (r : Option Nat) : w.grownBy w r := ⟨rfl, rfl, rfl, Nat.le_refl _, fun _ _ _ => rfl⟩
/-- Two nodes are apart, or not: one way. -/
theorem net_cut {base : Nat} {w : World} {g : Nat} {V : Nat → Value} {R : Nat → List Pk} {A : Nat → Bool} (hv : NetV base w g V R A) {c : Nat} (hc : c < 256) (b : Bool) :
    NetV base (w.setCell ⟨g, 256 + c, none⟩ (.bool b)) g V R (up A c b) ∧ NStep w g V V (w.setCell ⟨g, 256 + c, none⟩ (.bool b)) := by
  obtain ⟨cur, hb, hs, h1, h2⟩ := hv.blk
  obtain ⟨s1, s2⟩ := setCell_at w (256 + c) hb (.bool b)
  refine ⟨⟨hv.lo, ⟨_, s1, by simpa using hs, fun d hd => ?_, fun d hd => ?_⟩, fun d hd => ?_, hv.ne, hv.sep⟩, ?_⟩
  · rw [Array.getElem?_setIfInBounds_ne (by omega)]; exact h1 d hd
  · by_cases e : d = c
    · subst e; rw [up_same, Array.getElem?_setIfInBounds_self_of_lt (by omega)]
    · rw [up_other _ _ e, Array.getElem?_setIfInBounds_ne (by omega)]; exact h2 d hd
  · exact (hv.own d hd).keep fun k hk => s2 k fun e => hv.ne d hd (by rw [hk, e])
  · have z : (w.setCell ⟨g, 256 + c, none⟩ (.bool b)).heap.size = w.heap.size := by rw [setCell_eq_setRow w g (256 + c) cur _ (0, 0) _ hb]; simp
    exact ⟨rfl, rfl, rfl, by rw [z]; exact Nat.le_refl _, fun k hk hn => s2 k fun e => hn (.inl e), fun k hf => .inl hf⟩
/-- Is it a node? -/
def nodeB (n : Int) : Bool := decide (1 ≤ n) && decide (n ≤ 15)
def hopB (f t : Int) : Bool := nodeB f && (nodeB t && !decide (f = t))
def cntB (n : Int) : Bool := decide (1 ≤ n) && decide (n ≤ 1099511627775)
def seqB (n : Int) : Bool := decide (0 ≤ n) && decide (n ≤ 1099511627775)
/-- May a packet be? -/
def chkP (p : Pk) : Bool := nodeB p.f && (nodeB p.t && (!decide (p.f = p.t) && (cntB p.fl && (cntB p.tl && (seqB p.sq && (seqB p.ak && (decide (p.x.size ≤ 32768) && (decide (p.x.size = 0) || !decide (p.sq = 0)))))))))
theorem two_dec (a b : Prop) [Decidable a] [Decidable b] : (if decide a = true then Value.bool (decide b) else .bool false) = .bool (decide a && decide b) := by
  by_cases h : a <;> simp [h]
theorem isNode_any (n : Int) (w : World) : Calls Try.prog 64 #[.int .i64 n] w fun e w' => e = .returned (.bool (nodeB n)) ∧ w' = w := by
  by_cases h : 1 ≤ n
  · have hd : decide (1 ≤ n) = true := decide_eq_true h
    unfold nodeB; rw [hd, Bool.true_and]
    go_enter Try.func64, Try.ntmps64
    go_wp2
    go_ret
    exact ⟨rfl, rfl⟩
  · have hd : decide (1 ≤ n) = false := decide_eq_false h
    unfold nodeB; rw [hd, Bool.false_and]
    go_enter Try.func64, Try.ntmps64
    go_wp2
    go_ret
    exact ⟨rfl, rfl⟩
theorem wNode_any (n : Int) (w : World) : Calls Try.prog 61 #[.int .i64 n] w fun e w' => e = .returned (.bool (nodeB n)) ∧ w' = w := by
  by_cases h : 1 ≤ n
  · have hd : decide (1 ≤ n) = true := decide_eq_true h
    unfold nodeB; rw [hd, Bool.true_and]
    go_enter Try.func61, Try.ntmps61
    go_wp2
    go_ret
    exact ⟨rfl, rfl⟩
  · have hd : decide (1 ≤ n) = false := decide_eq_false h
    unfold nodeB; rw [hd, Bool.false_and]
    go_enter Try.func61, Try.ntmps61
    go_wp2
    go_ret
    exact ⟨rfl, rfl⟩
theorem counts_any (n : Int) (w : World) : Calls Try.prog 62 #[.int .i64 n] w fun e w' => e = .returned (.bool (cntB n)) ∧ w' = w := by
  by_cases h : 1 ≤ n
  · have hd : decide (1 ≤ n) = true := decide_eq_true h
    unfold cntB; rw [hd, Bool.true_and]
    go_enter Try.func62, Try.ntmps62
    go_wp2
    go_ret
    exact ⟨rfl, rfl⟩
  · have hd : decide (1 ≤ n) = false := decide_eq_false h
    unfold cntB; rw [hd, Bool.false_and]
    go_enter Try.func62, Try.ntmps62
    go_wp2
    go_ret
    exact ⟨rfl, rfl⟩
theorem isSeq_any (n : Int) (w : World) : Calls Try.prog 63 #[.int .i64 n] w fun e w' => e = .returned (.bool (seqB n)) ∧ w' = w := by
  by_cases h : 0 ≤ n
  · have hd : decide (0 ≤ n) = true := decide_eq_true h
    unfold seqB; rw [hd, Bool.true_and]
    go_enter Try.func63, Try.ntmps63
    go_wp2
    go_ret
    exact ⟨rfl, rfl⟩
  · have hd : decide (0 ≤ n) = false := decide_eq_false h
    unfold seqB; rw [hd, Bool.false_and]
    go_enter Try.func63, Try.ntmps63
    go_wp2
    go_ret
    exact ⟨rfl, rfl⟩
end Go.Proofs.Ytiejehaaglpkoaa
/- net.isHop, wire.CheckPacket, Count, look: walks. -/
namespace Go.Proofs.Ytiejehaaglpkoaa
open Go.RowKit

theorem al_b (w : World) (o : Obj) : Below w.heap.size w (w.alloc o) := (Below.refl _ _).alloc (Nat.le_refl _) o
abbrev hV (f t : Int) : Value := .agg #[.int .i64 f, .int .i64 t]
set_option maxRecDepth 100000 in
theorem isHop_any (f t : Int) (w : World) : Calls Try.prog 57 #[hV f t] w fun e w' => e = .returned (.bool (hopB f t)) ∧ w' = w.alloc (.cells #[.int .i64 f, .int .i64 t] 97) := by
  have HN : Hid (∀ n w, Calls Try.prog 64 #[.int .i64 n] w fun e w' => e = .returned (.bool (nodeB n)) ∧ w' = w) := isNode_any
  unfold hopB
  cases h1 : nodeB f with
  | false =>
    rw [Bool.false_and]
    go_enter Try.func57, Try.ntmps57
    go_wp2_with fail
    refine (HN.out _ _).mono ?_
    rintro e w1 ⟨rfl, rfl⟩
    rw [h1]
    go_wp2
    go_ret
    exact ⟨rfl, rfl⟩
  | true =>
    rw [Bool.true_and]
    cases h2 : nodeB t with
    | false =>
      rw [Bool.false_and]
      go_enter Try.func57, Try.ntmps57
      go_wp2_with fail
      refine (HN.out _ _).mono ?_
      rintro e w1 ⟨rfl, rfl⟩
      rw [h1]
      go_wp2_with fail
      refine (HN.out _ _).mono ?_
      rintro e w1 ⟨rfl, rfl⟩
      rw [h2]
      go_wp2
      go_ret
      exact ⟨rfl, rfl⟩
    | true =>
      rw [Bool.true_and]
      have HE : Hid ((f != t) = !decide (f = t)) := by show _ = _; by_cases h : f = t <;> simp [h]
      go_enter Try.func57, Try.ntmps57
      go_wp2_with fail
      refine (HN.out _ _).mono ?_
      rintro e w1 ⟨rfl, rfl⟩
      rw [h1]
      go_wp2_with fail
      refine (HN.out _ _).mono ?_
      rintro e w1 ⟨rfl, rfl⟩
      rw [h2]
      go_wp2
      go_ret
      exact ⟨by rw [← HE.out]; rfl, rfl⟩
set_option maxRecDepth 100000 in
set_option maxHeartbeats 1000000 in
theorem checkP_any (p : Pk) (w : World) (hx : p.x.size ≤ 140737488355328) : Calls Try.prog 54 #[pV p] w fun e w' => e = .returned (.bool (chkP p)) ∧ w' = w.alloc (.cells (pA p) 37) := by
  have HN : Hid (∀ n w, Calls Try.prog 61 #[.int .i64 n] w fun e w' => e = .returned (.bool (nodeB n)) ∧ w' = w) := wNode_any
  have HC : Hid (∀ n w, Calls Try.prog 62 #[.int .i64 n] w fun e w' => e = .returned (.bool (cntB n)) ∧ w' = w) := counts_any
  have HS : Hid (∀ n w, Calls Try.prog 63 #[.int .i64 n] w fun e w' => e = .returned (.bool (seqB n)) ∧ w' = w) := isSeq_any
  have e3 : (p.f != p.t) = !decide (p.f = p.t) := by by_cases h : p.f = p.t <;> simp [h]
  have e8 : decide ((p.x.size : Int) ≤ 32768) = decide (p.x.size ≤ 32768) := by rw [Bool.eq_iff_iff]; simp; omega
  have e9 : p.x.toList.isEmpty = decide (p.x.size = 0) := by
    rw [ByteArray.toList_eq]
    by_cases h : p.x.size = 0
    · rw [decide_eq_true h, show p.x.data.toList = [] from List.eq_nil_of_length_eq_zero (by rw [Array.length_toList]; exact h)]; rfl
    · rw [decide_eq_false h]
      cases e : p.x.data.toList with
      | nil => exact absurd (by have := congrArg List.length e; rwa [Array.length_toList] at this) h
      | cons b l => rfl
  have e10 : (p.sq != 0) = !decide (p.sq = 0) := by by_cases h : p.sq = 0 <;> simp [h]
  cases h1 : nodeB p.f with
  | false =>
    have e0 : chkP p = false := by unfold chkP; rw [h1]; rfl
    rw [e0]; clear e0
    clear e3 e8 e9 e10
    have K : Hid True := trivial
    obtain ⟨pf, pt, pfl, ptl, psq, pak, px⟩ := p
    dsimp only at *
    go_enter Try.func54, Try.ntmps54
    go_wp2_with fail
    refine (HN.out _ _).mono ?_
    rintro e w1 ⟨rfl, rfl⟩
    rw [h1]
    go_wp2
    go_ret
    exact ⟨rfl, rfl⟩
  | true =>
    cases h2 : nodeB p.t with
    | false =>
      have e0 : chkP p = false := by unfold chkP; rw [h1, h2]; rfl
      rw [e0]; clear e0
      clear e3 e8 e9 e10
      have K : Hid True := trivial
      obtain ⟨pf, pt, pfl, ptl, psq, pak, px⟩ := p
      dsimp only at *
      go_enter Try.func54, Try.ntmps54
      go_wp2_with fail
      refine (HN.out _ _).mono ?_
      rintro e w1 ⟨rfl, rfl⟩
      rw [h1]
      go_wp2_with fail
      refine (HN.out _ _).mono ?_
      rintro e w1 ⟨rfl, rfl⟩
      rw [h2]
      go_wp2
      go_ret
      exact ⟨rfl, rfl⟩
    | true =>
      cases h3 : decide (p.f = p.t) with
      | false =>
        cases h4 : cntB p.fl with
        | false =>
          have e0 : chkP p = false := by unfold chkP; rw [h1, h2, h3, h4]; rfl
          rw [e0]; clear e0
          rw [h3] at e3
          clear e8 e9 e10
          have K : Hid True := trivial
          obtain ⟨pf, pt, pfl, ptl, psq, pak, px⟩ := p
          dsimp only at *
          go_enter Try.func54, Try.ntmps54
          go_wp2_with fail
          refine (HN.out _ _).mono ?_
          rintro e w1 ⟨rfl, rfl⟩
          rw [h1]
          go_wp2_with fail
          refine (HN.out _ _).mono ?_
          rintro e w1 ⟨rfl, rfl⟩
          rw [h2]
          go_wp2_with fail
          refine (HC.out _ _).mono ?_
          rintro e w1 ⟨rfl, rfl⟩
          rw [h4]
          go_wp2
          go_ret
          exact ⟨rfl, rfl⟩
        | true =>
          cases h5 : cntB p.tl with
          | false =>
            have e0 : chkP p = false := by unfold chkP; rw [h1, h2, h3, h4, h5]; rfl
            rw [e0]; clear e0
            rw [h3] at e3
            clear e8 e9 e10
            have K : Hid True := trivial
            obtain ⟨pf, pt, pfl, ptl, psq, pak, px⟩ := p
            dsimp only at *
            go_enter Try.func54, Try.ntmps54
            go_wp2_with fail
            refine (HN.out _ _).mono ?_
            rintro e w1 ⟨rfl, rfl⟩
            rw [h1]
            go_wp2_with fail
            refine (HN.out _ _).mono ?_
            rintro e w1 ⟨rfl, rfl⟩
            rw [h2]
            go_wp2_with fail
            refine (HC.out _ _).mono ?_
            rintro e w1 ⟨rfl, rfl⟩
            rw [h4]
            go_wp2_with fail
            refine (HC.out _ _).mono ?_
            rintro e w1 ⟨rfl, rfl⟩
            rw [h5]
            go_wp2
            go_ret
            exact ⟨rfl, rfl⟩
          | true =>
            cases h6 : seqB p.sq with
            | false =>
              have e0 : chkP p = false := by unfold chkP; rw [h1, h2, h3, h4, h5, h6]; rfl
              rw [e0]; clear e0
              rw [h3] at e3
              clear e8 e9 e10
              have K : Hid True := trivial
              obtain ⟨pf, pt, pfl, ptl, psq, pak, px⟩ := p
              dsimp only at *
              go_enter Try.func54, Try.ntmps54
              go_wp2_with fail
              refine (HN.out _ _).mono ?_
              rintro e w1 ⟨rfl, rfl⟩
              rw [h1]
              go_wp2_with fail
              refine (HN.out _ _).mono ?_
              rintro e w1 ⟨rfl, rfl⟩
              rw [h2]
              go_wp2_with fail
              refine (HC.out _ _).mono ?_
              rintro e w1 ⟨rfl, rfl⟩
              rw [h4]
              go_wp2_with fail
              refine (HC.out _ _).mono ?_
              rintro e w1 ⟨rfl, rfl⟩
              rw [h5]
              go_wp2_with fail
              refine (HS.out _ _).mono ?_
              rintro e w1 ⟨rfl, rfl⟩
              rw [h6]
              go_wp2
              go_ret
              exact ⟨rfl, rfl⟩
            | true =>
              cases h7 : seqB p.ak with
              | false =>
                have e0 : chkP p = false := by unfold chkP; rw [h1, h2, h3, h4, h5, h6, h7]; rfl
                rw [e0]; clear e0
                rw [h3] at e3
                clear e8 e9 e10
                have K : Hid True := trivial
                obtain ⟨pf, pt, pfl, ptl, psq, pak, px⟩ := p
                dsimp only at *
                go_enter Try.func54, Try.ntmps54
                go_wp2_with fail
                refine (HN.out _ _).mono ?_
                rintro e w1 ⟨rfl, rfl⟩
                rw [h1]
                go_wp2_with fail
                refine (HN.out _ _).mono ?_
                rintro e w1 ⟨rfl, rfl⟩
                rw [h2]
                go_wp2_with fail
                refine (HC.out _ _).mono ?_
                rintro e w1 ⟨rfl, rfl⟩
                rw [h4]
                go_wp2_with fail
                refine (HC.out _ _).mono ?_
                rintro e w1 ⟨rfl, rfl⟩
                rw [h5]
                go_wp2_with fail
                refine (HS.out _ _).mono ?_
                rintro e w1 ⟨rfl, rfl⟩
                rw [h6]
                go_wp2_with fail
                refine (HS.out _ _).mono ?_
                rintro e w1 ⟨rfl, rfl⟩
                rw [h7]
                go_wp2
                go_ret
                exact ⟨rfl, rfl⟩
              | true =>
                cases h8 : decide (p.x.size ≤ 32768) with
                | false =>
                  have e0 : chkP p = false := by unfold chkP; rw [h1, h2, h3, h4, h5, h6, h7, h8]; rfl
                  rw [e0]; clear e0
                  rw [h3] at e3
                  rw [h8] at e8
                  clear e9 e10
                  have K : Hid True := trivial
                  obtain ⟨pf, pt, pfl, ptl, psq, pak, px⟩ := p
                  dsimp only at *
                  go_enter Try.func54, Try.ntmps54
                  go_wp2_with fail
                  refine (HN.out _ _).mono ?_
                  rintro e w1 ⟨rfl, rfl⟩
                  rw [h1]
                  go_wp2_with fail
                  refine (HN.out _ _).mono ?_
                  rintro e w1 ⟨rfl, rfl⟩
                  rw [h2]
                  go_wp2_with fail
                  refine (HC.out _ _).mono ?_
                  rintro e w1 ⟨rfl, rfl⟩
                  rw [h4]
                  go_wp2_with fail
                  refine (HC.out _ _).mono ?_
                  rintro e w1 ⟨rfl, rfl⟩
                  rw [h5]
                  go_wp2_with fail
                  refine (HS.out _ _).mono ?_
                  rintro e w1 ⟨rfl, rfl⟩
                  rw [h6]
                  go_wp2_with fail
                  refine (HS.out _ _).mono ?_
                  rintro e w1 ⟨rfl, rfl⟩
                  rw [h7]
                  go_wp2
                  go_ret
                  exact ⟨rfl, rfl⟩
                | true =>
                  cases h9 : decide (p.x.size = 0) with
                  | false =>
                    cases h10 : decide (p.sq = 0) with
                    | false =>
                      have e0 : chkP p = true := by unfold chkP; rw [h1, h2, h3, h4, h5, h6, h7, h8, h9, h10]; rfl
                      rw [e0]; clear e0
                      rw [h3] at e3
                      rw [h8] at e8
                      rw [h9] at e9
                      rw [h10] at e10
                      have K : Hid True := trivial
                      obtain ⟨pf, pt, pfl, ptl, psq, pak, px⟩ := p
                      dsimp only at *
                      go_enter Try.func54, Try.ntmps54
                      go_wp2_with fail
                      refine (HN.out _ _).mono ?_
                      rintro e w1 ⟨rfl, rfl⟩
                      rw [h1]
                      go_wp2_with fail
                      refine (HN.out _ _).mono ?_
                      rintro e w1 ⟨rfl, rfl⟩
                      rw [h2]
                      go_wp2_with fail
                      refine (HC.out _ _).mono ?_
                      rintro e w1 ⟨rfl, rfl⟩
                      rw [h4]
                      go_wp2_with fail
                      refine (HC.out _ _).mono ?_
                      rintro e w1 ⟨rfl, rfl⟩
                      rw [h5]
                      go_wp2_with fail
                      refine (HS.out _ _).mono ?_
                      rintro e w1 ⟨rfl, rfl⟩
                      rw [h6]
                      go_wp2_with fail
                      refine (HS.out _ _).mono ?_
                      rintro e w1 ⟨rfl, rfl⟩
                      rw [h7]
                      go_wp2
                      go_ret
                      exact ⟨rfl, rfl⟩
                    | true =>
                      have e0 : chkP p = false := by unfold chkP; rw [h1, h2, h3, h4, h5, h6, h7, h8, h9, h10]; rfl
                      rw [e0]; clear e0
                      rw [h3] at e3
                      rw [h8] at e8
                      rw [h9] at e9
                      rw [h10] at e10
                      have K : Hid True := trivial
                      obtain ⟨pf, pt, pfl, ptl, psq, pak, px⟩ := p
                      dsimp only at *
                      go_enter Try.func54, Try.ntmps54
                      go_wp2_with fail
                      refine (HN.out _ _).mono ?_
                      rintro e w1 ⟨rfl, rfl⟩
                      rw [h1]
                      go_wp2_with fail
                      refine (HN.out _ _).mono ?_
                      rintro e w1 ⟨rfl, rfl⟩
                      rw [h2]
                      go_wp2_with fail
                      refine (HC.out _ _).mono ?_
                      rintro e w1 ⟨rfl, rfl⟩
                      rw [h4]
                      go_wp2_with fail
                      refine (HC.out _ _).mono ?_
                      rintro e w1 ⟨rfl, rfl⟩
                      rw [h5]
                      go_wp2_with fail
                      refine (HS.out _ _).mono ?_
                      rintro e w1 ⟨rfl, rfl⟩
                      rw [h6]
                      go_wp2_with fail
                      refine (HS.out _ _).mono ?_
                      rintro e w1 ⟨rfl, rfl⟩
                      rw [h7]
                      go_wp2
                      go_ret
                      exact ⟨rfl, rfl⟩
                  | true =>
                    have e0 : chkP p = true := by unfold chkP; rw [h1, h2, h3, h4, h5, h6, h7, h8, h9]; rfl
                    rw [e0]; clear e0
                    rw [h3] at e3
                    rw [h8] at e8
                    rw [h9] at e9
                    clear e10
                    have K : Hid True := trivial
                    obtain ⟨pf, pt, pfl, ptl, psq, pak, px⟩ := p
                    dsimp only at *
                    go_enter Try.func54, Try.ntmps54
                    go_wp2_with fail
                    refine (HN.out _ _).mono ?_
                    rintro e w1 ⟨rfl, rfl⟩
                    rw [h1]
                    go_wp2_with fail
                    refine (HN.out _ _).mono ?_
                    rintro e w1 ⟨rfl, rfl⟩
                    rw [h2]
                    go_wp2_with fail
                    refine (HC.out _ _).mono ?_
                    rintro e w1 ⟨rfl, rfl⟩
                    rw [h4]
                    go_wp2_with fail
                    refine (HC.out _ _).mono ?_
                    rintro e w1 ⟨rfl, rfl⟩
                    rw [h5]
                    go_wp2_with fail
                    refine (HS.out _ _).mono ?_
                    rintro e w1 ⟨rfl, rfl⟩
                    rw [h6]
                    go_wp2_with fail
                    refine (HS.out _ _).mono ?_
                    rintro e w1 ⟨rfl, rfl⟩
                    rw [h7]
                    go_wp2
                    go_ret
                    exact ⟨rfl, rfl⟩
      | true =>
        have e0 : chkP p = false := by unfold chkP; rw [h1, h2, h3]; rfl
        rw [e0]; clear e0
        rw [h3] at e3
        clear e8 e9 e10
        have K : Hid True := trivial
        obtain ⟨pf, pt, pfl, ptl, psq, pak, px⟩ := p
        dsimp only at *
        go_enter Try.func54, Try.ntmps54
        go_wp2_with fail
        refine (HN.out _ _).mono ?_
        rintro e w1 ⟨rfl, rfl⟩
        rw [h1]
        go_wp2_with fail
        refine (HN.out _ _).mono ?_
        rintro e w1 ⟨rfl, rfl⟩
        rw [h2]
        go_wp2
        go_ret
        exact ⟨rfl, rfl⟩
/-- How many packets there are in the first rows. -/
def cntN (R : Nat → List Pk) : Nat → Nat
  | 0 => 0
  | n + 1 => cntN R n + (R n).length
theorem cntN_mono (R : Nat → List Pk) : ∀ {a b : Nat}, a ≤ b → cntN R a ≤ cntN R b
  | a, 0, h => by rw [Nat.le_zero.1 h]; exact Nat.le_refl _
  | a, b + 1, h => by
    by_cases e : a = b + 1
    · subst e; exact Nat.le_refl _
    · exact Nat.le_trans (cntN_mono R (show a ≤ b by omega)) (by simp [cntN])
abbrev nP (g : Nat) : Value := .pointer (some ⟨g, 0, none⟩)
set_option maxRecDepth 100000 in
set_option maxHeartbeats 1000000 in
theorem count_any {base : Nat} {w : World} {g : Nat} {V : Nat → Value} {R : Nat → List Pk} {A : Nat → Bool} (hv : NetV base w g V R A) (hc : cntN R 256 ≤ 1000) :
    Calls Try.prog 30 #[nP g] w fun e w' => e = .returned (.int .i64 (cntN R 256)) ∧ w' = w := by
  have HV : Hid (NetV base w g V R A) := hv
  have HM : Hid (∀ a, a ≤ 256 → cntN R a ≤ cntN R 256) := fun a h => cntN_mono R h
  clear hv
  go_enter Try.func30, Try.ntmps30
  go_wp2_with fail
  go_loopw [2, 7] (fun r i wr => ∃ k : Nat, k ≤ 16 ∧ i = .int .i64 (k : Int) ∧ r = .int .i64 ((cntN R (k * 16) : Nat) : Int) ∧ w = wr) (fun _ i _ => 16 - (intOf i).toNat)
  case atStart => exact ⟨0, Nat.zero_le _, rfl, rfl, rfl⟩
  case round =>
    obtain ⟨k, hk, rfl, rfl, rfl⟩ := hrel
    by_cases hlk : k < 16
    · have dk : decide ((k : Int) < 16) = true := by simp; omega
      go_wp2_with fail
      go_loopw [2, 10] (fun r i wr => ∃ j : Nat, j ≤ 16 ∧ i = .int .i64 (j : Int) ∧ r = .int .i64 ((cntN R (k * 16 + j) : Nat) : Int) ∧ w = wr) (fun _ i _ => 16 - (intOf i).toNat)
      case atStart => exact ⟨0, Nat.zero_le _, rfl, rfl, rfl⟩
      case round =>
        obtain ⟨j, hj, rfl, rfl, rfl⟩ := hrel
        by_cases hlj : j < 16
        · have dj : decide ((j : Int) < 16) = true := by simp; omega
          obtain ⟨c1, -, -, -, -⟩ := HV.out.cell (k * 16 + j) (by omega)
          obtain ⟨a0, cap0, hf⟩ := (HV.out.own (k * 16 + j) (by omega)).form
          rw [hf] at c1
          have hm1 := HM.out (k * 16 + j + 1) (by omega)
          have hs : cntN R (k * 16 + j + 1) = cntN R (k * 16 + j) + (R (k * 16 + j)).length := rfl
          have HS : Hid (((cntN R (k * 16 + j) : Nat) : Int) + ((R (k * 16 + j)).length : Int) = ((cntN R (k * 16 + (j + 1)) : Nat) : Int)) := by
            show _ = _
            rw [← Nat.add_assoc, hs]; omega
          have q1 : (0 : Int) ≤ (k : Int) := by omega
          have q2 : (k : Int) < 16 := by omega
          have q3 : (0 : Int) ≤ (j : Int) := by omega
          have q4 : (j : Int) < 16 := by omega
          rw [hs] at hm1
          clear hf hs
          generalize (R (k * 16 + j)).length = n at *
          generalize cntN R (k * 16 + j) = m at *
          go_wp2
          go_roundw
          case rel => exact ⟨j + 1, by omega, by simp, by rw [← HS.out], by trivial⟩
          case measure => simp [intOf]; omega
        · have hj' : j = 16 := by omega
          subst hj'
          go_wp2
          go_roundw
          case rel => exact ⟨k + 1, by omega, by simp, by rw [show (k + 1) * 16 = k * 16 + 16 by omega], by trivial⟩
          case measure => simp [intOf]; omega
    · have hk' : k = 16 := by omega
      subst hk'
      go_wp2
      go_ret
      exact ⟨rfl, by trivial⟩
end Go.Proofs.Ytiejehaaglpkoaa
