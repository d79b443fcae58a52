/- slices.DeleteFunc of what was given, with the test of a subscription: its walk. -/
import Derived.Test.YtnldibcfpbignaaDoorQI
namespace Go.Proofs.YtnldibcfpbignaaDoor
open Go.RowKit Go.ChangeMaps

/-- What stays. -/
def stay (sub : Int) (l : List Gv) : List Gv := l.filter fun x => !isS sub x
abbrev setG (W : World) (b o : Nat) (x : Gv) : World := (((((((W.setCell ⟨b, o, none⟩ (.int .i64 x.s)).setCell ⟨b, o + 1, none⟩ (.string x.o)).setCell ⟨b, o + 2, none⟩ (.int .i64 x.n)).setCell ⟨b, o + 3, none⟩ (.int .i64 x.l)).setCell ⟨b, o + 4, none⟩ (.int .i64 x.q)).setCell ⟨b, o + 5, none⟩ (.string x.t)).setCell ⟨b, o + 6, none⟩ (.slice x.a x.k x.c))
theorem setG_cells (W : World) (b o : Nat) (x : Gv) : setG W b o x = W.setCells b o (enG x) := rfl
/-- Midway: i of the first j are kept, and stand in front; what is behind j stands as it was. -/
structure DfI (w : World) (b : Nat) (cur : Array Value) (l : List Gv) (sub : Int) (i j : Nat) (W : World) : Prop where
  len : i = (stay sub (l.take j)).length
  blk : ∃ c2, W.heap[b]? = some (.cells c2 38 (0, 0)) ∧ c2.size = cur.size ∧ (∀ k, k < i * 7 → c2[k]? = (gCells (stay sub (l.take j)))[k]?) ∧ (∀ k, j * 7 ≤ k → c2[k]? = cur[k]?)
  gr : w.grownBy W (some b)
theorem stay_len (sub : Int) (l : List Gv) : (stay sub l).length ≤ l.length := List.length_filter_le _ _
theorem stay_take_succ {sub : Int} {l : List Gv} {j : Nat} (h : j < l.length) : stay sub (l.take (j + 1)) = stay sub (l.take j) ++ (if isS sub l[j] then [] else [l[j]]) := by
  rw [List.take_succ_eq_append_getElem h]
  unfold stay
  rw [List.filter_append]
  cases hb : isS sub l[j] <;> simp [hb]
theorem DfI.grow {w W W' : World} {b : Nat} {cur : Array Value} {l : List Gv} {sub : Int} {i j : Nat} (h : DfI w b cur l sub i j W) (hb : Below W.heap.size W W') : DfI w b cur l sub i j W' := by
  obtain ⟨c2, h1, h2⟩ := h.blk
  exact ⟨h.len, ⟨c2, (hb.block b (Array.getElem?_eq_some_iff.1 h1).1).trans h1, h2⟩, ⟨hb.os.trans h.gr.os, hb.tape.trans h.gr.tape, hb.output.trans h.gr.output, Nat.le_trans h.gr.size hb.size, fun k hk hn => (hb.block k (Nat.lt_of_lt_of_le hk h.gr.size)).trans (h.gr.block k hk hn)⟩⟩
theorem DfI.skip {w W : World} {b : Nat} {cur : Array Value} {l : List Gv} {sub : Int} {i j : Nat} (h : DfI w b cur l sub i j W) (hj : j < l.length) (hs : isS sub l[j] = true) : DfI w b cur l sub i (j + 1) W := by
  have e : stay sub (l.take (j + 1)) = stay sub (l.take j) := by rw [stay_take_succ hj, hs]; simp
  obtain ⟨c2, h1, h2, h3, h4⟩ := h.blk
  exact ⟨by rw [e]; exact h.len, ⟨c2, h1, h2, by rw [e]; exact h3, fun k hk => h4 k (by omega)⟩, h.gr⟩
theorem DfI.put {w W : World} {b : Nat} {cur : Array Value} {l : List Gv} {sub : Int} {i j : Nat} (h : DfI w b cur l sub i j W) (hj : j < l.length) (hs : isS sub l[j] = false) (hij : i < j) (hc : l.length * 7 ≤ cur.size) : DfI w b cur l sub (i + 1) (j + 1) (setG W b (i * 7) l[j]) := by
  have e : stay sub (l.take (j + 1)) = stay sub (l.take j) ++ [l[j]] := by rw [stay_take_succ hj, hs]; simp
  obtain ⟨c2, h1, h2, h3, h4⟩ := h.blk
  rw [setG_cells]
  have e7 : (enG l[j]).length = 7 := rfl
  obtain ⟨c3, a1, a2, a3, a4, a5⟩ := setCells_blk (enG l[j]) (i * 7) W c2 h1 (by omega)
  have hl := h.len
  have e8 := gCells_len (stay sub (l.take j))
  rw [← hl] at e8
  refine ⟨by rw [e, List.length_append, List.length_singleton, ← hl], ⟨c3, a1, by omega, fun k hk => ?_, fun k hk => ?_⟩, grown_tr h.gr a5⟩
  · rw [e, gCells_app, gCells_one]
    by_cases hk7 : k < i * 7
    · rw [a4 k (.inl hk7), h3 k hk7, List.getElem?_append_left (by omega)]
    · rw [a3 k (by omega) (by omega), List.getElem?_append_right (by omega), e8]
  · rw [a4 k (.inr (by omega)), h4 k (by omega)]
theorem DfI.start {w W : World} {b : Nat} {cur : Array Value} {l : List Gv} {sub : Int} {k : Nat} (hg : w.heap[b]? = some (.cells cur 38 (0, 0))) (ht : cur.toList.take (l.length * 7) = gCells l) (hb : Below w.heap.size w W) (hi : l.findIdx? (isS sub) = some k) : DfI w b cur l sub k (k + 1) W ∧ k < l.length := by
  rw [List.findIdx?_eq_some_iff_getElem] at hi
  obtain ⟨hk, h1, h2⟩ := hi
  have e0 : stay sub (l.take k) = l.take k := by
    unfold stay
    rw [List.filter_eq_self]
    intro x hx
    obtain ⟨j, hj, rfl⟩ := List.mem_iff_getElem.1 hx
    rw [List.length_take] at hj
    rw [List.getElem_take]
    have := h2 j (by omega)
    simpa using this
  have e : stay sub (l.take (k + 1)) = l.take k := by rw [stay_take_succ hk, h1, e0]; simp
  refine ⟨⟨by rw [e, List.length_take]; omega, ⟨cur, (hb.block b (Array.getElem?_eq_some_iff.1 hg).1).trans hg, rfl, fun j hj => ?_, fun _ _ => rfl⟩, ⟨hb.os, hb.tape, hb.output, hb.size, fun i hi _ => hb.block i hi⟩⟩, hk⟩
  rw [e, ← takeG, ← ht, List.take_take, List.getElem?_take, if_pos (by omega)]
  simp
theorem DfI.lt {w W : World} {b : Nat} {cur : Array Value} {l : List Gv} {sub : Int} {i j : Nat} (h : DfI w b cur l sub i j W) (hj : j ≤ l.length) (k : Nat) (hk : k < j) (hs : isS sub (l[k]'(by omega)) = true) : i < j := by
  rw [h.len]
  have h1 : (stay sub (l.take j)).length < (l.take j).length := by
    rcases Nat.lt_or_ge (stay sub (l.take j)).length (l.take j).length with h2 | h2
    · exact h2
    · exfalso
      have h3 := List.length_filter_eq_length_iff (p := fun x => !isS sub x) (l := l.take j)
      have h4 : ((l.take j).filter fun x => !isS sub x).length = (l.take j).length := Nat.le_antisymm (List.length_filter_le _ _) h2
      have h5 := h3.1 h4 (l[k]'(by omega)) (List.mem_iff_getElem.2 ⟨k, by rw [List.length_take]; omega, by rw [List.getElem_take]⟩)
      rw [hs] at h5
      cases h5
  rw [List.length_take] at h1
  omega
/-- The cells of the j-th one. -/
theorem DfI.cells {w W : World} {b : Nat} {cur : Array Value} {l : List Gv} {sub : Int} {i j : Nat} (h : DfI w b cur l sub i j W) (ht : cur.toList.take (l.length * 7) = gCells l) (hj : j < l.length) :
    W.cell? ⟨b, j * 7, none⟩ = some (.int .i64 l[j].s) ∧ W.cell? ⟨b, j * 7 + 1, none⟩ = some (.string l[j].o) ∧ W.cell? ⟨b, j * 7 + 2, none⟩ = some (.int .i64 l[j].n) ∧ W.cell? ⟨b, j * 7 + 3, none⟩ = some (.int .i64 l[j].l) ∧ W.cell? ⟨b, j * 7 + 4, none⟩ = some (.int .i64 l[j].q) ∧ W.cell? ⟨b, j * 7 + 5, none⟩ = some (.string l[j].t) ∧ W.cell? ⟨b, j * 7 + 6, none⟩ = some (.slice l[j].a l[j].k l[j].c) := by
  obtain ⟨c2, h1, h2, h3, h4⟩ := h.blk
  have hc : ∀ k, k < 7 → W.cell? ⟨b, j * 7 + k, none⟩ = (enG l[j])[k]? := fun k hk => by
    rw [cell_of_row W b _ c2 _ (0, 0) h1, h4 _ (by omega)]
    have := gCells_get l j hj k hk
    rw [← this, ← ht, List.getElem?_take, if_pos (by omega)]
    simp
  exact ⟨hc 0 (by omega), hc 1 (by omega), hc 2 (by omega), hc 3 (by omega), hc 4 (by omega), hc 5 (by omega), hc 6 (by omega)⟩
/-- A place in front may be written. -/
theorem DfI.place {w W : World} {b : Nat} {cur : Array Value} {l : List Gv} {sub : Int} {i j : Nat} (h : DfI w b cur l sub i j W) (hi : i * 7 + 7 ≤ cur.size) : (∀ o, W.frozen? ⟨b, o, none⟩ = false) ∧ ∃ u0 u1 u2 u3 u4 u5 u6, W.cell? ⟨b, i * 7, none⟩ = some u0 ∧ W.cell? ⟨b, i * 7 + 1, none⟩ = some u1 ∧ W.cell? ⟨b, i * 7 + 2, none⟩ = some u2 ∧ W.cell? ⟨b, i * 7 + 3, none⟩ = some u3 ∧ W.cell? ⟨b, i * 7 + 4, none⟩ = some u4 ∧ W.cell? ⟨b, i * 7 + 5, none⟩ = some u5 ∧ W.cell? ⟨b, i * 7 + 6, none⟩ = some u6 := by
  obtain ⟨c2, h1, h2, h3, h4⟩ := h.blk
  have hc : ∀ (k : Nat) (hk : k < 7), W.cell? ⟨b, i * 7 + k, none⟩ = some (c2[i * 7 + k]'(by omega)) := fun k hk => by rw [cell_of_row W b _ c2 _ (0, 0) h1, Array.getElem?_eq_getElem]
  exact ⟨fun o => by simp [World.frozen?, h1], _, _, _, _, _, _, _, hc 0 (by omega), hc 1 (by omega), hc 2 (by omega), hc 3 (by omega), hc 4 (by omega), hc 5 (by omega), hc 6 (by omega)⟩
theorem DfI.done {w W : World} {base b cap : Nat} {cur : Array Value} {l : List Gv} {sub : Int} {i : Nat} (h : DfI w b cur l sub i l.length W) (hbase : base ≤ b) (hc : l.length ≤ cap) (hm : cap ≤ maxLen) (hs : cur.size = cap * 7) (hil : i < l.length) :
    (∀ ty, (Builtin.clear_ #[50] ty #[.slice (some ⟨b, i * 7, none⟩) (l.length - i) (cap - i)]).run Tryd.prog W = .ok (.tuple #[]) (W.setCells b (i * 7) (Builtin.zeroCells (gV zG).cells (l.length - i)).toList)) ∧
    (W.setCells b (i * 7) (Builtin.zeroCells (gV zG).cells (l.length - i)).toList).ownsRow base 38 7 (.slice (some ⟨b, 0, none⟩) i cap) (stay sub l).length (gCells (stay sub l)) ∧ w.grownBy (W.setCells b (i * 7) (Builtin.zeroCells (gV zG).cells (l.length - i)).toList) (some b) := by
  obtain ⟨c2, h1, h2, h3, h4⟩ := h.blk
  have hl := h.len
  rw [List.take_of_length_le (Nat.le_refl _)] at hl h3
  have hzl : ∀ k, (Builtin.zeroCells (gV zG).cells k).toList.length = k * 7 := fun k => by rw [Array.length_toList, size_zeroCells]; rfl
  have hz := hzl (l.length - i)
  obtain ⟨c3, a1, a2, a3, a4, a5⟩ := setCells_blk (Builtin.zeroCells (gV zG).cells (l.length - i)).toList (i * 7) W c2 h1 (by omega)
  have e8 := gCells_len (stay sub l)
  rw [← hl] at e8
  refine ⟨fun ty => run_clearG W ty b _ _ _ (by omega) c2 h1 (by omega), ⟨by rw [gCells_len], .inr ⟨b, cap, c3, by rw [← hl], hbase, a1, by omega, hm, by omega, ?_⟩⟩, grown_tr h.gr a5⟩
  apply List.ext_getElem?
  intro k
  rw [List.getElem?_take, ← hl]
  split
  · rename_i hk
    rw [Array.getElem?_toList, a4 k (.inl hk), h3 k hk]
  · rw [List.getElem?_eq_none (by omega)]
end Go.Proofs.YtnldibcfpbignaaDoor
