/- slices.Delete of what was given, from the front: its walk. -/
import Derived.Test.YtnldibcfpbignaaDoorQD
namespace Go.Proofs.YtnldibcfpbignaaDoor
open Go.RowKit Go.ChangeMaps

def DlP (base : Nat) (l : List Gv) (v : Value) (w : World) (e : Ending) (w' : World) : Prop := ∃ v', e = .returned v' ∧ w'.ownsRow base 38 7 v' l.length (gCells l) ∧ v'.ownBlock = v.ownBlock ∧ w.grownBy w' v.ownBlock
theorem grown_refl (w : World) (r : Option Nat) : w.grownBy w r := ⟨rfl, rfl, rfl, Nat.le_refl _, fun _ _ _ => rfl⟩
theorem grown_tr {a b c : World} {r : Option Nat} (h : a.grownBy b r) (k : b.grownBy c r) : a.grownBy c r :=
  ⟨k.os.trans h.os, k.tape.trans h.tape, k.output.trans h.output, Nat.le_trans h.size k.size, fun i hi hn => (k.block i (Nat.lt_of_lt_of_le hi h.size) hn).trans (h.block i hi hn)⟩
/-- The front of a block, written anew, and some of what stands behind it. -/
theorem own_front {w w1 w2 : World} {base b cap n : Nat} {cur : Array Value} (hbase : base ≤ b) (hb : w.heap[b]? = some (.cells cur 38 (0, 0))) (hc : cap ≤ maxLen) (hs : cur.size = cap * 7) {l : List Gv} (hn : n = l.length) (hlc : l.length ≤ cap) (h1 : w1 = w.setCells b 0 (gCells l)) {o : Nat} {vs : List Value} (ho : l.length * 7 ≤ o) (hov : o + vs.length ≤ cap * 7) (h2 : w2 = w1.setCells b o vs) :
    w2.ownsRow base 38 7 (.slice (some ⟨b, 0, none⟩) n cap) l.length (gCells l) ∧ w.grownBy w2 (some b) := by
  subst h1 h2 hn
  have e7 := gCells_len l
  obtain ⟨c1, a1, a2, a3, a4, a5⟩ := setCells_blk (gCells l) 0 w cur hb (by omega)
  obtain ⟨c2, b1, b2, b3, b4, b5⟩ := setCells_blk vs o _ c1 a1 (by omega)
  refine ⟨⟨e7, .inr ⟨b, cap, c2, rfl, hbase, b1, hlc, hc, by omega, ?_⟩⟩, grown_tr a5 b5⟩
  apply List.ext_getElem?
  intro j
  rw [List.getElem?_take]
  split
  · rename_i hj
    rw [Array.getElem?_toList, b4 j (.inl (by omega)), a3 j (Nat.zero_le _) (by omega), Nat.sub_zero]
  · rename_i hj
    rw [List.getElem?_eq_none (by omega)]
set_option maxRecDepth 100000 in
set_option maxHeartbeats 2000000 in
theorem delG_any {base : Nat} {w : World} {v : Value} {l : List Gv} (h : w.ownsRow base 38 7 v l.length (gCells l)) {n : Nat} (hn : n ≤ l.length) :
    Calls Tryd.prog 31 #[v, .int .i64 0, .int .i64 n] w fun e w' => DlP base (l.drop n) v w e w' := by
  by_cases h0 : n = 0
  · subst h0
    rw [List.drop_zero]
    have HR : Hid (DlP base l v w (.returned v) w) := ⟨v, rfl, h, rfl, grown_refl _ _⟩
    rcases h.2 with ⟨rfl, h2⟩ | ⟨b, cap, cur, rfl, hb, hg, hc, hm, hs, ht⟩
    · go_enter Tryd.func31, Tryd.ntmps31
      go_wp2
      go_ret
      exact HR.out
    · have i1 : (0 : Int) ≤ (l.length : Int) := by omega
      have i2 : (l.length : Int) ≤ (cap : Int) := by omega
      clear h
      go_enter Tryd.func31, Tryd.ntmps31
      go_wp2
      all_goals go_ret
      all_goals exact HR.out
  · obtain ⟨b, cap, cur, rfl, hb, hg, hc, hm, hs, ht⟩ := own_openG h (by omega)
    clear h
    obtain ⟨i0, hi0, hz0, hz1, hz2⟩ := info_parts info_gv
    have hlt : b < w.heap.size := (Array.getElem?_eq_some_iff.1 hg).1
    have hcell : ∀ j u, (gCells l)[j]? = some u → w.cell? ⟨b, j, none⟩ = some u := fun j u hu => by
      rw [cell_of_row w b j cur _ (0, 0) hg]
      rw [← ht, List.getElem?_take] at hu
      split at hu
      · simpa using hu
      · cases hu
    have hld : (l.drop n).length = l.length - n := List.length_drop
    have s1 : Hid ((gCells (l.drop n)).length = (l.length - n) * 7) := by show _ = _; rw [gCells_len, hld]
    have s2 : Hid (∀ u ∈ gCells (l.drop n), u.oneCell' = true) := oneGs_cell _
    have s3 : Hid (∀ t, t < (gCells (l.drop n)).length → (w.drew.cell? ⟨b, 0 + 0 * 7 + t, none⟩).isSome = true ∧ w.drew.frozen? ⟨b, 0 + 0 * 7 + t, none⟩ = false) := fun t hjt => by
      rw [gCells_len, hld] at hjt
      have e0 : 0 + 0 * 7 + t = t := by omega
      rw [e0]
      refine ⟨?_, by show w.frozen? _ = false; simp [World.frozen?, hg]⟩
      show (w.cell? _).isSome = true
      rw [cell_of_row w b _ cur _ (0, 0) hg, Array.getElem?_eq_getElem (by omega)]; rfl
    obtain ⟨A, hA, hsrc⟩ : ∃ A : Addr, (if cap = n then some (⟨b, 0, none⟩ : Addr) else some ⟨b, n * 7, none⟩) = some A ∧ Hid (∀ t u, (gCells (l.drop n))[t]? = some u → w.drew.cell? (A.add t) = some u) := by
      by_cases hq : cap = n
      · refine ⟨⟨b, 0, none⟩, by simp [hq], fun t u hu => ?_⟩
        rw [List.drop_of_length_le (by omega)] at hu
        simp [gCells] at hu
      · refine ⟨⟨b, n * 7, none⟩, by simp [hq], fun t u hu => ?_⟩
        rw [Addr.add_lit]
        rw [← dropG, List.getElem?_drop] at hu
        exact hcell _ _ hu
    obtain ⟨W1, hW1⟩ : ∃ W1, W1 = w.drew.setCells b (0 + 0 * 7) (gCells (l.drop n)) := ⟨_, rfl⟩
    have hgd : w.drew.heap[b]? = some (.cells cur 38 (0, 0)) := hg
    obtain ⟨c1, a1, a2, -⟩ := setCells_blk (gCells (l.drop n)) 0 w.drew cur hgd (by rw [gCells_len, hld]; omega)
    have a1' : W1.heap[b]? = some (.cells c1 38 (0, 0)) := by rw [hW1]; exact a1
    have hcl : ∀ ty, (Builtin.clear_ #[50] ty #[.slice (some ⟨b, (l.length - n) * 7, none⟩) (l.length - (l.length - n)) (cap - (l.length - n))]).run Tryd.prog W1 = .ok (.tuple #[]) (W1.setCells b ((l.length - n) * 7) (Builtin.zeroCells (gV zG).cells (l.length - (l.length - n))).toList) := fun ty => run_clearG W1 ty b _ _ _ (by omega) c1 a1' (by omega)
    have HF : Hid (DlP base (l.drop n) (.slice (some ⟨b, 0, none⟩) l.length cap) w (.returned (.slice (some ⟨b, 0, none⟩) (l.length - n) cap)) (W1.setCells b ((l.length - n) * 7) (Builtin.zeroCells (gV zG).cells (l.length - (l.length - n))).toList)) := by
      have hzl : ∀ k, (Builtin.zeroCells (gV zG).cells k).toList.length = k * 7 := fun k => by rw [Array.length_toList, size_zeroCells]; rfl
      obtain ⟨q1, q2⟩ := own_front (w := w.drew) (w1 := W1) (n := l.length - n) hb hgd hm hs (l := l.drop n) hld.symm (by omega) hW1 (o := (l.length - n) * 7) (vs := (Builtin.zeroCells (gV zG).cells (l.length - (l.length - n))).toList) (by omega) (by rw [hzl]; omega) rfl
      exact ⟨_, rfl, q1, rfl, ⟨q2.os, q2.tape, q2.output, q2.size, q2.block⟩⟩
    have hW : Hid (W1 = w.drew.setCells b (0 + 0 * 7) (gCells (l.drop n))) := hW1
    have n0 : ((0 : Int) == (n : Int)) = false := by simp; omega
    have i1 : (n : Int) ≤ (l.length : Int) := by omega
    have i2 : (l.length : Int) ≤ (cap : Int) := by omega
    have i3 : (0 : Int) ≤ (n : Int) := by omega
    have i4 : (n : Int) ≤ (cap : Int) := by omega
    have i5 : ¬ cap = l.length - n := by omega
    have i6 : (0 : Int) ≤ (cap : Int) := by omega
    have i7 : ((l.length - n : Nat) : Int) ≤ (l.length : Int) := by omega
    clear hcell a1 a1' a2 hld hW1 hgd ht hs hm hg h0
    go_enter Tryd.func31, Tryd.ntmps31
    go_wp2_with fail
    go_region_law (refine step_append_room rfl (.tmp 22) (.tmp 25) 50 rfl 38 i0 7 Tryd.underlying50 hi0 hz1 b 0 0 cap (by simp [Act.eval, Act.put]) A (l.length - n) (cap - n) (gCells (l.drop n)) (by simp [Act.eval, Act.put]) s1.out hsrc.out s2.out (by omega) s3.out ?_; rw [← hW.out])
    go_wp2
    go_ret
    exact HF.out
end Go.Proofs.YtnldibcfpbignaaDoor
