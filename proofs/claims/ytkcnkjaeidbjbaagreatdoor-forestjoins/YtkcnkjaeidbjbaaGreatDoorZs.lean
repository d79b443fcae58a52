/- forest.Find: its walk. -/
import Derived.Test.YtkcnkjaeidbjbaaGreatDoorFoE
import Derived.Test.YtkcnkjaeidbjbaaGreatDoorZq
import Derived.Laws.MakeOwn
import Derived.Laws.CopyOwn
import Derived.Laws.CopyRow
import Derived.Lib.AppendZeros
import Derived.Deep.WholeRow
import Derived.Test.YtkcnkjaeidbjbaaGreatDoorFoQ
import Derived.Test.YtkcnkjaeidbjbaaGreatDoorZf
namespace Go.Proofs.YtkcnkjaeidbjbaaGreatDoor
open Go.RowKit Go.ChangeMaps

/-- Rows of types are not too long to be copied. -/
def SmT (t : Ty) : Prop := t.own.length ≤ 1000 ∧ t.all.length ≤ 1000 ∧ t.ch.length ≤ 1000
def SmL (L : List LT) : Prop := ∀ x ∈ L, SmT x.t
/-- A copy of a type, where it lies. -/
theorem cp_lt {t : Ty} {w : World} {e : Ending} {w' : World} (h : CpT t w e w') : ∃ y : LT, e = .returned (ltV y) ∧ y.t = t ∧ IsTy w' y.t y.vo y.va y.vc ∧ NewT w.heap.size y ∧ Below w.heap.size w w' := by
  obtain ⟨vo, va, vc, rfl, ho, hb⟩ := h
  obtain ⟨x1, y1, rfl⟩ := ho.is.1.form
  obtain ⟨x2, y2, rfl⟩ := ho.is.2.1.form
  obtain ⟨x3, y3, rfl⟩ := ho.is.2.2.form
  exact ⟨⟨t, x1, y1, x2, y2, x3, y3⟩, rfl, rfl, ho.is, ⟨NewA.own ho.1, NewA.own ho.2.1, NewA.own ho.2.2⟩, hb⟩
def FnP (L : List LT) (s : ByteArray) (w : World) (e : Ending) (w' : World) : Prop := ∃ y : LT, e = .returned (.tuple #[ltV y, .bool (parN (tys L) s).isSome]) ∧ y.t = (parN (tys L) s).getD zT ∧ IsTy w' y.t y.vo y.va y.vc ∧ NewT w.heap.size y ∧ Below w.heap.size w w'
theorem parN_atL {L : List LT} {s : ByteArray} {k : Nat} (hk : k < L.length) (h1 : ∀ (j : Nat) (h : j < L.length), j < k → sameL L[j].t.n.data.toList s.data.toList = false) (h2 : sameL L[k].t.n.data.toList s.data.toList = true) : parN (tys L) s = some L[k].t := by
  unfold parN
  rw [List.find?_eq_some_iff_getElem]
  refine ⟨h2, k, by rw [tys_len]; exact hk, tys_at L k hk, fun j hj => ?_⟩
  rw [tys_at L j (by omega), h1 j (by omega) hj]
  rfl
theorem parN_noL {L : List LT} {s : ByteArray} (h1 : ∀ (j : Nat) (h : j < L.length), sameL L[j].t.n.data.toList s.data.toList = false) : parN (tys L) s = none := by
  unfold parN
  rw [List.find?_eq_none]
  intro x hx
  obtain ⟨j, hj, rfl⟩ := List.mem_iff_getElem.1 hx
  rw [tys_len] at hj
  rw [tys_at L j hj, h1 j hj]
  decide
set_option maxRecDepth 100000 in
set_option maxHeartbeats 4000000 in
theorem findT_any (v : Value) (L : List LT) (s : ByteArray) (w : World) (hr : IsTys w v L) (hl : L.length ≤ 1000000) (hn : ∀ x ∈ L, x.t.n.size ≤ 1000000) (hm : SmL L) (hs : s.size ≤ 1000000) (hU : UT w) :
    Calls Tryz.prog 28 #[v, .string s] w fun e w' => FnP L s w e w' := by
  obtain ⟨a0, cap0, rfl⟩ := hr.1.form
  obtain ⟨W0, hW0⟩ : ∃ W0, W0 = w.alloc (.cells zTyA 30) := ⟨_, rfl⟩
  have hA : Below w.heap.size w W0 := by rw [hW0]; exact al_b w _
  have hn1 : W0.heap[w.heap.size]? = some (.cells zTyA 30 (0, 0)) := by rw [hW0]; exact new_at w _
  have hz : W0.heap.size = w.heap.size + 1 := by rw [hW0]; simp
  have HZ : Hid (∀ W, Below W0.heap.size W0 W → BxT w.heap.size zT (.slice none 0 0) (.slice none 0 0) (.slice none 0 0) W) := fun W h => BxT.of ((h.block _ (by omega)).trans hn1)
  have HF1 : Hid (∀ W, Below W0.heap.size W0 W → ∀ j, W.frozen? ⟨w.heap.size, j, none⟩ = false) := fun W h j => Lib.frozen_of_heap ((h.block _ (by omega)).trans hn1) j
  have HBw : Hid (∀ W, Below W0.heap.size W0 W → Below w.heap.size w W) := fun W h => hA.trans (h.mono hA.size)
  have HR : Hid (∀ W, Below W0.heap.size W0 W → IsRow W 8 (.slice a0 L.length cap0) L.length (tCells L)) := fun W h => hr.1.below (HBw.out W h)
  have HS : Hid (∀ (k : Nat) (hk : k < L.length) W, Below W0.heap.size W0 W → Calls Tryz.prog 65 #[.string L[k].t.n, .string s] W fun e w' => e = .returned (.bool (sameL L[k].t.n.data.toList s.data.toList)) ∧ Below W.heap.size W w') := fun k hk W h => same_any _ _ W (hn _ (List.getElem_mem hk)) hs (Utf8Tabs_below hU (HBw.out W h))
  have HCp : Hid (∀ (k : Nat) (hk : k < L.length) W, Below W0.heap.size W0 W → Calls Tryz.prog 58 #[ltV L[k]] W fun e w' => CpT L[k].t W e w') := fun k hk W h => copied_any _ _ _ _ W ((hr.2 _ (List.getElem_mem hk)).below (HBw.out W h)) (hm _ (List.getElem_mem hk)).1 (hm _ (List.getElem_mem hk)).2.1 (hm _ (List.getElem_mem hk)).2.2
  have HSt : Hid (Below W0.heap.size W0 W0) := Below.refl _ _
  clear hr hn hm hU hA hn1
  go_enter Tryz.func28, Tryz.ntmps28
  go_wp2_with fail
  rw [← hW0]
  clear hW0
  go_loopw [5, 7, 10] (fun b _ i wr => b = .bool false ∧ ∃ k : Nat, k ≤ L.length ∧ i = .int .i64 (k : Int) ∧ Hid (∀ (j : Nat) (h : j < L.length), j < k → sameL L[j].t.n.data.toList s.data.toList = false) ∧ Hid (Below W0.heap.size W0 wr)) (fun _ _ i _ => L.length - (intOf i).toNat)
  case atStart => exact ⟨rfl, 0, Nat.zero_le _, rfl, (fun j h hj => absurd hj (Nat.not_lt_zero _)), HSt⟩
  case round =>
    obtain ⟨rfl, k, hk, rfl, HO, HB⟩ := hrel
    have hsz := HB.out.size
    by_cases hlk : k < L.length
    · have dk : decide ((k : Int) < L.length) = true := by simp; omega
      obtain ⟨b, off, rfl, hbl, -, hcap, hc⟩ := t_at (HR.out _ HB.out) (by omega)
      obtain ⟨⟨y0, y1, y2, y3⟩, y4, y5, y6, y7⟩ := hc k hlk
      have HS1 : Hid (∀ W, Below W0.heap.size W0 W → Calls Tryz.prog 65 #[.string L[k].t.n, .string s] W fun e w' => e = .returned (.bool (sameL L[k].t.n.data.toList s.data.toList)) ∧ Below W.heap.size W w') := fun W h => HS.out k hlk W h
      have HC1 : Hid (∀ W, Below W0.heap.size W0 W → Calls Tryz.prog 58 #[ltV L[k]] W fun e w' => CpT L[k].t W e w') := fun W h => HCp.out k hlk W h
      have HYes : Hid (sameL L[k].t.n.data.toList s.data.toList = true → parN (tys L) s = some L[k].t) := fun h => parN_atL hlk HO.out h
      have HO2 : Hid (sameL L[k].t.n.data.toList s.data.toList = false → ∀ (j : Nat) (h : j < L.length), j < k + 1 → sameL L[j].t.n.data.toList s.data.toList = false) := fun h0 j h hj => by
        by_cases e : j = k
        · subst e; exact h0
        · exact HO.out j h (by omega)
      obtain ⟨W1, hW1⟩ : ∃ W1, W1 = wr.alloc (.cells (tyA L[k].t L[k].vo L[k].va L[k].vc) 30) := ⟨_, rfl⟩
      have hA : Below wr.heap.size wr W1 := by rw [hW1]; exact al_b wr _
      have hnb : W1.heap[wr.heap.size]? = some (.cells (tyA L[k].t L[k].vo L[k].va L[k].vc) 30 (0, 0)) := by rw [hW1]; exact new_at wr _
      have hlt1 : wr.heap.size < W1.heap.size := (Array.getElem?_eq_some_iff.1 hnb).1
      have HX : Hid (∀ W, Below W1.heap.size W1 W → BxT wr.heap.size L[k].t L[k].vo L[k].va L[k].vc W) := fun W h => BxT.of ((h.block _ hlt1).trans hnb)
      have HT : Hid (∀ W, Below W1.heap.size W1 W → Below W0.heap.size W0 W) := fun W h => HB.out.trans ((hA.trans (h.mono hA.size)).mono hsz)
      have HT1 : Hid (Below W0.heap.size W0 W1) := HT.out _ (Below.refl _ _)
      clear hnb hA hc HO HR HS HCp
      generalize L[k]'hlk = x at *
      go_wp2_with fail
      rw [← hW1]
      clear hW1
      refine (HS1.out _ HT1.out).mono ?_
      rintro e w2 ⟨rfl, hb2⟩
      cases hsm : sameL x.t.n.data.toList s.data.toList
      · have HO3 : Hid (∀ (j : Nat) (h : j < L.length), j < k + 1 → sameL L[j].t.n.data.toList s.data.toList = false) := HO2.out hsm
        have HB2 : Hid (Below W0.heap.size W0 w2) := HT.out _ hb2
        clear hb2 HS1 HC1 HYes HO2 HX HT HT1 y0 y1 y2 y3 y4 y5 y6 y7 hsm
        go_wp2
        go_roundw
        case rel => exact ⟨rfl, k + 1, by omega, by simp, HO3, HB2⟩
        case measure => simp [intOf]; omega
      · have hpar := HYes.out hsm
        obtain ⟨⟨g0, g1, g2, g3⟩, g4, g5, g6, g7⟩ := HX.out _ hb2
        have HB2 : Hid (Below W0.heap.size W0 w2) := HT.out _ hb2
        have HCw : Hid (Calls Tryz.prog 58 #[ltV x] w2 fun e w' => CpT x.t w2 e w') := HC1.out _ HB2.out
        clear hb2 HS1 HC1 HYes HO2 HX HT HT1 y0 y1 y2 y3 y4 y5 y6 y7 hsm
        have HPa : Hid (parN (tys L) s = some x.t) := hpar
        clear hpar
        go_wp2_with fail
        refine HCw.out.mono ?_
        intro e w3 hcp
        obtain ⟨y, rfl, hyt, hyI, hyN, hb3⟩ := cp_lt hcp
        have hB3 : Below W0.heap.size W0 w3 := HB2.out.trans (hb3.mono HB2.out.size)
        obtain ⟨⟨e0, e1, e2, e3⟩, e4, e5, e6, e7⟩ := HZ.out _ hB3
        have f0 := HF1.out _ hB3
        have hlo : w.heap.size < w2.heap.size := by have := HB2.out.size; omega
        have HEnd : Hid (∀ u0 u1 u2 u3 u4 u5 u6 u7, FnP L s w (.returned (.tuple #[ltV y, .bool true])) ((((((((w3.setCell ⟨w.heap.size, 0, none⟩ u0).setCell ⟨w.heap.size, 1, none⟩ u1).setCell ⟨w.heap.size, 2, none⟩ u2).setCell ⟨w.heap.size, 3, none⟩ u3).setCell ⟨w.heap.size, 4, none⟩ u4).setCell ⟨w.heap.size, 5, none⟩ u5).setCell ⟨w.heap.size, 6, none⟩ u6).setCell ⟨w.heap.size, 7, none⟩ u7)) := fun u0 u1 u2 u3 u4 u5 u6 u7 => ⟨y, by rw [HPa.out]; rfl, by rw [HPa.out]; exact hyt, ty_far8 hyI hyN hlo _ _ _ _ _ _ _ _, hyN.le (Nat.le_of_lt hlo), below8 (HBw.out _ hB3) (Nat.le_refl _) _ _ _ _ _ _ _ _⟩
        clear hcp hyt hyI hyN hb3 hB3 HCw HB2 g0 g1 g2 g3 g4 g5 g6 g7 HZ HF1 HBw HPa HSt
        go_wp2_with fail
        try simp only [Exit.inBlock, Exit.then]
        refine bodyPost_ret (v := .tuple #[ltV y, .bool true]) ?_ rfl (HEnd.out _ _ _ _ _ _ _ _)
        rw [results_c2 rfl]; go_simp
        first | done | exact ⟨rfl, rfl, rfl, rfl, rfl⟩
    · have dk : decide ((k : Int) < L.length) = false := by simp; omega
      have HPa : Hid (parN (tys L) s = none) := parN_noL fun j h => HO.out j h (by omega)
      obtain ⟨⟨e0, e1, e2, e3⟩, e4, e5, e6, e7⟩ := HZ.out _ HB.out
      have f0 := HF1.out _ HB.out
      have HEnd : Hid (∀ u0 u1 u2 u3 u4 u5 u6 u7, FnP L s w (.returned (.tuple #[tyV zT (.slice none 0 0) (.slice none 0 0) (.slice none 0 0), .bool false])) ((((((((wr.setCell ⟨w.heap.size, 0, none⟩ u0).setCell ⟨w.heap.size, 1, none⟩ u1).setCell ⟨w.heap.size, 2, none⟩ u2).setCell ⟨w.heap.size, 3, none⟩ u3).setCell ⟨w.heap.size, 4, none⟩ u4).setCell ⟨w.heap.size, 5, none⟩ u5).setCell ⟨w.heap.size, 6, none⟩ u6).setCell ⟨w.heap.size, 7, none⟩ u7)) := fun u0 u1 u2 u3 u4 u5 u6 u7 => ⟨zLT, by rw [HPa.out]; rfl, by rw [HPa.out]; rfl, ty_zLT _, new_zLT _, below8 (HBw.out _ HB.out) (Nat.le_refl _) _ _ _ _ _ _ _ _⟩
      clear HO HR HS HCp HZ HF1 HBw HPa HSt
      go_wp2_with fail
      try simp only [Exit.inBlock, Exit.then]
      refine bodyPost_ret (v := .tuple #[tyV zT (.slice none 0 0) (.slice none 0 0) (.slice none 0 0), .bool false]) ?_ rfl (HEnd.out _ _ _ _ _ _ _ _)
      rw [results_c2 rfl]; go_simp
      first | done | exact ⟨rfl, rfl, rfl, rfl, rfl⟩
end Go.Proofs.YtkcnkjaeidbjbaaGreatDoor
/- forest.allCopied: its walk. -/
namespace Go.Proofs.YtkcnkjaeidbjbaaGreatDoor
open Go.RowKit Go.ChangeMaps

theorem info_ty : (Tryz.prog.info? 30).map (fun i => (i.zero, i.size, i.bytes)) = some (some (.agg zTyA), 8, 128) := by kernel_rfl
theorem row_setRow {w : World} {sz n m c g : Nat} {a : Option Addr} {xs : List Value} (h : IsRow w sz (.slice a m c) n xs) (hN : NewA (g + 1) a) (cs : Array Value) : IsRow (w.setRow g cs) sz (.slice a m c) n xs := by
  refine ⟨h.1, ?_⟩
  rcases h.2 with h0 | ⟨b, off, cap, hv, hlt, q1, q2, hc⟩
  · exact .inl h0
  · have hb : g + 1 ≤ b := by
      simp only [Value.slice.injEq] at hv
      exact hN _ hv.1
    refine .inr ⟨b, off, cap, hv, by simpa using hlt, q1, q2, fun k u hu => ?_⟩
    rw [cell_setRow_other w g cs ⟨b, off + k, none⟩ (by show b ≠ g; omega)]
    exact hc k u hu
theorem ty_setRow {w : World} {y : LT} {g : Nat} (h : IsTy w y.t y.vo y.va y.vc) (hN : NewT (g + 1) y) (cs : Array Value) : IsTy (w.setRow g cs) y.t y.vo y.va y.vc := ⟨row_setRow h.1 hN.1 cs, row_setRow h.2.1 hN.2.1 cs, row_setRow h.2.2 hN.2.2 cs⟩
theorem oneT_cell (y : LT) : ∀ u ∈ enT y, u.oneCell' = true := by
  intro u hu
  simp only [enT, List.mem_cons, List.not_mem_nil, or_false] at hu
  rcases hu with rfl | rfl | rfl | rfl | rfl | rfl | rfl | rfl <;> rfl
theorem oneTs_cell (M : List LT) : ∀ u ∈ tCells M, u.oneCell' = true := by
  intro u hu
  obtain ⟨y, -, hy⟩ := List.mem_flatMap.1 hu
  exact oneT_cell y u hy
theorem enT_tyA (y : LT) : tyA y.t y.vo y.va y.vc = (enT y).toArray := rfl
theorem cells_at {w : World} {g : Nat} {cur : Array Value} {ty : TypeId} (h : w.heap[g]? = some (.cells cur ty (0, 0))) (j : Nat) (u : Value) (hu : cur[j]? = some u) : w.cell? ((⟨g, 0, none⟩ : Addr).add j) = some u := by
  have hadd : (⟨g, 0, none⟩ : Addr).add j = ⟨g, j, none⟩ := by unfold Addr.add; split <;> simp_all
  rw [hadd, Lib.cell_of_heap h]
  exact hu
def AcP (L : List LT) (w : World) (e : Ending) (w' : World) : Prop := ∃ M, e = .returned (.slice (some ⟨w.heap.size, 0, none⟩) L.length L.length) ∧ tys M = tys L ∧ M.length = L.length ∧ w'.heap[w.heap.size]? = some (.cells (tCells M).toArray 30 (0, 0)) ∧ (∀ y ∈ M, IsTy w' y.t y.vo y.va y.vc ∧ NewT (w.heap.size + 1) y) ∧ Below w.heap.size w w'
/-- So many are copied. -/
def AcI (L : List LT) (w : World) (k : Nat) (wr : World) : Prop := ∃ (M : List LT) (cur : Array Value), tys M = (tys L).take k ∧ M.length = k ∧ wr.heap[w.heap.size]? = some (.cells cur 30 (0, 0)) ∧ cur.size = L.length * 8 ∧ cur.toList.take (k * 8) = tCells M ∧ ∀ y ∈ M, IsTy wr y.t y.vo y.va y.vc ∧ NewT (w.heap.size + 1) y
/-- What an append makes of it. -/
def acRow (cur : Array Value) (k : Nat) (y : LT) : Array Value := (cur.toList.take (k * 8) ++ enT y ++ cur.toList.drop (k * 8 + 8)).toArray
theorem AcI.step {L : List LT} {w wr W1 w2 : World} {k : Nat} {cur : Array Value} {M : List LT} {y : LT} (hk : k < L.length) (h1 : tys M = (tys L).take k) (h2 : M.length = k) (h3 : wr.heap[w.heap.size]? = some (.cells cur 30 (0, 0))) (hs : cur.size = L.length * 8) (ht : cur.toList.take (k * 8) = tCells M) (h4 : ∀ y ∈ M, IsTy wr y.t y.vo y.va y.vc ∧ NewT (w.heap.size + 1) y)
    (hB : Below w.heap.size w wr) (hW : Below wr.heap.size wr W1) (hy : y.t = L[k].t) (hyI : IsTy w2 y.t y.vo y.va y.vc) (hyN : NewT W1.heap.size y) (hb2 : Below W1.heap.size W1 w2) :
    (∀ ty, (Builtin.append_ #[22, 22] ty #[.slice (some ⟨w.heap.size, 0, none⟩) k L.length, .slice (some ⟨w2.heap.size, 0, none⟩) 1 1]).run Tryz.prog (w2.alloc (.cells (tyA y.t y.vo y.va y.vc) 30)) = .ok (.slice (some ⟨w.heap.size, 0, none⟩) (k + 1) L.length) ((w2.alloc (.cells (tyA y.t y.vo y.va y.vc) 30)).setRow w.heap.size (acRow cur k y))) ∧
    AcI L w (k + 1) ((w2.alloc (.cells (tyA y.t y.vo y.va y.vc) 30)).setRow w.heap.size (acRow cur k y)) ∧ Below w.heap.size w ((w2.alloc (.cells (tyA y.t y.vo y.va y.vc) 30)).setRow w.heap.size (acRow cur k y)) := by
  obtain ⟨i0, hi0, hz0, hz1, hz2⟩ := info_parts info_ty
  have hs1 := hB.size
  have hs2 := hW.size
  have hs3 := hb2.size
  have hlt : w.heap.size < wr.heap.size := (Array.getElem?_eq_some_iff.1 h3).1
  have hal := al_b w2 (.cells (tyA y.t y.vo y.va y.vc) 30)
  have hfar : Below wr.heap.size wr (w2.alloc (.cells (tyA y.t y.vo y.va y.vc) 30)) := (hW.trans (hb2.mono hs2)).trans (hal.mono (by omega))
  have hg : (w2.alloc (.cells (tyA y.t y.vo y.va y.vc) 30)).heap[w.heap.size]? = some (.cells cur 30 (0, 0)) := (hfar.block _ hlt).trans h3
  have hn : (w2.alloc (.cells (tyA y.t y.vo y.va y.vc) 30)).heap[w2.heap.size]? = some (.cells (tyA y.t y.vo y.va y.vc) 30 (0, 0)) := new_at w2 _
  have hyN' : NewT (w.heap.size + 1) y := hyN.le (by omega)
  refine ⟨fun ty => ?_, ⟨M ++ [y], acRow cur k y, ?_, by simp [h2], setRow_heap _ _ _ _ _ _ hg, ?_, ?_, ?_⟩, below_setRow (hB.trans (hfar.mono hs1)) (Nat.le_refl _) _⟩
  · have := run_append_room (P := Tryz.prog) (w2.alloc (.cells (tyA y.t y.vo y.va y.vc) 30)) 22 ty 30 i0 Tryz.underlying22 hi0 w.heap.size k L.length cur hg ⟨w2.heap.size, 0, none⟩ 1 1 (enT y) (by rw [hz1]; rfl) (fun j u hu => cells_at hn j u (by rw [enT_tyA]; simpa using hu)) (oneT_cell y) (by omega) (by rw [hz1, hs]; show k * 8 + 8 ≤ _; omega)
    rw [hz1] at this
    exact this
  · have e1 : tys (M ++ [y]) = tys M ++ [y.t] := by simp [tys]
    rw [e1, h1, hy, ← tys_at L k hk, List.take_append_getElem]
  · unfold acRow
    rw [List.size_toArray, List.length_append, List.length_append, List.length_take, List.length_drop, Array.length_toList, hs]
    show min (k * 8) (L.length * 8) + 8 + _ = _
    omega
  · unfold acRow
    have hl : (cur.toList.take (k * 8) ++ enT y).length = (k + 1) * 8 := by
      rw [List.length_append, List.length_take, Array.length_toList, hs]
      show min (k * 8) (L.length * 8) + 8 = _
      omega
    rw [← hl, List.take_left, ht, tCells_app]
    congr 1
  · intro z hz
    rcases List.mem_append.1 hz with hz | hz
    · obtain ⟨z1, z2⟩ := h4 z hz
      exact ⟨ty_setRow (z1.below hfar) z2 _, z2⟩
    · obtain rfl := List.mem_singleton.1 hz
      exact ⟨ty_setRow (hyI.below hal) hyN' _, hyN'⟩
set_option maxRecDepth 100000 in
set_option maxHeartbeats 4000000 in
theorem allCopied_any (v : Value) (L : List LT) (w : World) (hr : IsTys w v L) (hl : L.length ≤ 1000) (hm : SmL L) :
    Calls Tryz.prog 57 #[v] w fun e w' => AcP L w e w' := by
  obtain ⟨a0, cap0, rfl⟩ := hr.1.form
  obtain ⟨i0, hi0, hz0, hz1, hz2⟩ := info_parts info_ty
  obtain ⟨wm, hmk, hgm, hbm⟩ : ∃ wm, (Instr.makeSlice 22 (.int .i64 0) (.int .i64 (L.length : Int))).run Tryz.prog w = .ok (.slice (some ⟨w.heap.size, 0, none⟩) 0 L.length) wm ∧ wm.heap[w.heap.size]? = some (.cells (madeCells zTyA (L.length * 8)) 30 (0, 0)) ∧ Below w.heap.size w wm := by
    have hrun := run_make (P := Tryz.prog) w 22 30 i0 _ Tryz.underlying22 hi0 hz0 .i64 .i64 0 (L.length : Int) (Int.le_refl _) (by omega) (by rw [hz2]; omega) (by omega)
    rw [hz1] at hrun
    exact ⟨_, hrun, new_at w _, al_b w _⟩
  have HSt : Hid (AcI L w 0 wm) := ⟨[], _, by simp [tys], rfl, hgm, size_madeCells _ _, by simp [tCells], fun y hy => nomatch hy⟩
  have HB0 : Hid (Below w.heap.size w wm) := hbm
  have HR : Hid (∀ W, Below w.heap.size w W → IsRow W 8 (.slice a0 L.length cap0) L.length (tCells L)) := fun W h => hr.1.below h
  have HCp : Hid (∀ (k : Nat) (hk : k < L.length) W, Below w.heap.size w W → Calls Tryz.prog 58 #[ltV L[k]] W fun e w' => CpT L[k].t W e w') := fun k hk W h => copied_any _ _ _ _ W ((hr.2 _ (List.getElem_mem hk)).below h) (hm _ (List.getElem_mem hk)).1 (hm _ (List.getElem_mem hk)).2.1 (hm _ (List.getElem_mem hk)).2.2
  clear hr hm hgm hbm hi0 hz0 hz1 hz2
  go_enter Tryz.func57, Tryz.ntmps57
  go_wp2_with fail
  clear hmk
  go_loopw [3, 5, 11] (fun o _ i wr => ∃ k : Nat, k ≤ L.length ∧ i = .int .i64 (k : Int) ∧ o = .slice (some ⟨w.heap.size, 0, none⟩) k L.length ∧ Hid (AcI L w k wr) ∧ Hid (Below w.heap.size w wr)) (fun _ _ i _ => L.length - (intOf i).toNat)
  case atStart => exact ⟨0, Nat.zero_le _, rfl, rfl, HSt, HB0⟩
  case round =>
    clear HSt HB0
    obtain ⟨k, hk, rfl, rfl, HI, HB⟩ := hrel
    have hsz := HB.out.size
    by_cases hlk : k < L.length
    · have dk : decide ((k : Int) < L.length) = true := by simp; omega
      obtain ⟨b, off, rfl, hbl, -, hcap, hc⟩ := t_at (HR.out _ HB.out) (by omega)
      obtain ⟨⟨y0, y1, y2, y3⟩, y4, y5, y6, y7⟩ := hc k hlk
      obtain ⟨M, cur, m1, m2, m3, m4, m5, m6⟩ := HI.out
      obtain ⟨W1, hW1⟩ : ∃ W1, W1 = wr.alloc (.cells (tyA L[k].t L[k].vo L[k].va L[k].vc) 30) := ⟨_, rfl⟩
      have hA : Below wr.heap.size wr W1 := by rw [hW1]; exact al_b wr _
      have HC1 : Hid (Calls Tryz.prog 58 #[ltV L[k]] W1 fun e w' => CpT L[k].t W1 e w') := HCp.out k hlk W1 (HB.out.trans (hA.mono hsz))
      have HSp : Hid (∀ (y : LT) (w2 : World), y.t = L[k].t → IsTy w2 y.t y.vo y.va y.vc → NewT W1.heap.size y → Below W1.heap.size W1 w2 → (∀ ty, (Builtin.append_ #[22, 22] ty #[.slice (some ⟨w.heap.size, 0, none⟩) k L.length, .slice (some ⟨w2.heap.size, 0, none⟩) 1 1]).run Tryz.prog (w2.alloc (.cells (tyA y.t y.vo y.va y.vc) 30)) = .ok (.slice (some ⟨w.heap.size, 0, none⟩) (k + 1) L.length) ((w2.alloc (.cells (tyA y.t y.vo y.va y.vc) 30)).setRow w.heap.size (acRow cur k y))) ∧ AcI L w (k + 1) ((w2.alloc (.cells (tyA y.t y.vo y.va y.vc) 30)).setRow w.heap.size (acRow cur k y)) ∧ Below w.heap.size w ((w2.alloc (.cells (tyA y.t y.vo y.va y.vc) 30)).setRow w.heap.size (acRow cur k y))) := fun y w2 p1 p2 p3 p4 => AcI.step hlk m1 m2 m3 m4 m5 m6 HB.out hA p1 p2 p3 p4
      generalize L[k]'hlk = x at *
      clear hc HCp HR HI m1 m2 m3 m4 m5 m6 hA
      go_wp2_with fail
      rw [← hW1]
      clear hW1
      refine HC1.out.mono ?_
      intro e w2 hcp
      obtain ⟨y, rfl, hyt, hyI, hyN, hb2⟩ := cp_lt hcp
      obtain ⟨hrun, hI5, hB5⟩ := HSp.out y w2 hyt hyI hyN hb2
      have HRun : Hid (∀ ty, (Builtin.append_ #[22, 22] ty #[.slice (some ⟨w.heap.size, 0, none⟩) k L.length, .slice (some ⟨w2.heap.size, 0, none⟩) 1 1]).run Tryz.prog (w2.alloc (.cells (tyA y.t y.vo y.va y.vc) 30)) = .ok (.slice (some ⟨w.heap.size, 0, none⟩) (k + 1) L.length) ((w2.alloc (.cells (tyA y.t y.vo y.va y.vc) 30)).setRow w.heap.size (acRow cur k y))) := hrun
      have HI5 : Hid (AcI L w (k + 1) ((w2.alloc (.cells (tyA y.t y.vo y.va y.vc) 30)).setRow w.heap.size (acRow cur k y))) := hI5
      have HB5 : Hid (Below w.heap.size w ((w2.alloc (.cells (tyA y.t y.vo y.va y.vc) 30)).setRow w.heap.size (acRow cur k y))) := hB5
      clear hcp hyt hyI hyN hb2 HSp HC1 y0 y1 y2 y3 y4 y5 y6 y7 hrun hI5 hB5
      obtain ⟨Wq, hWq⟩ : ∃ Wq, Wq = (w2.alloc (.cells (tyA y.t y.vo y.va y.vc) 30)).setRow w.heap.size (acRow cur k y) := ⟨_, rfl⟩
      rw [← hWq] at HRun HI5 HB5
      clear hWq
      go_wp2_with (at_builtin; go_loud (refine Lib.wpList_append_run _ rfl (.tmp 15) (.tmp 18) _ _ rfl _ _ rfl rfl _ _ (HRun.out _) ?_))
      go_wp2
      go_roundw
      case rel => exact ⟨k + 1, by omega, by simp, rfl, HI5, HB5⟩
      case measure => simp [intOf]; omega
    · have dk : decide ((k : Int) < L.length) = false := by simp; omega
      have hk' : k = L.length := by omega
      obtain ⟨M, cur, m1, m2, m3, m4, m5, m6⟩ := HI.out
      have HEnd : Hid (AcP L w (.returned (.slice (some ⟨w.heap.size, 0, none⟩) k L.length)) wr) := by
        refine ⟨M, by rw [hk'], by rw [m1, List.take_of_length_le (by rw [tys_len]; omega)], by omega, ?_, m6, HB.out⟩
        rw [m3, ← m5, List.take_of_length_le (by rw [Array.length_toList, m4]; omega)]
      clear m1 m2 m3 m4 m5 m6 HI HR HCp hk'
      go_wp2
      go_ret
      exact HEnd.out
end Go.Proofs.YtkcnkjaeidbjbaaGreatDoor
/- slices.Insert of one type into a row without room: its walk. -/
namespace Go.Proofs.YtkcnkjaeidbjbaaGreatDoor
open Go.RowKit Go.ChangeMaps

/-- append(s, make([]T, n)...), where there is no room. -/
theorem run_app_zeros {P : Program} (w : World) (t tn ty e : TypeId) (i : TypeInfo) (z : Value) (k kn : IntKind) (ht : P.underlying t = some (.slice e)) (htn : P.underlying tn = some (.int kn)) (hi : P.info? e = some i) (hz : i.zero = some z)
    (b : Addr) (sLen sCap : Nat) (olds : List Value) (hlo : olds.length = sLen * i.size) (holds : ∀ j v, olds[j]? = some v → w.cell? (b.add j) = some v)
    (n : Nat) (h0 : 0 < n) (hs : 0 < i.size) (hg : sCap < sLen + n) (h63 : ((sLen + n : Nat) : Int) ≤ 9223372036854775807) (hfit : Builtin.nextslicecap (sLen + n) sCap * i.bytes ≤ 281474976710656) (h48 : n * i.bytes ≤ 281474976710656) :
    (Builtin.append_ #[t, tn] ty #[.slice (some b) sLen sCap, .int k n]).run P w =
      .ok (.slice (some ⟨w.heap.size, 0, none⟩) (sLen + n) (grownCap w (sLen + n) sCap e)) (w.drew.alloc (.cells (olds.toArray ++ Builtin.zeroCells z.cells n ++ Builtin.zeroCells z.cells (grownCap w (sLen + n) sCap e - (sLen + n))) e)) := by
  have hn : n ≠ 0 := by omega
  have hw : IntKind.i64.wrap (n : Int) = n := by rw [IntKind.wrap_i64]; omega
  have h63' : ¬ (9223372036854775807 < ((sLen : Int) + (n : Int))) := by omega
  have h48' : ¬ (281474976710656 < Builtin.nextslicecap (sLen + n) sCap * i.bytes) := by omega
  have hnr : ¬ (sLen + n ≤ sCap) := by omega
  have h48i : ¬ (281474976710656 < (n : Int) * (i.bytes : Int)) := by
    rw [← Int.natCast_mul]
    omega
  have hneg : ¬ ((n : Int) < 0) := by omega
  have hns : ¬ (n * i.size = 0) := Nat.mul_ne_zero hn (by omega)
  have hfo := run_firstCells_some (P := P) w.drew i.size sLen b sLen sCap olds hlo (by simpa using holds)
  simp [Builtin.append_, run_underlying ht, run_underlying htn, sizeOf, typeInfo, zeroValue, hi, hz, asInt, asIntOf, hw, hneg, hns, h63', h48', h48i, hnr, Question.forced, Builtin.lenOf, hfo, newRow, grownCap]
/-- copy of elements of any size. -/
theorem run_copyN {P : Program} (w : World) (dT sT ty elem : TypeId) (g o dLen dCap : Nat) (a : Addr) (sLen sCap : Nat) (cur : Array Value) (t : TypeId) (cs : List Value) (sz : Nat) (i : TypeInfo)
    (hu : P.underlying dT = some (.slice elem)) (hq : P.info? elem = some i) (hsz : i.size = sz)
    (hg : w.heap[g]? = some (.cells cur t (0, 0))) (hn : cs.length = Nat.min sLen dLen * sz)
    (hsrc : ∀ j v, cs[j]? = some v → w.cell? (a.add j) = some v) (hfit : o + cs.length ≤ cur.size) (h1 : ∀ v ∈ cs, v.oneCell' = true) :
    (Builtin.copy_ #[dT, sT] ty #[.slice (some ⟨g, o, none⟩) dLen dCap, .slice (some a) sLen sCap]).run P w =
      .ok (goInt (Nat.min sLen dLen)) (w.setRow g (cur.toList.take o ++ cs ++ cur.toList.drop (o + cs.length)).toArray) := by
  have hl := run_loadCells_list (P := P) w a cs hsrc
  have hst := run_storeCells_at P g o t cs 0 cur w hg (by simpa using hfit) h1
  simp [Builtin.copy_, run_underlying hu, Builtin.lenOf, Builtin.firstCells, sizeOf, typeInfo, hq, hsz, ← hn, hl, hst]
/-- A copy whose run is known as an equation. -/
theorem wpl_copy_run {P : Program} (w : World) {ops : Array Oper} {rest : List Oper} {o : Oper} {a : Act} {Q : Exit → Act → World → Prop} (hgd : o.guard = none) (s x : Operand) (t tn : TypeId)
    (ho : o.op = .call { callee := .builtin .copy, args := #[s, x], argTypes := #[t, tn] }) (vs vx : Value) (hs : a.eval s = vs) (hx : a.eval x = vx)
    (v' : Value) (w' : World) (hr : (Builtin.copy_ #[t, tn] o.type #[vs, vx]).run P w = .ok v' w') (h : wpList P ops Q rest (a.put o.dst v') w') : wpList P ops Q (o :: rest) a w :=
  wpList_plain hgd fun _ hK => by
    unfold Oper.wp execOp
    simp only [ho, resolve, invoke, builtin, Sem.run_bind, Sem.run_pure, Result.andThen_ok, List.map_toArray, List.map_cons, List.map_nil, hs, hx, hr]
    exact hK _ _ h
def insL (M : List LT) (i : Nat) (y : LT) : List LT := M.take i ++ y :: M.drop i
theorem tys_insL (M : List LT) (i : Nat) (y : LT) : tys (insL M i y) = insT (tys M) i y.t := by simp [tys, insL, insT]
def InP (M : List LT) (i : Nat) (y : LT) (w : World) (e : Ending) (w' : World) : Prop := ∃ c, e = .returned (.slice (some ⟨w.heap.size, 0, none⟩) (M.length + 1) c) ∧ IsRow w' 8 (.slice (some ⟨w.heap.size, 0, none⟩) (M.length + 1) c) (M.length + 1) (tCells (insL M i y)) ∧ Below w.heap.size w w'
theorem tCells_take (M : List LT) (i : Nat) (hi : i ≤ M.length) : (tCells M).take (i * 8) = tCells (M.take i) := by
  have e : tCells M = tCells (M.take i) ++ tCells (M.drop i) := by rw [← tCells_app, List.take_append_drop]
  have e2 : i * 8 = (tCells (M.take i)).length := by rw [tCells_len, List.length_take]; omega
  rw [e, e2]; exact List.take_left
theorem tCells_drop (M : List LT) (i : Nat) (hi : i ≤ M.length) : (tCells M).drop (i * 8) = tCells (M.drop i) := by
  have e : tCells M = tCells (M.take i) ++ tCells (M.drop i) := by rw [← tCells_app, List.take_append_drop]
  have e2 : i * 8 = (tCells (M.take i)).length := by rw [tCells_len, List.length_take]; omega
  rw [e, e2]; exact List.drop_left
theorem row_of_heap {w : World} {g n cap sz : Nat} {cur : Array Value} {ty : TypeId} {xs : List Value} (h : w.heap[g]? = some (.cells cur ty (0, 0))) (hx : xs.length = n * sz) (hp : cur.toList.take xs.length = xs) (h1 : n ≤ cap) (h2 : cap ≤ maxLen) : IsRow w sz (.slice (some ⟨g, 0, none⟩) n cap) n xs := by
  refine ⟨hx, .inr ⟨g, 0, cap, rfl, (Array.getElem?_eq_some_iff.1 h).1, h1, h2, fun j u hu => ?_⟩⟩
  rw [Nat.zero_add, Lib.cell_of_heap h]
  have hj : j < xs.length := by
    rcases Nat.lt_or_ge j xs.length with h | h
    · exact h
    · rw [List.getElem?_eq_none h] at hu; cases hu
  rw [← hp, List.getElem?_take_of_lt hj] at hu
  simpa using hu
theorem insL_cells (M : List LT) (i : Nat) (y : LT) : tCells (insL M i y) = tCells (M.take i) ++ enT y ++ tCells (M.drop i) := by
  unfold insL
  rw [tCells_app, List.append_assoc]
  congr 1
theorem insL_len (M : List LT) (i : Nat) (y : LT) : (tCells (insL M i y)).length = (M.length + 1) * 8 := by
  rw [tCells_len]
  unfold insL
  rw [List.length_append, List.length_cons, List.length_take, List.length_drop]
  omega
theorem cells_from {w : World} {g o : Nat} {cur : Array Value} {ty : TypeId} (h : w.heap[g]? = some (.cells cur ty (0, 0))) (j : Nat) (u : Value) (hu : cur[o + j]? = some u) : w.cell? ((⟨g, o, none⟩ : Addr).add j) = some u := by
  have hadd : (⟨g, o, none⟩ : Addr).add j = ⟨g, o + j, none⟩ := by unfold Addr.add; split <;> simp_all
  rw [hadd, Lib.cell_of_heap h]
  exact hu
/-- What the grown row holds, behind each step. -/
theorem ins_math (M : List LT) (i : Nat) (y : LT) (zs : List Value) (hi : i < M.length) (hz : (M.length + 1 - i) * 8 ≤ zs.length) :
    ((tCells (M.take i) ++ zs).take (i * 8) ++ enT y ++ (tCells (M.take i) ++ zs).drop (i * 8 + (enT y).length)).length = i * 8 + zs.length ∧
    (((tCells (M.take i) ++ zs).take (i * 8) ++ enT y ++ (tCells (M.take i) ++ zs).drop (i * 8 + (enT y).length)).take ((i + 1) * 8) ++ tCells (M.drop i) ++ ((tCells (M.take i) ++ zs).take (i * 8) ++ enT y ++ (tCells (M.take i) ++ zs).drop (i * 8 + (enT y).length)).drop ((i + 1) * 8 + (tCells (M.drop i)).length)).take (tCells (insL M i y)).length = tCells (insL M i y) := by
  have l1 : (tCells (M.take i)).length = i * 8 := by rw [tCells_len, List.length_take]; omega
  have l2 : (enT y).length = 8 := rfl
  have l3 : (tCells (M.drop i)).length = (M.length - i) * 8 := by rw [tCells_len, List.length_drop]
  have e1 : (tCells (M.take i) ++ zs).take (i * 8) = tCells (M.take i) := by rw [← l1]; exact List.take_left
  rw [e1]
  constructor
  · rw [List.length_append, List.length_append, List.length_drop, List.length_append, l1, l2]
    omega
  · have e2 : (tCells (M.take i) ++ enT y ++ (tCells (M.take i) ++ zs).drop (i * 8 + (enT y).length)).take ((i + 1) * 8) = tCells (M.take i) ++ enT y := by
      have : (i + 1) * 8 = (tCells (M.take i) ++ enT y).length := by rw [List.length_append, l1, l2]; omega
      rw [this]; exact List.take_left
    rw [e2, insL_cells]
    exact List.take_left
set_option maxRecDepth 100000 in
set_option maxHeartbeats 4000000 in
theorem insert_any (g b : Nat) (M : List LT) (i : Nat) (y : LT) (w : World) (hg : w.heap[g]? = some (.cells (tCells M).toArray 30 (0, 0))) (hb : w.heap[b]? = some (.cells (tyA y.t y.vo y.va y.vc) 30 (0, 0))) (hi : i ≤ M.length) (hl : M.length ≤ 1000) :
    Calls Tryz.prog 56 #[.slice (some ⟨g, 0, none⟩) M.length M.length, .int .i64 (i : Int), .slice (some ⟨b, 0, none⟩) 1 1] w fun e w' => InP M i y w e w' := by
  obtain ⟨i0, hi0, hz0, hz1, hz2⟩ := info_parts info_ty
  have q1 : (0 : Int) ≤ (i : Int) := by omega
  have q2 : (i : Int) ≤ (M.length : Int) := by omega
  have hgl : g < w.heap.size := (Array.getElem?_eq_some_iff.1 hg).1
  have hbl : b < w.heap.size := (Array.getElem?_eq_some_iff.1 hb).1
  have hsrcY : ∀ (W : World), W.heap[b]? = some (.cells (tyA y.t y.vo y.va y.vc) 30 (0, 0)) → ∀ j u, (enT y)[j]? = some u → W.cell? ((⟨b, 0, none⟩ : Addr).add j) = some u := fun W h j u hu => cells_at h j u (by rw [enT_tyA]; simpa using hu)
  by_cases hin : i = M.length
  · have hG := grownCap_ge w (M.length + 1) M.length 30
    have hG2 := grownCap_le_maxLen w (M.length + 1) M.length 30 (by unfold maxLen; omega)
    have hA := fun ty => run_append_grow (P := Tryz.prog) w 22 ty 30 i0 _ Tryz.underlying22 hi0 hz0 ⟨g, 0, none⟩ M.length M.length (tCells M) (by rw [hz1, tCells_len]) (fun j u hu => cells_at hg j u (by simpa using hu)) ⟨b, 0, none⟩ 1 1 (enT y) (by rw [hz1]; rfl) (hsrcY w hb) (by omega) (by omega) (growslice_fits (by omega) (by rw [hz2]; omega))
    generalize grownCap w (M.length + 1) M.length 30 = G at *
    obtain ⟨W1, hW1⟩ : ∃ W1, W1 = w.drew.alloc (.cells ((tCells M).toArray ++ (enT y).toArray ++ Builtin.zeroCells (Value.agg zTyA).cells (G - (M.length + 1))) 30) := ⟨_, rfl⟩
    have HEnd : Hid (InP M i y w (.returned (.slice (some ⟨w.heap.size, 0, none⟩) (M.length + 1) G)) W1) := by
      have hn : W1.heap[w.heap.size]? = some (.cells ((tCells M).toArray ++ (enT y).toArray ++ Builtin.zeroCells (Value.agg zTyA).cells (G - (M.length + 1))) 30 (0, 0)) := by rw [hW1]; exact new_at w.drew _
      refine ⟨G, rfl, row_of_heap hn (insL_len M i y) ?_ (by omega) hG2, ?_⟩
      · rw [insL_cells, hin, List.take_of_length_le (Nat.le_refl _), List.drop_of_length_le (Nat.le_refl _)]
        have : tCells [] = [] := rfl
        rw [this, List.append_nil]
        have e : ((tCells M).toArray ++ (enT y).toArray ++ Builtin.zeroCells (Value.agg zTyA).cells (G - (M.length + 1))).toList = (tCells M ++ enT y) ++ (Builtin.zeroCells (Value.agg zTyA).cells (G - (M.length + 1))).toList := by simp
        rw [e]
        exact List.take_left
      · rw [hW1]
        exact ((Below.refl _ _).drew).alloc (Nat.le_refl _) _
    rw [← hW1] at hA
    have HA : Hid (∀ ty, (Builtin.append_ #[22, 22] ty #[.slice (some ⟨g, 0, none⟩) M.length M.length, .slice (some ⟨b, 0, none⟩) 1 1]).run Tryz.prog w = .ok (.slice (some ⟨w.heap.size, 0, none⟩) (M.length + 1) G) W1) := hA
    have dn : ((i : Int) == (M.length : Int)) = true := by rw [hin]; simp
    clear hA hW1 hsrcY hg hb hi0 hz0 hz1 hz2 hG hG2
    subst hin
    go_enter Tryz.func56, Tryz.ntmps56
    go_wp2_with (at_builtin; go_loud (refine Lib.wpList_append_run _ rfl (.tmp 23) (.tmp 24) _ _ rfl _ _ rfl rfl _ _ (HA.out _) ?_))
    go_wp2
    go_ret
    exact HEnd.out
  · have hlt : i < M.length := by omega
    have hG := grownCap_ge w (M.length + 1) M.length 30
    have hG2 := grownCap_le_maxLen w (M.length + 1) M.length 30 (by unfold maxLen; omega)
    have hZ : ∀ ty, (Builtin.append_ #[22, 3] ty #[.slice (some ⟨g, 0, none⟩) i M.length, .int .i64 ((M.length : Int) + 1 - (i : Int))]).run Tryz.prog w = .ok (.slice (some ⟨w.heap.size, 0, none⟩) (M.length + 1) (grownCap w (M.length + 1) M.length 30)) (w.drew.alloc (.cells ((tCells (M.take i)).toArray ++ Builtin.zeroCells (Value.agg zTyA).cells (M.length + 1 - i) ++ Builtin.zeroCells (Value.agg zTyA).cells (grownCap w (M.length + 1) M.length 30 - (M.length + 1))) 30)) := fun ty => by
      have := run_app_zeros (P := Tryz.prog) w 22 3 ty 30 i0 _ .i64 .i64 Tryz.underlying22 Tryz.underlying3 hi0 hz0 ⟨g, 0, none⟩ i M.length (tCells (M.take i)) (by rw [hz1, tCells_len, List.length_take]; omega) (fun j u hu => cells_at hg j u (by
        have hj : j < (tCells (M.take i)).length := by
          rcases Nat.lt_or_ge j (tCells (M.take i)).length with h | h
          · exact h
          · rw [List.getElem?_eq_none h] at hu; cases hu
        rw [← tCells_take M i hi] at hu hj
        rw [List.length_take] at hj
        rw [List.getElem?_take_of_lt (by omega)] at hu
        simpa using hu)) (M.length + 1 - i) (by omega) (by rw [hz1]; omega) (by omega) (by omega) (growslice_fits (by omega) (by rw [hz2]; omega)) (by rw [hz2]; omega)
      rw [show i + (M.length + 1 - i) = M.length + 1 by omega] at this
      rw [show ((M.length + 1 - i : Nat) : Int) = (M.length : Int) + 1 - (i : Int) by omega] at this
      exact this
    generalize grownCap w (M.length + 1) M.length 30 = G at *
    have hzs : ∀ k, (Builtin.zeroCells (Value.agg zTyA).cells k).toList.length = k * 8 := fun k => by rw [Array.length_toList, zc_size]; rfl
    obtain ⟨zs, hzsd⟩ : ∃ zs, zs = (Builtin.zeroCells (Value.agg zTyA).cells (M.length + 1 - i)).toList ++ (Builtin.zeroCells (Value.agg zTyA).cells (G - (M.length + 1))).toList := ⟨_, rfl⟩
    have hzl : zs.length = (G - i) * 8 := by rw [hzsd, List.length_append, hzs, hzs]; omega
    obtain ⟨A1, hA1⟩ : ∃ A1, A1 = (tCells (M.take i)).toArray ++ Builtin.zeroCells (Value.agg zTyA).cells (M.length + 1 - i) ++ Builtin.zeroCells (Value.agg zTyA).cells (G - (M.length + 1)) := ⟨_, rfl⟩
    have hA1l : A1.toList = tCells (M.take i) ++ zs := by rw [hA1, hzsd]; simp
    rw [← hA1] at hZ
    obtain ⟨W1, hW1⟩ : ∃ W1, W1 = w.drew.alloc (.cells A1 30) := ⟨_, rfl⟩
    have hb1 : Below w.heap.size w W1 := by rw [hW1]; exact ((Below.refl _ _).drew).alloc (Nat.le_refl _) _
    have hn1 : W1.heap[w.heap.size]? = some (.cells A1 30 (0, 0)) := by rw [hW1]; exact new_at w.drew _
    rw [← hW1] at hZ
    clear hW1 hA1 hzsd hzs
    have l1 : (tCells (M.take i)).length = i * 8 := by rw [tCells_len, List.length_take]; omega
    have hA1s : A1.size = i * 8 + zs.length := by rw [← Array.length_toList, hA1l, List.length_append, l1]
    have hmA : Nat.min 1 (M.length + 1 - i) = 1 := Nat.min_eq_left (by omega)
    have hmB : Nat.min (M.length - i) (M.length - i) = M.length - i := Nat.min_self _
    obtain ⟨m1, m2⟩ := ins_math M i y zs hlt (by rw [hzl]; omega)
    have hC1 : ∀ ty, (Builtin.copy_ #[22, 22] ty #[.slice (some ⟨w.heap.size, i * 8, none⟩) (M.length + 1 - i) (G - i), .slice (some ⟨b, 0, none⟩) 1 1]).run Tryz.prog W1 = .ok (goInt (Nat.min 1 (M.length + 1 - i))) (W1.setRow w.heap.size (A1.toList.take (i * 8) ++ enT y ++ A1.toList.drop (i * 8 + (enT y).length)).toArray) := fun ty =>
      run_copyN (P := Tryz.prog) W1 22 22 ty 30 w.heap.size (i * 8) (M.length + 1 - i) (G - i) ⟨b, 0, none⟩ 1 1 A1 30 (enT y) 8 i0 Tryz.underlying22 hi0 hz1 hn1 (by rw [hmA]; rfl) (hsrcY W1 ((hb1.block _ hbl).trans hb)) (by rw [hA1s, hzl]; show i * 8 + 8 ≤ _; omega) (oneT_cell y)
    rw [hA1l] at hC1
    generalize hA2 : (tCells (M.take i) ++ zs).take (i * 8) ++ enT y ++ (tCells (M.take i) ++ zs).drop (i * 8 + (enT y).length) = A2 at *
    obtain ⟨W2, hW2⟩ : ∃ W2, W2 = W1.setRow w.heap.size A2.toArray := ⟨_, rfl⟩
    have hb2 : Below w.heap.size w W2 := by rw [hW2]; exact below_setRow hb1 (Nat.le_refl _) _
    have hn2 : W2.heap[w.heap.size]? = some (.cells A2.toArray 30 (0, 0)) := by rw [hW2]; exact setRow_heap _ _ _ _ _ _ hn1
    rw [← hW2] at hC1
    clear hW2 hA1l hA1s hn1 hA2
    have hC2 : ∀ ty, (Builtin.copy_ #[22, 22] ty #[.slice (some ⟨w.heap.size, (i + 1) * 8, none⟩) (M.length - i) (G - (i + 1)), .slice (some ⟨g, i * 8, none⟩) (M.length - i) (M.length - i)]).run Tryz.prog W2.drew = .ok (goInt (Nat.min (M.length - i) (M.length - i))) (W2.drew.setRow w.heap.size (A2.take ((i + 1) * 8) ++ tCells (M.drop i) ++ A2.drop ((i + 1) * 8 + (tCells (M.drop i)).length)).toArray) := fun ty => by
      have := run_copyN (P := Tryz.prog) W2.drew 22 22 ty 30 w.heap.size ((i + 1) * 8) (M.length - i) (G - (i + 1)) ⟨g, i * 8, none⟩ (M.length - i) (M.length - i) A2.toArray 30 (tCells (M.drop i)) 8 i0 Tryz.underlying22 hi0 hz1 hn2 (by rw [hmB, tCells_len, List.length_drop]) (fun j u hu => cells_from (w := W2.drew) ((hb2.block _ hgl).trans hg) j u (by
        rw [← tCells_drop M i hi, List.getElem?_drop] at hu
        simpa using hu)) (by rw [List.size_toArray, m1, hzl, tCells_len, List.length_drop]; omega) (oneTs_cell _)
      simpa using this
    obtain ⟨W3, hW3⟩ : ∃ W3, W3 = W2.drew.setRow w.heap.size (A2.take ((i + 1) * 8) ++ tCells (M.drop i) ++ A2.drop ((i + 1) * 8 + (tCells (M.drop i)).length)).toArray := ⟨_, rfl⟩
    have hn3 : W3.heap[w.heap.size]? = some (.cells (A2.take ((i + 1) * 8) ++ tCells (M.drop i) ++ A2.drop ((i + 1) * 8 + (tCells (M.drop i)).length)).toArray 30 (0, 0)) := by rw [hW3]; exact setRow_heap W2.drew _ _ _ _ _ hn2
    have hb3 : Below w.heap.size w W3 := by rw [hW3]; exact below_setRow hb2.drew (Nat.le_refl _) _
    rw [← hW3] at hC2
    clear hW3
    have HEnd : Hid (InP M i y w (.returned (.slice (some ⟨w.heap.size, 0, none⟩) (M.length + 1) G)) W3) := ⟨G, rfl, row_of_heap hn3 (insL_len M i y) (by simpa using m2) (by omega) hG2, hb3⟩
    have HZ : Hid (∀ ty, (Builtin.append_ #[22, 3] ty #[.slice (some ⟨g, 0, none⟩) i M.length, .int .i64 ((M.length : Int) + 1 - (i : Int))]).run Tryz.prog w = .ok (.slice (some ⟨w.heap.size, 0, none⟩) (M.length + 1) G) W1) := hZ
    have HC1 : Hid (∀ ty, (Builtin.copy_ #[22, 22] ty #[.slice (some ⟨w.heap.size, i * 8, none⟩) (M.length + 1 - i) (G - i), .slice (some ⟨b, 0, none⟩) 1 1]).run Tryz.prog W1 = .ok (goInt (Nat.min 1 (M.length + 1 - i))) W2) := hC1
    have HC2 : Hid (∀ ty, (Builtin.copy_ #[22, 22] ty #[.slice (some ⟨w.heap.size, (i + 1) * 8, none⟩) (M.length - i) (G - (i + 1)), .slice (some ⟨g, i * 8, none⟩) (M.length - i) (M.length - i)]).run Tryz.prog W2.drew = .ok (goInt (Nat.min (M.length - i) (M.length - i))) W3) := hC2
    have dn : ((i : Int) == (M.length : Int)) = false := by rw [beq_eq_false_iff_ne]; omega
    have dc : decide ((M.length : Int) < (M.length : Int) + 1) = true := decide_eq_true (by omega)
    have g1 : G ≠ i := by omega
    have g2 : G ≠ i + 1 := by omega
    have g3 : M.length ≠ i := by omega
    clear hmA hmB hZ hC1 hC2 hn2 hn3 hb1 hb2 hb3 m1 m2 hzl l1 hsrcY hg hb hi0 hz0 hz1 hz2 hG2 hin
    go_enter Tryz.func56, Tryz.ntmps56
    have hC1 := HC1.out
    go_wp2_with (at_builtin; go_loud (refine Lib.wpList_append_run _ rfl (.tmp 34) (.tmp 39) _ _ rfl _ _ rfl rfl _ _ (HZ.out _) ?_))
    clear hC1 HC1 HZ
    have hC2 := HC2.out
    have wi : IntKind.i64.wrap ((i : Int) + 1) = (i : Int) + 1 := by rw [IntKind.wrap_i64]; omega
    have tn : ((i : Int) + 1).toNat = i + 1 := by omega
    have c1 : (0 : Int) ≤ (i : Int) + 1 := by omega
    have c2 : (i : Int) + 1 ≤ (M.length : Int) + 1 := by omega
    refine wp_region_held_drew (S := fun _ => True) (by kernel_rfl) trivial (fun hHeld => ?_)
    refine wpAnyH_take (i := 0) (v := ?_) rfl (by kernel_rfl) (by kernel_rfl) (by kernel_rfl) (fun _ _ _ h => h) (Or.inl ⟨by rfl, ?_⟩) hHeld ?_
    rotate_left 1
    · intro w9 hSw; clear hSw; go_simp; try with_reducible rfl
    change wpAnyH _ _ _ _ _ _ _ (Act.put _ (some 46) _) _
    simp only [Act.put, List.setIfInBounds_toArray, List.set_cons_zero, List.set_cons_succ]
    refine wpAnyH_take (i := 1) (v := ?_) rfl (by kernel_rfl) (by kernel_rfl) (by kernel_rfl) (fun _ _ _ h => h) (Or.inl ⟨by rfl, ?_⟩) hHeld ?_
    rotate_left 1
    · intro w9 hSw; clear hSw; go_simp; try with_reducible rfl
    change wpAnyH _ _ _ _ _ _ _ (Act.put _ (some 47) _) _
    simp only [Act.put, List.setIfInBounds_toArray, List.set_cons_zero, List.set_cons_succ]
    refine wpAnyH_take (i := 2) (v := ?_) rfl (by kernel_rfl) (by kernel_rfl) (by kernel_rfl) (fun _ _ _ h => h) (Or.inl ⟨by rfl, ?_⟩) hHeld ?_
    rotate_left 1
    · intro w9 hSw; clear hSw; go_simp; try with_reducible rfl
    change wpAnyH _ _ _ _ _ _ _ (Act.put _ (some 48) _) _
    simp only [Act.put, List.setIfInBounds_toArray, List.set_cons_zero, List.set_cons_succ]
    refine wpAnyH_take (i := 3) (v := ?_) rfl (by kernel_rfl) (by kernel_rfl) (by kernel_rfl) (fun _ _ _ h => h) (Or.inl ⟨by rfl, ?_⟩) hHeld ?_
    rotate_left 1
    · intro w9 hSw; clear hSw; go_simp; try with_reducible rfl
    change wpAnyH _ _ _ _ _ _ _ (Act.put _ (some 49) _) _
    simp only [Act.put, List.setIfInBounds_toArray, List.set_cons_zero, List.set_cons_succ]
    refine wpAnyH_take (i := 4) (v := ?_) rfl (by kernel_rfl) (by kernel_rfl) (by kernel_rfl) (fun _ _ _ h => h) (Or.inl ⟨by rfl, ?_⟩) hHeld ?_
    rotate_left 1
    · intro w9 hSw; clear hSw; go_simp; try with_reducible rfl
    change wpAnyH _ _ _ _ _ _ _ (Act.put _ (some 50) _) _
    simp only [Act.put, List.setIfInBounds_toArray, List.set_cons_zero, List.set_cons_succ]
    refine wpAnyH_take (i := 5) (v := ?_) rfl (by kernel_rfl) (by kernel_rfl) (by kernel_rfl) (fun _ _ _ h => h) (Or.inl ⟨by rfl, ?_⟩) hHeld ?_
    rotate_left 1
    · intro w9 hSw; clear hSw; go_simp; try with_reducible rfl
    change wpAnyH _ _ _ _ _ _ _ (Act.put _ (some 51) _) _
    simp only [Act.put, List.setIfInBounds_toArray, List.set_cons_zero, List.set_cons_succ]
    refine wpAnyH_take (i := 6) (v := ?_) rfl (by kernel_rfl) (by kernel_rfl) (by kernel_rfl) (fun _ _ _ h => h) (Or.inl ⟨by rfl, ?_⟩) hHeld ?_
    rotate_left 1
    · intro w9 hSw; clear hSw; go_simp; try with_reducible rfl
    change wpAnyH _ _ _ _ _ _ _ (Act.put _ (some 52) _) _
    simp only [Act.put, List.setIfInBounds_toArray, List.set_cons_zero, List.set_cons_succ]
    refine wpAnyH_take (i := 7) (v := ?_) rfl (by kernel_rfl) (by kernel_rfl) (by kernel_rfl) (fun _ _ _ h => h) (Or.inl ⟨by rfl, ?_⟩) hHeld ?_
    rotate_left 1
    · intro w9 hSw; clear hSw; go_simp; try with_reducible rfl
    change wpAnyH _ _ _ _ _ _ _ (Act.put _ (some 53) _) _
    simp only [Act.put, List.setIfInBounds_toArray, List.set_cons_zero, List.set_cons_succ]
    refine wpAnyH_ready (rs := [8]) (by kernel_rfl) (by simp) ?_
    refine AllReadyH.cons rfl (fun K hK => ?_) AllReadyH.nil
    go_simp
    refine hK.out _ _ trivial (fun hHeld => ?_)
    clear hK K
    refine wpAnyH_done (by kernel_rfl) ?_ _
    clear hC2 HC2
    go_wp2
    go_ret
    exact HEnd.out
end Go.Proofs.YtkcnkjaeidbjbaaGreatDoor
/- forest.Add: its walk. -/
namespace Go.Proofs.YtkcnkjaeidbjbaaGreatDoor
open Go.RowKit Go.ChangeMaps

def AdP (r : List Ty × Int) (w : World) (e : Ending) (w' : World) : Prop := ∃ (sa : Option Addr) (sc : Nat) (K : List LT), e = .returned (.tuple #[.slice sa K.length sc, .int .i64 r.2]) ∧ tys K = r.1 ∧ IsTys w' (.slice sa K.length sc) K ∧ Below w.heap.size w w'
theorem AdP.err {w w' : World} (n : Int) (h : Below w.heap.size w w') : AdP ([], n) w (.returned (.tuple #[.slice none 0 0, .int .i64 n])) w' := ⟨none, 0, [], rfl, rfl, ⟨IsRow.nil _ _, fun _ hx => nomatch hx⟩, h⟩
theorem AdP.ok {L M : List LT} {x y : LT} {w W0 wd w6 w7 w9 : World} {e : Ending} {k : Nat} (hB : ∀ W, Below W0.heap.size W0 W → Below w.heap.size w W) (hd : Below W0.heap.size W0 wd) (hM : tys M = tys L) (hMI : ∀ y ∈ M, IsTy w6 y.t y.vo y.va y.vc) (h6 : Below wd.heap.size wd w6) (hy : y.t = x.t) (hyI : IsTy w7 y.t y.vo y.va y.vc) (h7 : Below w6.heap.size w6 w7) (hi : InP M k y (w7.alloc (.cells (tyA y.t y.vo y.va y.vc) 30)) e w9) :
    ∃ sa sc, e = .returned (.slice sa (M.length + 1) sc) ∧ AdP (insT (tys L) k x.t, 0) w (.returned (.tuple #[.slice sa (M.length + 1) sc, .int .i64 0])) w9 := by
  obtain ⟨c, rfl, hrow, hb9⟩ := hi
  have hal := al_b w7 (.cells (tyA y.t y.vo y.va y.vc) 30)
  have b79 : Below w7.heap.size w7 w9 := hal.trans (hb9.mono hal.size)
  have b69 : Below w6.heap.size w6 w9 := h7.trans (b79.mono h7.size)
  have bd9 : Below wd.heap.size wd w9 := h6.trans (b69.mono h6.size)
  have hlen : (insL M k y).length = M.length + 1 := by
    unfold insL
    rw [List.length_append, List.length_cons, List.length_take, List.length_drop]
    omega
  refine ⟨_, c, rfl, _, c, insL M k y, by rw [hlen], by rw [tys_insL, hM, hy], ⟨by rw [hlen]; exact hrow, fun z hz => ?_⟩, hB _ (hd.trans (bd9.mono hd.size))⟩
  have hz' : z = y ∨ z ∈ M := by
    unfold insL at hz
    rcases List.mem_append.1 hz with h | h
    · exact .inr (List.mem_of_mem_take h)
    · rcases List.mem_cons.1 h with h | h
      · exact .inl h
      · exact .inr (List.mem_of_mem_drop h)
  rcases hz' with rfl | hz'
  · exact hyI.below b79
  · exact (hMI z hz').below b69
set_option maxRecDepth 100000 in
set_option maxHeartbeats 4000000 in
theorem add_any (vl : Value) (L : List LT) (x : LT) (w : World) (hL : IsTys w vl L) (hl0 : L.length ≤ 1000000) (nL : NmL L) (mL : SmL L) (hx : IsTy w x.t x.vo x.va x.vc) (nx : NmT x.t) (mx : SmT x.t) (hW : W3 w) :
    Calls Tryz.prog 21 #[vl, ltV x] w fun e w' => AdP (addR (tys L) x.t) w e w' := by
  obtain ⟨al, cl, rfl⟩ := hL.1.form
  obtain ⟨W0, hW0⟩ : ∃ W0, W0 = w.alloc (.cells (tyA x.t x.vo x.va x.vc) 30) := ⟨_, rfl⟩
  have hA : Below w.heap.size w W0 := by rw [hW0]; exact al_b w _
  have hz : W0.heap.size = w.heap.size + 1 := by rw [hW0]; simp
  have hn0 : W0.heap[w.heap.size]? = some (.cells (tyA x.t x.vo x.va x.vc) 30 (0, 0)) := by rw [hW0]; exact new_at w _
  have HX : Hid (∀ W, Below W0.heap.size W0 W → BxT w.heap.size x.t x.vo x.va x.vc W) := fun W h => BxT.of ((h.block _ (by omega)).trans hn0)
  have HSz : Hid (∀ W, Below W0.heap.size W0 W → w.heap.size < W.heap.size) := fun W h => by have := h.size; omega
  have HBw : Hid (∀ W, Below W0.heap.size W0 W → Below w.heap.size w W) := fun W h => hA.trans (h.mono hA.size)
  have HIs : Hid (∀ W, Below W0.heap.size W0 W → Calls Tryz.prog 31 #[.slice al L.length cl] W fun e w' => e = .returned (.bool (isB (tys L))) ∧ Below W.heap.size W w') := fun W h => is_any _ L W (hL.below (HBw.out W h)) hl0 nL (hW.below (HBw.out W h))
  have HCk : Hid (∀ W, Below W0.heap.size W0 W → Calls Tryz.prog 40 #[ltV x] W fun e w' => e = .returned (.bool (chkT x.t)) ∧ Below W.heap.size W w') := fun W h => checkT_any _ _ _ _ W (hx.below (HBw.out W h)) nx (Utf8Tabs_below hW.t (HBw.out W h)) (ML_below hW.m (HBw.out W h))
  have HP1 : Hid (isB (tys L) = true → ∀ W, Below W0.heap.size W0 W → Calls Tryz.prog 36 #[.slice al L.length cl, .string x.t.n] W fun e w' => PlP L x.t.n W e w') := fun hi W h => place_any _ L x.t.n W (hL.below (HBw.out W h)).1 (by have := ((isB_iff _).1 hi).1; rw [tys_len] at this; omega) (nmN nL) nx.n (Utf8Tabs_below hW.t (HBw.out W h)) ((isB_iff _).1 hi).2.2.1
  have HPa : Hid (isB (tys L) = true → ∀ W, Below W0.heap.size W0 W → Calls Tryz.prog 54 #[.slice al L.length cl, ltV x] W fun e w' => PaP L x.t.p W e w') := fun hi W h => parentOf_any _ L x W (hL.below (HBw.out W h)).1 (by have := ((isB_iff _).1 hi).1; rw [tys_len] at this; omega) (nmN nL) nx.p (Utf8Tabs_below hW.t (HBw.out W h)) ((isB_iff _).1 hi).2.2.1
  have HBe : Hid (chkT x.t = true → ∀ (y : LT), y ∈ L → ∀ W, Below W0.heap.size W0 W → Calls Tryz.prog 55 #[ltV x, ltV y] W fun e w' => e = .returned (.bool (belB x.t y.t)) ∧ Below W.heap.size W w') := fun hk y hy W h => isBelow_any x y W (hx.below (HBw.out W h)) ((hL.2 y hy).below (HBw.out W h)) nx (nL y hy) (chk_ch hk) (hW.below (HBw.out W h))
  have HAc : Hid (isB (tys L) = true → ∀ W, Below W0.heap.size W0 W → Calls Tryz.prog 57 #[.slice al L.length cl] W fun e w' => AcP L W e w') := fun hi W h => allCopied_any _ L W (hL.below (HBw.out W h)) (by have := ((isB_iff _).1 hi).1; rw [tys_len] at this; omega) mL
  have HCp : Hid (∀ W, Below W0.heap.size W0 W → Calls Tryz.prog 58 #[ltV x] W fun e w' => CpT x.t W e w') := fun W h => copied_any _ _ _ _ W (hx.below (HBw.out W h)) mx.1 mx.2.1 mx.2.2
  have HD : Hid (addR (tys L) x.t = if (isB (tys L) && chkT x.t) = true then (if (parN (tys L) x.t.n).isSome = true then (([], 5) : List Ty × Int) else if (tys L).length = 200 then (([], 6) : List Ty × Int) else (if x.t.p.size = 0 then ((insT (tys L) (plcN (tys L) x.t.n) x.t, 0) : List Ty × Int) else (match parN (tys L) x.t.p with | none => (([], 4) : List Ty × Int) | some o => if belB x.t o = true then (insT (tys L) (plcN (tys L) x.t.n) x.t, 0) else ([], 3)))) else ([], 1)) := rfl
  have HPl : Hid (plcN (tys L) x.t.n ≤ L.length) := by have := plcN_le (tys L) x.t.n; rw [tys_len] at this; exact this
  generalize hRes : addR (tys L) x.t = R at *
  clear hRes hW hA hn0 hL nL hl0 mL hx nx mx
  have HW0 : Hid (Below W0.heap.size W0 W0) := Below.refl _ _
  go_enter Tryz.func21, Tryz.ntmps21
  go_wp2_with fail
  rw [← hW0]
  clear hW0
  refine (HIs.out _ HW0.out).mono ?_
  rintro e w1 ⟨rfl, hb⟩
  have Hw1 : Hid (Below W0.heap.size W0 w1) := hb
  clear hb
  cases hi : isB (tys L)
  · have HE : Hid (R = ([], 1)) := by show _ = _; rw [HD.out, hi, Bool.false_and, if_neg (by decide)]
    have HEnd : Hid (AdP R w (.returned (.tuple #[.slice none 0 0, .int .i64 1])) w1) := by
      rw [HE.out]
      exact AdP.err 1 (HBw.out _ Hw1.out)
    clear hi HX HSz HBw HIs HCk HP1 HPa HBe HAc HCp HD HPl HW0 HE
    go_wp2
    go_ret2
    exact HEnd.out
  obtain ⟨⟨g0, g1, g2, g3⟩, g4, g5, g6, g7⟩ := HX.out w1 Hw1.out
  have sz0 := HSz.out w1 Hw1.out
  go_wp2_with fail
  refine (HCk.out _ Hw1.out).mono ?_
  rintro e w2 ⟨rfl, hb⟩
  have Hw2 : Hid (Below W0.heap.size W0 w2) := Hw1.out.trans (hb.mono Hw1.out.size)
  clear hb
  clear g0 g1 g2 g3 g4 g5 g6 g7 sz0
  cases hk : chkT x.t
  · have HE : Hid (R = ([], 1)) := by show _ = _; rw [HD.out, hk, Bool.and_false, if_neg (by decide)]
    have HEnd : Hid (AdP R w (.returned (.tuple #[.slice none 0 0, .int .i64 1])) w2) := by
      rw [HE.out]
      exact AdP.err 1 (HBw.out _ Hw2.out)
    clear hi hk HX HSz HBw HIs HCk HP1 HPa HBe HAc HCp HD HPl HW0 HE
    go_wp2
    go_ret2
    exact HEnd.out
  have HD1 : Hid (R = if (parN (tys L) x.t.n).isSome = true then (([], 5) : List Ty × Int) else if (tys L).length = 200 then (([], 6) : List Ty × Int) else (if x.t.p.size = 0 then ((insT (tys L) (plcN (tys L) x.t.n) x.t, 0) : List Ty × Int) else (match parN (tys L) x.t.p with | none => (([], 4) : List Ty × Int) | some o => if belB x.t o = true then (insT (tys L) (plcN (tys L) x.t.n) x.t, 0) else ([], 3)))) := by
    show _ = _
    rw [HD.out, hi, hk, Bool.and_self, if_pos rfl]
  have HP1' : Hid (∀ W, Below W0.heap.size W0 W → Calls Tryz.prog 36 #[.slice al L.length cl, .string x.t.n] W fun e w' => PlP L x.t.n W e w') := HP1.out hi
  have HPa' : Hid (∀ W, Below W0.heap.size W0 W → Calls Tryz.prog 54 #[.slice al L.length cl, ltV x] W fun e w' => PaP L x.t.p W e w') := HPa.out hi
  have HBe' : Hid (∀ (y : LT), y ∈ L → ∀ W, Below W0.heap.size W0 W → Calls Tryz.prog 55 #[ltV x, ltV y] W fun e w' => e = .returned (.bool (belB x.t y.t)) ∧ Below W.heap.size W w') := HBe.out hk
  have HAc' : Hid (∀ W, Below W0.heap.size W0 W → Calls Tryz.prog 57 #[.slice al L.length cl] W fun e w' => AcP L W e w') := HAc.out hi
  have HL2 : Hid (L.length ≤ 200) := by have := ((isB_iff _).1 hi).1; rw [tys_len] at this; exact this
  clear hi hk
  obtain ⟨⟨g0, g1, g2, g3⟩, g4, g5, g6, g7⟩ := HX.out w2 Hw2.out
  have sz0 := HSz.out w2 Hw2.out
  go_wp2_with fail
  refine (HP1'.out _ Hw2.out).mono ?_
  rintro e w3 ⟨rfl, hb⟩
  have Hw3 : Hid (Below W0.heap.size W0 w3) := Hw2.out.trans (hb.mono Hw2.out.size)
  clear hb
  clear g0 g1 g2 g3 g4 g5 g6 g7 sz0
  cases hk : (parN (tys L) x.t.n).isSome
  rotate_left
  · generalize plcN (tys L) x.t.n = pl at *
    have HE : Hid (R = ([], 5)) := by show _ = _; rw [HD1.out, hk, if_pos rfl]
    have HEnd : Hid (AdP R w (.returned (.tuple #[.slice none 0 0, .int .i64 5])) w3) := by
      rw [HE.out]
      exact AdP.err 5 (HBw.out _ Hw3.out)
    clear hk HD1 HP1' HPa' HBe' HAc' HL2 HX HSz HBw HIs HCk HP1 HPa HBe HAc HCp HD HPl HW0 HE
    go_wp2
    go_ret2
    exact HEnd.out
  have HD2 : Hid (R = if (tys L).length = 200 then (([], 6) : List Ty × Int) else (if x.t.p.size = 0 then ((insT (tys L) (plcN (tys L) x.t.n) x.t, 0) : List Ty × Int) else (match parN (tys L) x.t.p with | none => (([], 4) : List Ty × Int) | some o => if belB x.t o = true then (insT (tys L) (plcN (tys L) x.t.n) x.t, 0) else ([], 3)))) := by
    show _ = _
    rw [HD1.out, hk, if_neg (by decide)]
  clear HD1 hk
  generalize plcN (tys L) x.t.n = pl at *
  by_cases h200 : L.length = 200
  · have d2 : ((L.length : Int) == 200) = true := by rw [h200]; rfl
    have HE : Hid (R = ([], 6)) := by show _ = _; rw [HD2.out, tys_len, if_pos h200]
    have HEnd : Hid (AdP R w (.returned (.tuple #[.slice none 0 0, .int .i64 6])) w3) := by
      rw [HE.out]
      exact AdP.err 6 (HBw.out _ Hw3.out)
    clear h200 HD2 HP1' HPa' HBe' HAc' HL2 HX HSz HBw HIs HCk HP1 HPa HBe HAc HCp HD HPl HW0 HE
    go_wp2
    go_ret2
    exact HEnd.out
  have d2 : ((L.length : Int) == 200) = false := by rw [beq_eq_false_iff_ne]; omega
  have HD3 : Hid (R = if x.t.p.size = 0 then ((insT (tys L) pl x.t, 0) : List Ty × Int) else (match parN (tys L) x.t.p with | none => (([], 4) : List Ty × Int) | some o => if belB x.t o = true then (insT (tys L) pl x.t, 0) else ([], 3))) := by
    show _ = _
    rw [HD2.out, tys_len, if_neg h200]
  clear HD2 h200
  have eP := str0 x.t.p
  have eP2 := str0' x.t.p
  by_cases hp0 : x.t.p.size = 0
  · have HE : Hid (R = (insT (tys L) pl x.t, 0)) := by show _ = _; rw [HD3.out, if_pos hp0]
    rw [decide_eq_true hp0] at eP eP2
    clear hp0 HD3
    obtain ⟨⟨g0, g1, g2, g3⟩, g4, g5, g6, g7⟩ := HX.out w3 Hw3.out
    have sz0 := HSz.out w3 Hw3.out
    have HR1 : Hid (Below W0.heap.size W0 w3.drew) := Hw3.out.drew
    clear HIs HCk HP1 HPa HBe HAc HP1' HPa' HBe' HD HW0
    go_wp2_with fail
    refine wp_region_held_drew (S := fun w' => ((w'.cell? ⟨w.heap.size, 0, none⟩ = some (.string x.t.n) ∧ w'.cell? ⟨w.heap.size, 1, none⟩ = some (.string x.t.p) ∧ w'.cell? ⟨w.heap.size, 2, none⟩ = some x.vo ∧ w'.cell? ⟨w.heap.size, 3, none⟩ = some x.va) ∧ w'.cell? ⟨w.heap.size, 4, none⟩ = some x.vc ∧ w'.cell? ⟨w.heap.size, 5, none⟩ = some (.int .i64 x.t.nd) ∧ w'.cell? ⟨w.heap.size, 6, none⟩ = some (.int .i64 x.t.lf) ∧ w'.cell? ⟨w.heap.size, 7, none⟩ = some (.int .i64 x.t.sq))) (by kernel_rfl) (HX.out _ HR1.out) (fun hHeld => ?_)
    generalize w3.drew = wd at *
    refine wpAnyH_take (i := 0) (v := ?_) rfl (by kernel_rfl) (by kernel_rfl) (by kernel_rfl) (fun _ _ _ h => h) (Or.inl ⟨by rfl, ?_⟩) hHeld ?_
    rotate_left 1
    · intro w9 hSw; obtain ⟨⟨g0, g1, g2, g3⟩, g4, g5, g6, g7⟩ := hSw; go_simp; try with_reducible rfl
    change wpAnyH _ _ _ _ _ _ _ (Act.put _ (some 44) _) _
    simp only [Act.put, List.setIfInBounds_toArray, List.set_cons_zero, List.set_cons_succ]
    refine wpAnyH_take (i := 2) (v := ?_) rfl (by kernel_rfl) (by kernel_rfl) (by kernel_rfl) (fun _ _ _ h => h) (Or.inl ⟨by rfl, ?_⟩) hHeld ?_
    rotate_left 1
    · intro w9 hSw; obtain ⟨⟨g0, g1, g2, g3⟩, g4, g5, g6, g7⟩ := hSw; go_simp; try with_reducible rfl
    change wpAnyH _ _ _ _ _ _ _ (Act.put _ (some 46) _) _
    simp only [Act.put, List.setIfInBounds_toArray, List.set_cons_zero, List.set_cons_succ]
    refine wpAnyH_take (i := 3) (v := ?_) rfl (by kernel_rfl) (by kernel_rfl) (by kernel_rfl) (fun _ _ _ h => h) (Or.inl ⟨by rfl, ?_⟩) hHeld ?_
    rotate_left 1
    · intro w9 hSw; obtain ⟨⟨g0, g1, g2, g3⟩, g4, g5, g6, g7⟩ := hSw; go_simp; try with_reducible rfl
    change wpAnyH _ _ _ _ _ _ _ (Act.put _ (some 47) _) _
    simp only [Act.put, List.setIfInBounds_toArray, List.set_cons_zero, List.set_cons_succ]
    refine wpAnyH_ready (rs := [1]) (by kernel_rfl) (by simp) ?_
    refine AllReadyH.cons rfl (fun K hK => ?_) AllReadyH.nil
    go_simp
    refine (HAc'.out _ HR1.out).mono ?_
    rintro e w6 ⟨M, rfl, hM1, hM2, hM3, hM4, hb6⟩
    have hB6 : Below W0.heap.size W0 w6 := HR1.out.trans (hb6.mono HR1.out.size)
    have HM2 : Hid (M.length = L.length) := hM2
    have HM1 : Hid (tys M = tys L) := hM1
    clear hM1 hM2
    go_simp
    refine hK.out _ _ (HX.out _ hB6) (fun hHeld => ?_)
    clear hK K
    refine wpAnyH_ready (rs := [4]) (by kernel_rfl) (by simp) ?_
    refine AllReadyH.cons rfl (fun K hK => ?_) AllReadyH.nil
    go_simp
    refine (HCp.out _ hB6).mono ?_
    intro e w7 hcp
    obtain ⟨y, rfl, hyt, hyI, hyN, hb7⟩ := cp_lt hcp
    have HYt : Hid (y.t = x.t) := hyt
    have hB7 : Below W0.heap.size W0 w7 := hB6.trans (hb7.mono hB6.size)
    clear hyt hcp
    go_simp
    refine hK.out _ _ (HX.out _ hB7) (fun hHeld => ?_)
    clear hK K
    have hB8 : Below W0.heap.size W0 (w7.alloc (.cells (tyA y.t y.vo y.va y.vc) 30)) := hB7.trans ((al_b _ _).mono hB7.size)
    have HIn : Hid (Calls Tryz.prog 56 #[.slice (some ⟨wd.heap.size, 0, none⟩) L.length L.length, .int .i64 (pl : Int), .slice (some ⟨w7.heap.size, 0, none⟩) 1 1] (w7.alloc (.cells (tyA y.t y.vo y.va y.vc) 30)) fun e w' => InP M pl y (w7.alloc (.cells (tyA y.t y.vo y.va y.vc) 30)) e w') := by
      have hg8 : (w7.alloc (.cells (tyA y.t y.vo y.va y.vc) 30)).heap[wd.heap.size]? = some (.cells (tCells M).toArray 30 (0, 0)) := by
        have hl6 := (Array.getElem?_eq_some_iff.1 hM3).1
        have e7 := (hb7.block _ hl6).trans hM3
        exact ((al_b w7 _).block _ (Array.getElem?_eq_some_iff.1 e7).1).trans e7
      have := insert_any wd.heap.size w7.heap.size M pl y (w7.alloc (.cells (tyA y.t y.vo y.va y.vc) 30)) hg8 (new_at w7 _) (by rw [HM2.out]; exact HPl.out) (by rw [HM2.out]; have := HL2.out; omega)
      rw [HM2.out] at this
      exact this
    have HOk : Hid (∀ e w9, InP M pl y (w7.alloc (.cells (tyA y.t y.vo y.va y.vc) 30)) e w9 → ∃ sa sc, e = .returned (.slice sa (M.length + 1) sc) ∧ AdP (insT (tys L) pl x.t, 0) w (.returned (.tuple #[.slice sa (M.length + 1) sc, .int .i64 0])) w9) := fun e w9 h => AdP.ok HBw.out HR1.out HM1.out (fun z hz => (hM4 z hz).1) hb6 HYt.out hyI hb7 h
    clear hM3 hM4 hyI hyN
    refine wpAnyH_ready (rs := [5]) (by kernel_rfl) (by simp) ?_
    refine AllReadyH.cons rfl (fun K hK => ?_) AllReadyH.nil
    go_simp
    refine hK.out _ _ (HX.out _ hB8) (fun hHeld => ?_)
    clear hK K
    refine wpAnyH_ready (rs := [6]) (by kernel_rfl) (by simp) ?_
    refine AllReadyH.cons rfl (fun K hK => ?_) AllReadyH.nil
    go_simp
    refine HIn.out.mono ?_
    intro e w9 hin
    have hB9 : Below W0.heap.size W0 w9 := by
      obtain ⟨c, -, -, hb9⟩ := hin
      exact hB8.trans (hb9.mono hB8.size)
    obtain ⟨sa, sc, rfl, hA⟩ := HOk.out e w9 hin
    have HEnd : Hid (AdP R w (.returned (.tuple #[.slice sa (M.length + 1) sc, .int .i64 0])) w9) := by
      rw [HE.out]
      exact hA
    clear hA hin HIn HOk
    go_simp
    refine hK.out _ _ (HX.out _ hB9) (fun hHeld => ?_)
    clear hK K
    refine wpAnyH_ready (rs := [7]) (by kernel_rfl) (by simp) ?_
    refine AllReadyH.cons rfl (fun K hK => ?_) AllReadyH.nil
    go_simp
    refine hK.out _ _ hHeld (fun hHeld => ?_)
    clear hK K
    refine wpAnyH_ready (rs := [8]) (by kernel_rfl) (by simp) ?_
    refine AllReadyH.cons rfl (fun K hK => ?_) AllReadyH.nil
    go_simp
    refine hK.out _ _ hHeld (fun hHeld => ?_)
    clear hK K
    refine wpAnyH_done (by kernel_rfl) ?_ _
    clear hHeld HX HSz HBw HCp HAc' HM1 HM2 HYt HE
    go_wp2
    go_ret2
    exact HEnd.out
  have HD4 : Hid (R = (match parN (tys L) x.t.p with | none => (([], 4) : List Ty × Int) | some o => if belB x.t o = true then (insT (tys L) pl x.t, 0) else ([], 3))) := by
    show _ = _
    rw [HD3.out, if_neg hp0]
  rw [decide_eq_false hp0] at eP eP2
  clear hp0 HD3
  obtain ⟨⟨g0, g1, g2, g3⟩, g4, g5, g6, g7⟩ := HX.out w3 Hw3.out
  have sz0 := HSz.out w3 Hw3.out
  go_wp2_with fail
  refine (HPa'.out _ Hw3.out).mono ?_
  rintro e w4 ⟨y, rfl, hy, hb⟩
  have Hw4 : Hid (Below W0.heap.size W0 w4) := Hw3.out.trans (hb.mono Hw3.out.size)
  clear hb
  clear g0 g1 g2 g3 g4 g5 g6 g7 sz0
  obtain ⟨W5, hW5⟩ : ∃ W5, W5 = w4.alloc (.cells (tyA y.t y.vo y.va y.vc) 30) := ⟨_, rfl⟩
  have HW5 : Hid (Below W0.heap.size W0 W5) := by
    show Below _ _ _
    rw [hW5]
    exact Hw4.out.trans ((al_b _ _).mono Hw4.out.size)
  rcases hy with ⟨hpn, rfl⟩ | ⟨hyL, hps⟩
  · have HE : Hid (R = ([], 4)) := by show _ = _; rw [HD4.out, hpn]
    rw [hpn]
    have HEnd : Hid (AdP R w (.returned (.tuple #[.slice none 0 0, .int .i64 4])) W5) := by
      rw [HE.out]
      exact AdP.err 4 (HBw.out _ HW5.out)
    rw [hW5] at HEnd
    clear HW5 hW5 hpn HD4 HP1' HPa' HBe' HAc' HL2 HE HX HSz HBw HIs HCk HP1 HPa HBe HAc HCp HD HPl HW0
    go_wp2
    go_ret2
    exact HEnd.out
  rw [hps]
  have HBy : Hid (Calls Tryz.prog 55 #[ltV x, ltV y] W5 fun e w' => e = .returned (.bool (belB x.t y.t)) ∧ Below W5.heap.size W5 w') := HBe'.out y hyL W5 HW5.out
  have HD5 : Hid (R = if belB x.t y.t = true then ((insT (tys L) pl x.t, 0) : List Ty × Int) else ([], 3)) := by show _ = _; rw [HD4.out, hps]
  clear HD4 hps hyL
  obtain ⟨⟨g0, g1, g2, g3⟩, g4, g5, g6, g7⟩ := HX.out w4 Hw4.out
  have sz0 := HSz.out w4 Hw4.out
  go_wp2_with fail
  rw [← hW5]
  clear hW5
  refine HBy.out.mono ?_
  rintro e w5 ⟨rfl, hb⟩
  have Hw5 : Hid (Below W0.heap.size W0 w5) := HW5.out.trans (hb.mono HW5.out.size)
  clear hb HBy HW5 Hw4
  clear g0 g1 g2 g3 g4 g5 g6 g7 sz0
  cases hbe : belB x.t y.t
  · have HE : Hid (R = ([], 3)) := by show _ = _; rw [HD5.out, hbe, if_neg (by decide)]
    have HEnd : Hid (AdP R w (.returned (.tuple #[.slice none 0 0, .int .i64 3])) w5) := by
      rw [HE.out]
      exact AdP.err 3 (HBw.out _ Hw5.out)
    clear hbe HD5 HP1' HPa' HBe' HAc' HL2 HX HSz HBw HIs HCk HP1 HPa HBe HAc HCp HD HPl HW0 HE
    go_wp2
    go_ret2
    exact HEnd.out
  have HE : Hid (R = (insT (tys L) pl x.t, 0)) := by show _ = _; rw [HD5.out, hbe, if_pos rfl]
  clear hbe HD5
  obtain ⟨⟨g0, g1, g2, g3⟩, g4, g5, g6, g7⟩ := HX.out w5 Hw5.out
  have sz0 := HSz.out w5 Hw5.out
  have HR1 : Hid (Below W0.heap.size W0 w5.drew) := Hw5.out.drew
  clear HIs HCk HP1 HPa HBe HAc HP1' HPa' HBe' HD HW0
  go_wp2_with fail
  refine wp_region_held_drew (S := fun w' => ((w'.cell? ⟨w.heap.size, 0, none⟩ = some (.string x.t.n) ∧ w'.cell? ⟨w.heap.size, 1, none⟩ = some (.string x.t.p) ∧ w'.cell? ⟨w.heap.size, 2, none⟩ = some x.vo ∧ w'.cell? ⟨w.heap.size, 3, none⟩ = some x.va) ∧ w'.cell? ⟨w.heap.size, 4, none⟩ = some x.vc ∧ w'.cell? ⟨w.heap.size, 5, none⟩ = some (.int .i64 x.t.nd) ∧ w'.cell? ⟨w.heap.size, 6, none⟩ = some (.int .i64 x.t.lf) ∧ w'.cell? ⟨w.heap.size, 7, none⟩ = some (.int .i64 x.t.sq))) (by kernel_rfl) (HX.out _ HR1.out) (fun hHeld => ?_)
  generalize w5.drew = wd at *
  refine wpAnyH_take (i := 0) (v := ?_) rfl (by kernel_rfl) (by kernel_rfl) (by kernel_rfl) (fun _ _ _ h => h) (Or.inl ⟨by rfl, ?_⟩) hHeld ?_
  rotate_left 1
  · intro w9 hSw; obtain ⟨⟨g0, g1, g2, g3⟩, g4, g5, g6, g7⟩ := hSw; go_simp; try with_reducible rfl
  change wpAnyH _ _ _ _ _ _ _ (Act.put _ (some 44) _) _
  simp only [Act.put, List.setIfInBounds_toArray, List.set_cons_zero, List.set_cons_succ]
  refine wpAnyH_take (i := 2) (v := ?_) rfl (by kernel_rfl) (by kernel_rfl) (by kernel_rfl) (fun _ _ _ h => h) (Or.inl ⟨by rfl, ?_⟩) hHeld ?_
  rotate_left 1
  · intro w9 hSw; obtain ⟨⟨g0, g1, g2, g3⟩, g4, g5, g6, g7⟩ := hSw; go_simp; try with_reducible rfl
  change wpAnyH _ _ _ _ _ _ _ (Act.put _ (some 46) _) _
  simp only [Act.put, List.setIfInBounds_toArray, List.set_cons_zero, List.set_cons_succ]
  refine wpAnyH_take (i := 3) (v := ?_) rfl (by kernel_rfl) (by kernel_rfl) (by kernel_rfl) (fun _ _ _ h => h) (Or.inl ⟨by rfl, ?_⟩) hHeld ?_
  rotate_left 1
  · intro w9 hSw; obtain ⟨⟨g0, g1, g2, g3⟩, g4, g5, g6, g7⟩ := hSw; go_simp; try with_reducible rfl
  change wpAnyH _ _ _ _ _ _ _ (Act.put _ (some 47) _) _
  simp only [Act.put, List.setIfInBounds_toArray, List.set_cons_zero, List.set_cons_succ]
  refine wpAnyH_ready (rs := [1]) (by kernel_rfl) (by simp) ?_
  refine AllReadyH.cons rfl (fun K hK => ?_) AllReadyH.nil
  go_simp
  refine (HAc'.out _ HR1.out).mono ?_
  rintro e w6 ⟨M, rfl, hM1, hM2, hM3, hM4, hb6⟩
  have hB6 : Below W0.heap.size W0 w6 := HR1.out.trans (hb6.mono HR1.out.size)
  have HM2 : Hid (M.length = L.length) := hM2
  have HM1 : Hid (tys M = tys L) := hM1
  clear hM1 hM2
  go_simp
  refine hK.out _ _ (HX.out _ hB6) (fun hHeld => ?_)
  clear hK K
  refine wpAnyH_ready (rs := [4]) (by kernel_rfl) (by simp) ?_
  refine AllReadyH.cons rfl (fun K hK => ?_) AllReadyH.nil
  go_simp
  refine (HCp.out _ hB6).mono ?_
  intro e w7 hcp
  obtain ⟨y, rfl, hyt, hyI, hyN, hb7⟩ := cp_lt hcp
  have HYt : Hid (y.t = x.t) := hyt
  have hB7 : Below W0.heap.size W0 w7 := hB6.trans (hb7.mono hB6.size)
  clear hyt hcp
  go_simp
  refine hK.out _ _ (HX.out _ hB7) (fun hHeld => ?_)
  clear hK K
  have hB8 : Below W0.heap.size W0 (w7.alloc (.cells (tyA y.t y.vo y.va y.vc) 30)) := hB7.trans ((al_b _ _).mono hB7.size)
  have HIn : Hid (Calls Tryz.prog 56 #[.slice (some ⟨wd.heap.size, 0, none⟩) L.length L.length, .int .i64 (pl : Int), .slice (some ⟨w7.heap.size, 0, none⟩) 1 1] (w7.alloc (.cells (tyA y.t y.vo y.va y.vc) 30)) fun e w' => InP M pl y (w7.alloc (.cells (tyA y.t y.vo y.va y.vc) 30)) e w') := by
    have hg8 : (w7.alloc (.cells (tyA y.t y.vo y.va y.vc) 30)).heap[wd.heap.size]? = some (.cells (tCells M).toArray 30 (0, 0)) := by
      have hl6 := (Array.getElem?_eq_some_iff.1 hM3).1
      have e7 := (hb7.block _ hl6).trans hM3
      exact ((al_b w7 _).block _ (Array.getElem?_eq_some_iff.1 e7).1).trans e7
    have := insert_any wd.heap.size w7.heap.size M pl y (w7.alloc (.cells (tyA y.t y.vo y.va y.vc) 30)) hg8 (new_at w7 _) (by rw [HM2.out]; exact HPl.out) (by rw [HM2.out]; have := HL2.out; omega)
    rw [HM2.out] at this
    exact this
  have HOk : Hid (∀ e w9, InP M pl y (w7.alloc (.cells (tyA y.t y.vo y.va y.vc) 30)) e w9 → ∃ sa sc, e = .returned (.slice sa (M.length + 1) sc) ∧ AdP (insT (tys L) pl x.t, 0) w (.returned (.tuple #[.slice sa (M.length + 1) sc, .int .i64 0])) w9) := fun e w9 h => AdP.ok HBw.out HR1.out HM1.out (fun z hz => (hM4 z hz).1) hb6 HYt.out hyI hb7 h
  clear hM3 hM4 hyI hyN
  refine wpAnyH_ready (rs := [5]) (by kernel_rfl) (by simp) ?_
  refine AllReadyH.cons rfl (fun K hK => ?_) AllReadyH.nil
  go_simp
  refine hK.out _ _ (HX.out _ hB8) (fun hHeld => ?_)
  clear hK K
  refine wpAnyH_ready (rs := [6]) (by kernel_rfl) (by simp) ?_
  refine AllReadyH.cons rfl (fun K hK => ?_) AllReadyH.nil
  go_simp
  refine HIn.out.mono ?_
  intro e w9 hin
  have hB9 : Below W0.heap.size W0 w9 := by
    obtain ⟨c, -, -, hb9⟩ := hin
    exact hB8.trans (hb9.mono hB8.size)
  obtain ⟨sa, sc, rfl, hA⟩ := HOk.out e w9 hin
  have HEnd : Hid (AdP R w (.returned (.tuple #[.slice sa (M.length + 1) sc, .int .i64 0])) w9) := by
    rw [HE.out]
    exact hA
  clear hA hin HIn HOk
  go_simp
  refine hK.out _ _ (HX.out _ hB9) (fun hHeld => ?_)
  clear hK K
  refine wpAnyH_ready (rs := [7]) (by kernel_rfl) (by simp) ?_
  refine AllReadyH.cons rfl (fun K hK => ?_) AllReadyH.nil
  go_simp
  refine hK.out _ _ hHeld (fun hHeld => ?_)
  clear hK K
  refine wpAnyH_ready (rs := [8]) (by kernel_rfl) (by simp) ?_
  refine AllReadyH.cons rfl (fun K hK => ?_) AllReadyH.nil
  go_simp
  refine hK.out _ _ hHeld (fun hHeld => ?_)
  clear hK K
  refine wpAnyH_done (by kernel_rfl) ?_ _
  clear hHeld HX HSz HBw HCp HAc' HM1 HM2 HYt HE
  go_wp2
  go_ret2
  exact HEnd.out
end Go.Proofs.YtkcnkjaeidbjbaaGreatDoor
/- law05's one and Few: walks. -/
namespace Go.Proofs.YtkcnkjaeidbjbaaGreatDoor
open Go.RowKit Go.ChangeMaps

/-- Is a type not more than statements go through? -/
def oneB (t : Ty) : Bool := decide (t.n.size ≤ 200) && (decide (t.p.size ≤ 200) && (decide (t.ch.length ≤ 12) && (decide (∀ s ∈ t.ch, s.size ≤ 200) && (fewF t.own && fewF t.all))))
/-- A type that came in. -/
def InT (t : Ty) : Prop := t.own.length ≤ 140737488355328 ∧ t.all.length ≤ 140737488355328 ∧ t.ch.length ≤ 140737488355328
set_option maxRecDepth 100000 in
set_option maxHeartbeats 4000000 in
theorem one_any (x : LT) (w : World) (hr : IsTy w x.t x.vo x.va x.vc) (hl : InT x.t) :
    Calls Tryz.prog 9 #[ltV x] w fun e w' => e = .returned (.bool (oneB x.t)) ∧ Below w.heap.size w w' := by
  obtain ⟨W0, hW0⟩ : ∃ W0, W0 = w.alloc (.cells (tyA x.t x.vo x.va x.vc) 30) := ⟨_, rfl⟩
  have hA : Below w.heap.size w W0 := by rw [hW0]; exact al_b w _
  have hn0 : W0.heap[w.heap.size]? = some (.cells (tyA x.t x.vo x.va x.vc) 30 (0, 0)) := by rw [hW0]; exact new_at w _
  obtain ⟨⟨g0, g1, g2, g3⟩, g4, g5, g6, g7⟩ := BxT.of hn0
  have HB : Hid (Below w.heap.size w W0) := hA
  have HF1 : Hid (Calls Tryz.prog 34 #[x.vo] W0 fun e w' => e = .returned (.bool (fewF x.t.own)) ∧ w' = W0) := fewF_any _ x.t.own _ (hr.1.below hA) hl.1
  have HF2 : Hid (Calls Tryz.prog 34 #[x.va] W0 fun e w' => e = .returned (.bool (fewF x.t.all)) ∧ w' = W0) := fewF_any _ x.t.all _ (hr.2.1.below hA) hl.2.1
  have HR : Hid (IsRow W0 1 x.vc x.t.ch.length (sVals x.t.ch)) := hr.2.2.below hA
  have HD : Hid (oneB x.t = (decide (x.t.n.size ≤ 200) && (decide (x.t.p.size ≤ 200) && (decide (x.t.ch.length ≤ 12) && (decide (∀ s ∈ x.t.ch, s.size ≤ 200) && (fewF x.t.own && fewF x.t.all)))))) := rfl
  generalize oneB x.t = R at *
  generalize fewF x.t.own = F1 at *
  generalize fewF x.t.all = F2 at *
  clear hr hl hn0 hA
  by_cases h1 : x.t.n.size ≤ 200
  rotate_left
  · have hR : R = false := by rw [HD.out, decide_eq_false h1, Bool.false_and]
    have d1 : decide ((200 : Int) < (x.t.n.size : Int)) = true := by simp; omega
    subst hR
    clear HD HF1 HF2 HR h1
    go_enter Tryz.func9, Tryz.ntmps9
    go_wp2_with fail
    rw [← hW0]
    clear hW0
    go_wp2
    go_ret
    exact ⟨rfl, HB.out⟩
  have d1 : decide ((200 : Int) < (x.t.n.size : Int)) = false := by simp; omega
  by_cases h2 : x.t.p.size ≤ 200
  rotate_left
  · have hR : R = false := by rw [HD.out, decide_eq_false h2, Bool.false_and, Bool.and_false]
    have d2 : decide ((200 : Int) < (x.t.p.size : Int)) = true := by simp; omega
    subst hR
    clear HD HF1 HF2 HR h1 h2
    go_enter Tryz.func9, Tryz.ntmps9
    go_wp2_with fail
    rw [← hW0]
    clear hW0
    go_wp2
    go_ret
    exact ⟨rfl, HB.out⟩
  have d2 : decide ((200 : Int) < (x.t.p.size : Int)) = false := by simp; omega
  by_cases h3 : x.t.ch.length ≤ 12
  rotate_left
  · have hR : R = false := by rw [HD.out, decide_eq_false h3, Bool.false_and, Bool.and_false, Bool.and_false]
    have d3 : decide ((12 : Int) < (x.t.ch.length : Int)) = true := by simp; omega
    subst hR
    clear HD HF1 HF2 HR h1 h2 h3
    go_enter Tryz.func9, Tryz.ntmps9
    go_wp2_with fail
    rw [← hW0]
    clear hW0
    go_wp2
    go_ret
    exact ⟨rfl, HB.out⟩
  have d3 : decide ((12 : Int) < (x.t.ch.length : Int)) = false := by simp; omega
  have HD1 : Hid (R = (decide (∀ s ∈ x.t.ch, s.size ≤ 200) && (F1 && F2))) := by show _ = _; rw [HD.out, decide_eq_true h1, decide_eq_true h2, decide_eq_true h3, Bool.true_and, Bool.true_and, Bool.true_and]
  clear HD h1 h2
  go_enter Tryz.func9, Tryz.ntmps9
  go_wp2_with fail
  rw [← hW0]
  clear hW0
  go_wp2_with fail
  go_loopw [3] (fun i wr => ∃ k : Nat, k ≤ x.t.ch.length ∧ i = .int .i64 (k : Int) ∧ Hid (∀ (j : Nat) (h : j < x.t.ch.length), j < k → x.t.ch[j].size ≤ 200) ∧ W0 = wr) (fun i _ => x.t.ch.length - (intOf i).toNat)
  case atStart => exact ⟨0, Nat.zero_le _, rfl, (fun j h hj => absurd hj (Nat.not_lt_zero _)), rfl⟩
  case round =>
    obtain ⟨k, hk, rfl, HO, rfl⟩ := hrel
    by_cases hlk : k < x.t.ch.length
    · have dk : decide ((k : Int) < (x.t.ch.length : Int)) = true := by simp; omega
      obtain ⟨b, off, hac, -, hlt, hcap, hc⟩ := s_at HR.out (by omega)
      have y0 := hc k hlk
      have i1 : (0 : Int) ≤ (k : Int) := by omega
      have i2 : (k : Int) < (x.t.ch.length : Int) := by omega
      have HNo : Hid (¬ x.t.ch[k].size ≤ 200 → R = false) := fun h => by
        rw [HD1.out, decide_eq_false (fun hh => h (hh _ (List.getElem_mem hlk))), Bool.false_and]
      have HYes : Hid (x.t.ch[k].size ≤ 200 → ∀ (j : Nat) (h : j < x.t.ch.length), j < k + 1 → x.t.ch[j].size ≤ 200) := fun hs j h hj => by
        by_cases e : j = k
        · subst e; exact hs
        · exact HO.out j h (by omega)
      generalize x.t.ch[k]'hlk = s at *
      obtain ⟨xt, xao, xco, xaa, xca, xac, xcc⟩ := x
      dsimp only [LT.vc] at *
      subst hac
      by_cases hs : s.size ≤ 200
      · have ds : decide ((200 : Int) < (s.size : Int)) = false := by simp; omega
        have HO2 : Hid (∀ (j : Nat) (h : j < xt.ch.length), j < k + 1 → xt.ch[j].size ≤ 200) := HYes.out hs
        clear HNo HYes hs hc HO HF1 HF2 HR HD1
        go_wp2
        go_roundw
        case rel => exact ⟨k + 1, by omega, by simp, HO2, trivial⟩
        case measure => simp [intOf]; omega
      · have ds : decide ((200 : Int) < (s.size : Int)) = true := by simp; omega
        have hR : Hid (R = false) := HNo.out hs
        clear HNo HYes hs hc HO HF1 HF2 HR HD1
        go_wp2
        go_ret
        exact ⟨by rw [hR.out]; rfl, HB.out⟩
    · have dk : decide ((k : Int) < (x.t.ch.length : Int)) = false := by simp; omega
      have hR : R = (F1 && F2) := by
        rw [HD1.out, decide_eq_true (fun s hs => by
          obtain ⟨j, hj, rfl⟩ := List.mem_iff_getElem.1 hs
          exact HO.out j hj (by omega)), Bool.true_and]
      clear HO HD1 HR
      go_wp2_with fail
      refine HF1.out.mono ?_
      rintro e w1 ⟨rfl, h1⟩
      obtain rfl := h1.symm
      cases F1
      · rw [Bool.false_and] at hR
        subst hR
        clear HF1 HF2
        go_wp2
        go_ret
        exact ⟨rfl, HB.out⟩
      · rw [Bool.true_and] at hR
        subst hR
        clear HF1
        go_wp2_with fail
        refine HF2.out.mono ?_
        rintro e w2 ⟨rfl, h2⟩
        obtain rfl := h2.symm
        clear HF2
        go_wp2
        go_ret
        exact ⟨rfl, HB.out⟩
/-- Are types not more? -/
def fewL (l : List Ty) : Bool := decide (∀ (k : Nat) (h : k < l.length), k ≤ 25 ∧ oneB l[k] = true)
set_option maxRecDepth 100000 in
set_option maxHeartbeats 4000000 in
theorem fewT_any (v : Value) (L : List LT) (w : World) (hr : IsTys w v L) (hl : L.length ≤ 140737488355328) (hi : ∀ x ∈ L, InT x.t) :
    Calls Tryz.prog 7 #[v] w fun e w' => e = .returned (.bool (fewL (tys L))) ∧ Below w.heap.size w w' := by
  obtain ⟨a0, cap0, rfl⟩ := hr.1.form
  have HR : Hid (∀ W, Below w.heap.size w W → IsRow W 8 (.slice a0 L.length cap0) L.length (tCells L)) := fun W h => hr.1.below h
  have HC : Hid (∀ (k : Nat) (hk : k < L.length) W, Below w.heap.size w W → Calls Tryz.prog 9 #[ltV L[k]] W fun e w' => e = .returned (.bool (oneB L[k].t)) ∧ Below W.heap.size W w') := fun k hk W h => one_any _ W ((hr.2 _ (List.getElem_mem hk)).below h) (hi _ (List.getElem_mem hk))
  have HNo : Hid (∀ (k : Nat) (hk : k < L.length), ¬ (k ≤ 25 ∧ oneB L[k].t = true) → fewL (tys L) = false) := fun k hk h => decide_eq_false fun hh => h (by
    have := hh k (by rw [tys_len]; exact hk)
    rwa [tys_at L k hk] at this)
  have HYes : Hid ((∀ (k : Nat) (hk : k < L.length), k ≤ 25 ∧ oneB L[k].t = true) → fewL (tys L) = true) := fun h => decide_eq_true fun k hk => by
    rw [tys_len] at hk
    rw [tys_at L k hk]
    exact h k hk
  generalize fewL (tys L) = R at *
  clear hr hi
  go_enter Tryz.func7, Tryz.ntmps7
  go_wp2_with fail
  go_loopw [3] (fun i wr => ∃ k : Nat, k ≤ L.length ∧ k ≤ 26 ∧ i = .int .i64 (k : Int) ∧ Hid (∀ (j : Nat) (h : j < L.length), j < k → j ≤ 25 ∧ oneB L[j].t = true) ∧ Hid (Below w.heap.size w wr)) (fun i _ => 27 - (intOf i).toNat)
  case atStart => exact ⟨0, Nat.zero_le _, by omega, rfl, (fun j h hj => absurd hj (Nat.not_lt_zero _)), Below.refl _ _⟩
  case round =>
    obtain ⟨k, hk, hk26, rfl, HO, HB⟩ := hrel
    have hsz := HB.out.size
    by_cases hlk : k < L.length
    · have dk : decide ((k : Int) < (L.length : Int)) = true := by simp; omega
      by_cases h25 : k ≤ 25
      · have d25 : decide ((25 : Int) < (k : Int)) = false := by simp; omega
        obtain ⟨b, off, rfl, hbl, -, hcap, hc⟩ := t_at (HR.out _ HB.out) (by omega)
        obtain ⟨⟨y0, y1, y2, y3⟩, y4, y5, y6, y7⟩ := hc k hlk
        have HC1 : Hid (Calls Tryz.prog 9 #[ltV L[k]] wr fun e w' => e = .returned (.bool (oneB L[k].t)) ∧ Below wr.heap.size wr w') := HC.out k hlk wr HB.out
        have HN1 : Hid (oneB L[k].t = false → R = false) := fun h => HNo.out k hlk (fun hh => by rw [h] at hh; cases hh.2)
        have HO1 : Hid (oneB L[k].t = true → ∀ (j : Nat) (h : j < L.length), j < k + 1 → j ≤ 25 ∧ oneB L[j].t = true) := fun ho j h hj => by
          by_cases e : j = k
          · subst e; exact ⟨h25, ho⟩
          · exact HO.out j h (by omega)
        have i1 : (0 : Int) ≤ (k : Int) := by omega
        have i2 : (k : Int) < (L.length : Int) := by omega
        generalize L[k]'hlk = x at *
        clear hc HR HC HNo HYes HO
        go_wp2_with fail
        refine HC1.out.mono ?_
        rintro e w1 ⟨rfl, hb⟩
        have HB1 : Hid (Below w.heap.size w w1) := HB.out.trans (hb.mono hsz)
        clear hb HC1 y0 y1 y2 y3 y4 y5 y6 y7
        cases ho : oneB x.t
        · have hR : Hid (R = false) := HN1.out ho
          clear HN1 HO1 ho
          go_wp2
          go_ret
          exact ⟨by rw [hR.out]; rfl, HB1.out⟩
        · have HO2 : Hid (∀ (j : Nat) (h : j < L.length), j < k + 1 → j ≤ 25 ∧ oneB L[j].t = true) := HO1.out ho
          clear HN1 HO1 ho
          go_wp2
          go_roundw
          case rel => exact ⟨k + 1, by omega, by omega, by simp, HO2, HB1⟩
          case measure => simp [intOf]; omega
      · have d25 : decide ((25 : Int) < (k : Int)) = true := by simp; omega
        have hR : Hid (R = false) := HNo.out k hlk (fun hh => h25 hh.1)
        clear HR HC HNo HYes HO
        go_wp2
        go_ret
        exact ⟨by rw [hR.out]; rfl, HB.out⟩
    · have dk : decide ((k : Int) < (L.length : Int)) = false := by simp; omega
      have hR : Hid (R = true) := HYes.out fun j h => HO.out j h (by omega)
      clear HR HC HNo HYes HO
      go_wp2
      go_ret
      exact ⟨by rw [hR.out]; rfl, HB.out⟩
theorem oneB_ok {t : Ty} (h : oneB t = true) : NmT t ∧ t.own.length ≤ 1000 ∧ t.all.length ≤ 1000 ∧ t.ch.length ≤ 12 := by
  unfold oneB at h
  simp only [Bool.and_eq_true, decide_eq_true_eq] at h
  obtain ⟨h1, h2, h3, h4, h5, h6⟩ := h
  have key : ∀ l : List Fd, fewF l = true → l.length ≤ 1000 ∧ NmF l := fun l h => by
    unfold fewF at h
    rw [decide_eq_true_eq] at h
    refine ⟨?_, fun y hy => ?_⟩
    · rcases Nat.lt_or_ge 1000 l.length with hl | hl
      · have := (h 1000 hl).1
        omega
      · exact hl
    · obtain ⟨k, hk, rfl⟩ := List.mem_iff_getElem.1 hy
      have := (h k hk).2
      omega
  obtain ⟨k1, k2⟩ := key _ h5
  obtain ⟨k3, k4⟩ := key _ h6
  exact ⟨⟨by omega, by omega, fun s hs => by have := h4 s hs; omega, k2, k4, by omega, by omega, by omega⟩, k1, k3, h3⟩
theorem fewL_ok {L : List LT} (h : fewL (tys L) = true) : L.length ≤ 26 ∧ NmL L ∧ SmL L := by
  unfold fewL at h
  rw [decide_eq_true_eq] at h
  have key : ∀ x ∈ L, oneB x.t = true := fun x hx => by
    obtain ⟨k, hk, rfl⟩ := List.mem_iff_getElem.1 hx
    have := (h k (by rw [tys_len]; exact hk)).2
    rwa [tys_at L k hk] at this
  refine ⟨?_, fun x hx => (oneB_ok (key x hx)).1, fun x hx => ?_⟩
  · rcases Nat.lt_or_ge 26 L.length with hl | hl
    · have := (h 26 (by rw [tys_len]; exact hl)).1
      omega
    · exact hl
  · obtain ⟨-, h1, h2, h3⟩ := oneB_ok (key x hx)
    exact ⟨h1, h2, by omega⟩
end Go.Proofs.YtkcnkjaeidbjbaaGreatDoor
