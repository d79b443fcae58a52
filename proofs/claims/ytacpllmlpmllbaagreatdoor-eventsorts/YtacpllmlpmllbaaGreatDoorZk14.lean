/- forest.copied: a walk. -/
import Derived.Test.YtacpllmlpmllbaaGreatDoorZk10
import Derived.Test.YtacpllmlpmllbaaGreatDoorZk12
import Derived.Laws.MakeOwn
import Derived.Laws.CopyOwn
import Derived.Laws.CopyRow
import Derived.Lib.AppendZeros
import Derived.Deep.WholeRow
import Derived.Test.YtacpllmlpmllbaaGreatDoorZk13
namespace Go.Proofs.YtacpllmlpmllbaaGreatDoor
open Go.RowKit Go.ChangeMaps

theorem results_c1 {fn : Func} {p : Tmp} {ty : TypeId} (h : fn.results = #[.cell p ty]) (tmps : Array Value) (P : Program) (w : World) :
    (results fn tmps).run P w = ((asAddr (tmps.getD p undef)).run P w).andThen fun a w₁ => (loadVar ty a).run P w₁ := by
  simp only [results, h]
  simp [Sem.run_bind, Result.andThen]
/-- Behind the three stores. -/
def CtT (w : World) (t : Ty) (wx : World) : Prop := ∃ x1 y1 x2 y2 x3 y3, Hid (OwnTy (w.heap.size + 2) wx t (.slice x1 t.own.length y1) (.slice x2 t.all.length y2) (.slice x3 t.ch.length y3)) ∧ Hid (Below w.heap.size w wx) ∧ Hid (BxT w.heap.size t (.slice x1 t.own.length y1) (.slice x2 t.all.length y2) (.slice x3 t.ch.length y3) wx) ∧ Hid (∀ j, wx.frozen? ⟨w.heap.size + 1, j, none⟩ = false) ∧ Hid (BxT (w.heap.size + 1) ⟨⟨#[]⟩, ⟨#[]⟩, [], [], [], 0, 0, 0⟩ (.slice none 0 0) (.slice none 0 0) (.slice none 0 0) wx)
set_option maxRecDepth 100000 in
set_option maxHeartbeats 4000000 in
theorem copied_any (t : Ty) (vo va vc : Value) (w : World) (hr : IsTy w t vo va vc) (h1 : t.own.length ≤ 1000) (h2 : t.all.length ≤ 1000) (h3 : t.ch.length ≤ 1000) :
    Calls Tryz.prog 80 #[tyV t vo va vc] w fun e w' => CpT t w e w' := by
  obtain ⟨r1, r2, r3⟩ := hr
  obtain ⟨ao, co, rfl⟩ := r1.form
  obtain ⟨aa, ca, rfl⟩ := r2.form
  obtain ⟨ac, cc, rfl⟩ := r3.form
  obtain ⟨W0, hW0⟩ : ∃ W0, W0 = (w.alloc (.cells (tyA t (.slice ao t.own.length co) (.slice aa t.all.length ca) (.slice ac t.ch.length cc)) 67)).alloc (.cells zTyA 67) := ⟨_, rfl⟩
  have hA : Below w.heap.size w W0 := by rw [hW0]; exact (al_b w _).trans ((al_b _ _).mono (by simp))
  have hz : W0.heap.size = w.heap.size + 2 := by rw [hW0]; simp
  have hn0 : W0.heap[w.heap.size]? = some (.cells (tyA t (.slice ao t.own.length co) (.slice aa t.all.length ca) (.slice ac t.ch.length cc)) 67 (0, 0)) := by
    rw [hW0]
    show ((w.heap.push _).push _)[w.heap.size]? = _
    rw [Array.getElem?_push, if_neg (by simp), Array.getElem?_push, if_pos rfl]
  have hn1 : W0.heap[w.heap.size + 1]? = some (.cells zTyA 67 (0, 0)) := by
    rw [hW0]
    show ((w.heap.push _).push _)[w.heap.size + 1]? = _
    rw [Array.getElem?_push, if_pos (by simp)]
  have HX : Hid (∀ W, Below W0.heap.size W0 W → BxT w.heap.size t (.slice ao t.own.length co) (.slice aa t.all.length ca) (.slice ac t.ch.length cc) W) := fun W h => BxT.of ((h.block _ (by omega)).trans hn0)
  have HZ : Hid (∀ W, Below W0.heap.size W0 W → BxT (w.heap.size + 1) ⟨⟨#[]⟩, ⟨#[]⟩, [], [], [], 0, 0, 0⟩ (.slice none 0 0) (.slice none 0 0) (.slice none 0 0) W) := fun W h => BxT.of ((h.block _ (by omega)).trans hn1)
  have HF0 : Hid (∀ W, Below W0.heap.size W0 W → ∀ j, W.frozen? ⟨w.heap.size, j, none⟩ = false) := fun W h j => Lib.frozen_of_heap ((h.block _ (by omega)).trans hn0) j
  have HF1 : Hid (∀ W, Below W0.heap.size W0 W → ∀ j, W.frozen? ⟨w.heap.size + 1, j, none⟩ = false) := fun W h j => Lib.frozen_of_heap ((h.block _ (by omega)).trans hn1) j
  have HBw : Hid (∀ W, Below W0.heap.size W0 W → Below w.heap.size w W) := fun W h => hA.trans (h.mono hA.size)
  have HC1 : Hid (∀ W, Below W0.heap.size W0 W → Calls Tryz.prog 132 #[.slice ao t.own.length co] W fun e w' => ∃ x y, e = .returned (.slice x t.own.length y) ∧ Hid (w'.ownsRow W0.heap.size 110 3 (.slice x t.own.length y) t.own.length (fCells t.own)) ∧ Below W0.heap.size W0 w' ∧ Below W.heap.size W w') := fun W h => (cloneF_any _ t.own W (r1.below (HBw.out W h)) h1).mono fun e w' ⟨v, he, ho, hb⟩ => by
    obtain ⟨x, y, rfl⟩ := (IsRow.own ho).form
    exact ⟨x, y, he, own_leT ho h.size, h.trans (hb.mono h.size), hb⟩
  have HC2 : Hid (∀ W, Below W0.heap.size W0 W → Calls Tryz.prog 132 #[.slice aa t.all.length ca] W fun e w' => ∃ x y, e = .returned (.slice x t.all.length y) ∧ Hid (w'.ownsRow W0.heap.size 110 3 (.slice x t.all.length y) t.all.length (fCells t.all)) ∧ Below W0.heap.size W0 w' ∧ Below W.heap.size W w') := fun W h => (cloneF_any _ t.all W (r2.below (HBw.out W h)) h2).mono fun e w' ⟨v, he, ho, hb⟩ => by
    obtain ⟨x, y, rfl⟩ := (IsRow.own ho).form
    exact ⟨x, y, he, own_leT ho h.size, h.trans (hb.mono h.size), hb⟩
  have HC3 : Hid (∀ W, Below W0.heap.size W0 W → Calls Tryz.prog 133 #[.slice ac t.ch.length cc] W fun e w' => ∃ x y, e = .returned (.slice x t.ch.length y) ∧ Hid (w'.ownsRow W0.heap.size 9 1 (.slice x t.ch.length y) t.ch.length (sVals t.ch)) ∧ Below W0.heap.size W0 w' ∧ Below W.heap.size W w') := fun W h => (cloneS_any _ t.ch W (r3.below (HBw.out W h)) h3).mono fun e w' ⟨v, he, ho, hb⟩ => by
    obtain ⟨x, y, rfl⟩ := (IsRow.own ho).form
    exact ⟨x, y, he, own_leT ho h.size, h.trans (hb.mono h.size), hb⟩
  have HFin : Hid (∀ w1 w2 w3 x1 y1 x2 y2 x3 y3, Hid (w1.ownsRow W0.heap.size 110 3 (.slice x1 t.own.length y1) t.own.length (fCells t.own)) → Hid (w2.ownsRow W0.heap.size 110 3 (.slice x2 t.all.length y2) t.all.length (fCells t.all)) → Hid (w3.ownsRow W0.heap.size 9 1 (.slice x3 t.ch.length y3) t.ch.length (sVals t.ch)) → Below w1.heap.size w1 w2 → Below w2.heap.size w2 w3 → Below W0.heap.size W0 w3 → CtT w t (((w3.setCell ⟨w.heap.size, 2, none⟩ (.slice x1 t.own.length y1)).setCell ⟨w.heap.size, 3, none⟩ (.slice x2 t.all.length y2)).setCell ⟨w.heap.size, 4, none⟩ (.slice x3 t.ch.length y3))) := fun w1 w2 w3 x1 y1 x2 y2 x3 y3 o1 o2 o3 hb2 hb3 hb => by
    have p1 := own_belowE (own_belowE o1.out hb2) hb3
    have p2 := own_belowE o2.out hb3
    have p3 := o3.out
    rw [hz] at p1 p2 p3
    have oT : OwnTy (w.heap.size + 2) w3 t (.slice x1 t.own.length y1) (.slice x2 t.all.length y2) (.slice x3 t.ch.length y3) := ⟨p1, p2, p3⟩
    refine ⟨x1, y1, x2, y2, x3, y3, ((oT.set (g := w.heap.size) (by omega) 2 _).set (g := w.heap.size) (by omega) 3 _).set (g := w.heap.size) (by omega) 4 _, (((HBw.out _ hb).setCell (Nat.le_refl _) _).setCell (Nat.le_refl _) _).setCell (Nat.le_refl _) _, (HX.out _ hb).set _ _ _, fun j => ?_, (((HZ.out _ hb).far (by omega) 2 _).far (by omega) 3 _).far (by omega) 4 _⟩
    rw [World.frozen?_setCell, World.frozen?_setCell, World.frozen?_setCell]
    exact HF1.out _ hb j
  have HBd : Hid (Below W0.heap.size W0 W0.drew) := (Below.refl _ _).drew
  obtain ⟨⟨a0, a1, a2, a3⟩, a4, a5, a6, a7⟩ := HX.out _ (Below.refl _ _)
  clear r1 r2 r3 hA hn0 hn1 h1 h2 h3
  go_enter Tryz.func80, Tryz.ntmps80
  go_wp2_with fail
  rw [← hW0]
  clear hW0
  go_cut [] (fun wx => CtT w t wx)
  case first =>
    go_region_with (first
      | (go_at_call 132; (with_reducible refine Calls.mono (HC1.out W0.drew HBd.out) ?_); rintro e w1 ⟨x1, y1, rfl, HO1, hb1, -⟩; obtain ⟨⟨-, -, -, b3⟩, b4, -, -, -⟩ := HX.out _ hb1)
      | (go_at_call 132; (with_reducible refine Calls.mono (HC2.out _ hb1) ?_); rintro e w2 ⟨x2, y2, rfl, HO2, hb2, hc2⟩; obtain ⟨-, b4', -, -, -⟩ := HX.out _ hb2)
      | (go_at_call 133; (with_reducible refine Calls.mono (HC3.out _ hb2) ?_); rintro e w3 ⟨x3, y3, rfl, HO3, hb3, hc3⟩; obtain ⟨⟨k0, k1, k2, k3⟩, k4, k5, k6, k7⟩ := HX.out _ hb3; have kf := HF0.out _ hb3))
    all_goals (try go_wp2_with fail)
    all_goals go_meet
    all_goals exact HFin.out _ _ _ _ _ _ _ _ _ HO1 HO2 HO3 hc2 hc3 hb3
  case rest =>
    obtain ⟨x1, y1, x2, y2, x3, y3, HO, HB, HT, HF, HZ0⟩ := hcut
    obtain ⟨⟨c0, c1, c2, c3⟩, c4, c5, c6, c7⟩ := HT.out
    obtain ⟨⟨e0, e1, e2, e3⟩, e4, e5, e6, e7⟩ := HZ0.out
    have f0 := HF.out
    clear HX HZ HF0 HF1 HBw HC1 HC2 HC3 HFin HBd a0 a1 a2 a3 a4 a5 a6 a7 HT HZ0 HF hz
    have HEnd : Hid (∀ u0 u1 u2 u3 u4 u5 u6 u7, CpT t w (.returned (tyV t (.slice x1 t.own.length y1) (.slice x2 t.all.length y2) (.slice x3 t.ch.length y3))) ((((((((wc.setCell ⟨w.heap.size + 1, 0, none⟩ u0).setCell ⟨w.heap.size + 1, 1, none⟩ u1).setCell ⟨w.heap.size + 1, 2, none⟩ u2).setCell ⟨w.heap.size + 1, 3, none⟩ u3).setCell ⟨w.heap.size + 1, 4, none⟩ u4).setCell ⟨w.heap.size + 1, 5, none⟩ u5).setCell ⟨w.heap.size + 1, 6, none⟩ u6).setCell ⟨w.heap.size + 1, 7, none⟩ u7)) := fun u0 u1 u2 u3 u4 u5 u6 u7 =>
      ⟨_, _, _, rfl, (((((((((HO.out.set (g := w.heap.size + 1) (by omega) 0 u0).set (g := w.heap.size + 1) (by omega) 1 u1).set (g := w.heap.size + 1) (by omega) 2 u2).set (g := w.heap.size + 1) (by omega) 3 u3).set (g := w.heap.size + 1) (by omega) 4 u4).set (g := w.heap.size + 1) (by omega) 5 u5).set (g := w.heap.size + 1) (by omega) 6 u6).set (g := w.heap.size + 1) (by omega) 7 u7).le (by omega)), (((((((HB.out.setCell (p := ⟨w.heap.size + 1, 0, none⟩) (Nat.le_add_right _ 1) u0).setCell (p := ⟨w.heap.size + 1, 1, none⟩) (Nat.le_add_right _ 1) u1).setCell (p := ⟨w.heap.size + 1, 2, none⟩) (Nat.le_add_right _ 1) u2).setCell (p := ⟨w.heap.size + 1, 3, none⟩) (Nat.le_add_right _ 1) u3).setCell (p := ⟨w.heap.size + 1, 4, none⟩) (Nat.le_add_right _ 1) u4).setCell (p := ⟨w.heap.size + 1, 5, none⟩) (Nat.le_add_right _ 1) u5).setCell (p := ⟨w.heap.size + 1, 6, none⟩) (Nat.le_add_right _ 1) u6).setCell (p := ⟨w.heap.size + 1, 7, none⟩) (Nat.le_add_right _ 1) u7⟩
    go_wp2_with fail
    try simp only [Exit.inBlock, Exit.then]
    refine bodyPost_ret (v := tyV t (.slice x1 t.own.length y1) (.slice x2 t.all.length y2) (.slice x3 t.ch.length y3)) ?_ rfl (HEnd.out _ _ _ _ _ _ _ _)
    rw [results_c1 rfl]; go_simp
end Go.Proofs.YtacpllmlpmllbaaGreatDoor
/- forest.Find: its walk. -/
namespace Go.Proofs.YtacpllmlpmllbaaGreatDoor
open Go.RowKit Go.ChangeMaps

/-- Rows of types are not too long to be copied. -/
def SmT (t : Ty) : Prop := t.own.length ≤ 1000 ∧ t.all.length ≤ 1000 ∧ t.ch.length ≤ 1000
def SmL (L : List LT) : Prop := ∀ x ∈ L, SmT x.t
/-- A copy of a type, where it lies. -/
theorem cp_lt {t : Ty} {w : World} {e : Ending} {w' : World} (h : CpT t w e w') : ∃ y : LT, e = .returned (ltV y) ∧ y.t = t ∧ IsTy w' y.t y.vo y.va y.vc ∧ NewT w.heap.size y ∧ Below w.heap.size w w' := by
  obtain ⟨vo, va, vc, rfl, ho, hb⟩ := h
  obtain ⟨x1, y1, rfl⟩ := ho.is.1.form
  obtain ⟨x2, y2, rfl⟩ := ho.is.2.1.form
  obtain ⟨x3, y3, rfl⟩ := ho.is.2.2.form
  exact ⟨⟨t, x1, y1, x2, y2, x3, y3⟩, rfl, rfl, ho.is, ⟨NewA.own ho.1, NewA.own ho.2.1, NewA.own ho.2.2⟩, hb⟩
def FnP (L : List LT) (s : ByteArray) (w : World) (e : Ending) (w' : World) : Prop := ∃ y : LT, e = .returned (.tuple #[ltV y, .bool (parN (tys L) s).isSome]) ∧ y.t = (parN (tys L) s).getD zT ∧ IsTy w' y.t y.vo y.va y.vc ∧ NewT w.heap.size y ∧ Below w.heap.size w w'
theorem parN_atL {L : List LT} {s : ByteArray} {k : Nat} (hk : k < L.length) (h1 : ∀ (j : Nat) (h : j < L.length), j < k → sameL L[j].t.n.data.toList s.data.toList = false) (h2 : sameL L[k].t.n.data.toList s.data.toList = true) : parN (tys L) s = some L[k].t := by
  unfold parN
  rw [List.find?_eq_some_iff_getElem]
  refine ⟨h2, k, by rw [tys_len]; exact hk, tys_at L k hk, fun j hj => ?_⟩
  rw [tys_at L j (by omega), h1 j (by omega) hj]
  rfl
theorem parN_noL {L : List LT} {s : ByteArray} (h1 : ∀ (j : Nat) (h : j < L.length), sameL L[j].t.n.data.toList s.data.toList = false) : parN (tys L) s = none := by
  unfold parN
  rw [List.find?_eq_none]
  intro x hx
  obtain ⟨j, hj, rfl⟩ := List.mem_iff_getElem.1 hx
  rw [tys_len] at hj
  rw [tys_at L j hj, h1 j hj]
  decide
set_option maxRecDepth 100000 in
set_option maxHeartbeats 4000000 in
theorem findT_any (v : Value) (L : List LT) (s : ByteArray) (w : World) (hr : IsTys w v L) (hl : L.length ≤ 1000000) (hn : ∀ x ∈ L, x.t.n.size ≤ 1000000) (hm : SmL L) (hs : s.size ≤ 1000000) (hU : UT w) :
    Calls Tryz.prog 37 #[v, .string s] w fun e w' => FnP L s w e w' := by
  obtain ⟨a0, cap0, rfl⟩ := hr.1.form
  obtain ⟨W0, hW0⟩ : ∃ W0, W0 = w.alloc (.cells zTyA 67) := ⟨_, rfl⟩
  have hA : Below w.heap.size w W0 := by rw [hW0]; exact al_b w _
  have hn1 : W0.heap[w.heap.size]? = some (.cells zTyA 67 (0, 0)) := by rw [hW0]; exact new_at w _
  have hz : W0.heap.size = w.heap.size + 1 := by rw [hW0]; simp
  have HZ : Hid (∀ W, Below W0.heap.size W0 W → BxT w.heap.size zT (.slice none 0 0) (.slice none 0 0) (.slice none 0 0) W) := fun W h => BxT.of ((h.block _ (by omega)).trans hn1)
  have HF1 : Hid (∀ W, Below W0.heap.size W0 W → ∀ j, W.frozen? ⟨w.heap.size, j, none⟩ = false) := fun W h j => Lib.frozen_of_heap ((h.block _ (by omega)).trans hn1) j
  have HBw : Hid (∀ W, Below W0.heap.size W0 W → Below w.heap.size w W) := fun W h => hA.trans (h.mono hA.size)
  have HR : Hid (∀ W, Below W0.heap.size W0 W → IsRow W 8 (.slice a0 L.length cap0) L.length (tCells L)) := fun W h => hr.1.below (HBw.out W h)
  have HS : Hid (∀ (k : Nat) (hk : k < L.length) W, Below W0.heap.size W0 W → Calls Tryz.prog 48 #[.string L[k].t.n, .string s] W fun e w' => e = .returned (.bool (sameL L[k].t.n.data.toList s.data.toList)) ∧ Below W.heap.size W w') := fun k hk W h => same_any _ _ W (hn _ (List.getElem_mem hk)) hs (Utf8Tabs_below hU (HBw.out W h))
  have HCp : Hid (∀ (k : Nat) (hk : k < L.length) W, Below W0.heap.size W0 W → Calls Tryz.prog 80 #[ltV L[k]] W fun e w' => CpT L[k].t W e w') := fun k hk W h => copied_any _ _ _ _ W ((hr.2 _ (List.getElem_mem hk)).below (HBw.out W h)) (hm _ (List.getElem_mem hk)).1 (hm _ (List.getElem_mem hk)).2.1 (hm _ (List.getElem_mem hk)).2.2
  have HSt : Hid (Below W0.heap.size W0 W0) := Below.refl _ _
  clear hr hn hm hU hA hn1
  go_enter Tryz.func37, Tryz.ntmps37
  go_wp2_with fail
  rw [← hW0]
  clear hW0
  go_loopw [5, 7, 10] (fun b _ i wr => b = .bool false ∧ ∃ k : Nat, k ≤ L.length ∧ i = .int .i64 (k : Int) ∧ Hid (∀ (j : Nat) (h : j < L.length), j < k → sameL L[j].t.n.data.toList s.data.toList = false) ∧ Hid (Below W0.heap.size W0 wr)) (fun _ _ i _ => L.length - (intOf i).toNat)
  case atStart => exact ⟨rfl, 0, Nat.zero_le _, rfl, (fun j h hj => absurd hj (Nat.not_lt_zero _)), HSt⟩
  case round =>
    obtain ⟨rfl, k, hk, rfl, HO, HB⟩ := hrel
    have hsz := HB.out.size
    by_cases hlk : k < L.length
    · have dk : decide ((k : Int) < L.length) = true := by simp; omega
      obtain ⟨b, off, rfl, hbl, -, hcap, hc⟩ := t_at (HR.out _ HB.out) (by omega)
      obtain ⟨⟨y0, y1, y2, y3⟩, y4, y5, y6, y7⟩ := hc k hlk
      have HS1 : Hid (∀ W, Below W0.heap.size W0 W → Calls Tryz.prog 48 #[.string L[k].t.n, .string s] W fun e w' => e = .returned (.bool (sameL L[k].t.n.data.toList s.data.toList)) ∧ Below W.heap.size W w') := fun W h => HS.out k hlk W h
      have HC1 : Hid (∀ W, Below W0.heap.size W0 W → Calls Tryz.prog 80 #[ltV L[k]] W fun e w' => CpT L[k].t W e w') := fun W h => HCp.out k hlk W h
      have HYes : Hid (sameL L[k].t.n.data.toList s.data.toList = true → parN (tys L) s = some L[k].t) := fun h => parN_atL hlk HO.out h
      have HO2 : Hid (sameL L[k].t.n.data.toList s.data.toList = false → ∀ (j : Nat) (h : j < L.length), j < k + 1 → sameL L[j].t.n.data.toList s.data.toList = false) := fun h0 j h hj => by
        by_cases e : j = k
        · subst e; exact h0
        · exact HO.out j h (by omega)
      obtain ⟨W1, hW1⟩ : ∃ W1, W1 = wr.alloc (.cells (tyA L[k].t L[k].vo L[k].va L[k].vc) 67) := ⟨_, rfl⟩
      have hA : Below wr.heap.size wr W1 := by rw [hW1]; exact al_b wr _
      have hnb : W1.heap[wr.heap.size]? = some (.cells (tyA L[k].t L[k].vo L[k].va L[k].vc) 67 (0, 0)) := by rw [hW1]; exact new_at wr _
      have hlt1 : wr.heap.size < W1.heap.size := (Array.getElem?_eq_some_iff.1 hnb).1
      have HX : Hid (∀ W, Below W1.heap.size W1 W → BxT wr.heap.size L[k].t L[k].vo L[k].va L[k].vc W) := fun W h => BxT.of ((h.block _ hlt1).trans hnb)
      have HT : Hid (∀ W, Below W1.heap.size W1 W → Below W0.heap.size W0 W) := fun W h => HB.out.trans ((hA.trans (h.mono hA.size)).mono hsz)
      have HT1 : Hid (Below W0.heap.size W0 W1) := HT.out _ (Below.refl _ _)
      clear hnb hA hc HO HR HS HCp
      generalize L[k]'hlk = x at *
      go_wp2_with fail
      rw [← hW1]
      clear hW1
      refine (HS1.out _ HT1.out).mono ?_
      rintro e w2 ⟨rfl, hb2⟩
      cases hsm : sameL x.t.n.data.toList s.data.toList
      · have HO3 : Hid (∀ (j : Nat) (h : j < L.length), j < k + 1 → sameL L[j].t.n.data.toList s.data.toList = false) := HO2.out hsm
        have HB2 : Hid (Below W0.heap.size W0 w2) := HT.out _ hb2
        clear hb2 HS1 HC1 HYes HO2 HX HT HT1 y0 y1 y2 y3 y4 y5 y6 y7 hsm
        go_wp2
        go_roundw
        case rel => exact ⟨rfl, k + 1, by omega, by simp, HO3, HB2⟩
        case measure => simp [intOf]; omega
      · have hpar := HYes.out hsm
        obtain ⟨⟨g0, g1, g2, g3⟩, g4, g5, g6, g7⟩ := HX.out _ hb2
        have HB2 : Hid (Below W0.heap.size W0 w2) := HT.out _ hb2
        have HCw : Hid (Calls Tryz.prog 80 #[ltV x] w2 fun e w' => CpT x.t w2 e w') := HC1.out _ HB2.out
        clear hb2 HS1 HC1 HYes HO2 HX HT HT1 y0 y1 y2 y3 y4 y5 y6 y7 hsm
        have HPa : Hid (parN (tys L) s = some x.t) := hpar
        clear hpar
        go_wp2_with fail
        refine HCw.out.mono ?_
        intro e w3 hcp
        obtain ⟨y, rfl, hyt, hyI, hyN, hb3⟩ := cp_lt hcp
        have hB3 : Below W0.heap.size W0 w3 := HB2.out.trans (hb3.mono HB2.out.size)
        obtain ⟨⟨e0, e1, e2, e3⟩, e4, e5, e6, e7⟩ := HZ.out _ hB3
        have f0 := HF1.out _ hB3
        have hlo : w.heap.size < w2.heap.size := by have := HB2.out.size; omega
        have HEnd : Hid (∀ u0 u1 u2 u3 u4 u5 u6 u7, FnP L s w (.returned (.tuple #[ltV y, .bool true])) ((((((((w3.setCell ⟨w.heap.size, 0, none⟩ u0).setCell ⟨w.heap.size, 1, none⟩ u1).setCell ⟨w.heap.size, 2, none⟩ u2).setCell ⟨w.heap.size, 3, none⟩ u3).setCell ⟨w.heap.size, 4, none⟩ u4).setCell ⟨w.heap.size, 5, none⟩ u5).setCell ⟨w.heap.size, 6, none⟩ u6).setCell ⟨w.heap.size, 7, none⟩ u7)) := fun u0 u1 u2 u3 u4 u5 u6 u7 => ⟨y, by rw [HPa.out]; rfl, by rw [HPa.out]; exact hyt, ty_far8 hyI hyN hlo _ _ _ _ _ _ _ _, hyN.le (Nat.le_of_lt hlo), below8 (HBw.out _ hB3) (Nat.le_refl _) _ _ _ _ _ _ _ _⟩
        clear hcp hyt hyI hyN hb3 hB3 HCw HB2 g0 g1 g2 g3 g4 g5 g6 g7 HZ HF1 HBw HPa HSt
        go_wp2_with fail
        try simp only [Exit.inBlock, Exit.then]
        refine bodyPost_ret (v := .tuple #[ltV y, .bool true]) ?_ rfl (HEnd.out _ _ _ _ _ _ _ _)
        rw [results_c2 rfl]; go_simp
        first | done | exact ⟨rfl, rfl, rfl, rfl, rfl⟩
    · have dk : decide ((k : Int) < L.length) = false := by simp; omega
      have HPa : Hid (parN (tys L) s = none) := parN_noL fun j h => HO.out j h (by omega)
      obtain ⟨⟨e0, e1, e2, e3⟩, e4, e5, e6, e7⟩ := HZ.out _ HB.out
      have f0 := HF1.out _ HB.out
      have HEnd : Hid (∀ u0 u1 u2 u3 u4 u5 u6 u7, FnP L s w (.returned (.tuple #[tyV zT (.slice none 0 0) (.slice none 0 0) (.slice none 0 0), .bool false])) ((((((((wr.setCell ⟨w.heap.size, 0, none⟩ u0).setCell ⟨w.heap.size, 1, none⟩ u1).setCell ⟨w.heap.size, 2, none⟩ u2).setCell ⟨w.heap.size, 3, none⟩ u3).setCell ⟨w.heap.size, 4, none⟩ u4).setCell ⟨w.heap.size, 5, none⟩ u5).setCell ⟨w.heap.size, 6, none⟩ u6).setCell ⟨w.heap.size, 7, none⟩ u7)) := fun u0 u1 u2 u3 u4 u5 u6 u7 => ⟨zLT, by rw [HPa.out]; rfl, by rw [HPa.out]; rfl, ty_zLT _, new_zLT _, below8 (HBw.out _ HB.out) (Nat.le_refl _) _ _ _ _ _ _ _ _⟩
      clear HO HR HS HCp HZ HF1 HBw HPa HSt
      go_wp2_with fail
      try simp only [Exit.inBlock, Exit.then]
      refine bodyPost_ret (v := .tuple #[tyV zT (.slice none 0 0) (.slice none 0 0) (.slice none 0 0), .bool false]) ?_ rfl (HEnd.out _ _ _ _ _ _ _ _)
      rw [results_c2 rfl]; go_simp
      first | done | exact ⟨rfl, rfl, rfl, rfl, rfl⟩
end Go.Proofs.YtacpllmlpmllbaaGreatDoor
/- forest.allCopied: its walk. -/
namespace Go.Proofs.YtacpllmlpmllbaaGreatDoor
open Go.RowKit Go.ChangeMaps

theorem info_ty : (Tryz.prog.info? 67).map (fun i => (i.zero, i.size, i.bytes)) = some (some (.agg zTyA), 8, 128) := by kernel_rfl
theorem row_setRow {w : World} {sz n m c g : Nat} {a : Option Addr} {xs : List Value} (h : IsRow w sz (.slice a m c) n xs) (hN : NewA (g + 1) a) (cs : Array Value) : IsRow (w.setRow g cs) sz (.slice a m c) n xs := by
  refine ⟨h.1, ?_⟩
  rcases h.2 with h0 | ⟨b, off, cap, hv, hlt, q1, q2, hc⟩
  · exact .inl h0
  · have hb : g + 1 ≤ b := by
      simp only [Value.slice.injEq] at hv
      exact hN _ hv.1
    refine .inr ⟨b, off, cap, hv, by simpa using hlt, q1, q2, fun k u hu => ?_⟩
    rw [cell_setRow_other w g cs ⟨b, off + k, none⟩ (by show b ≠ g; omega)]
    exact hc k u hu
theorem ty_setRow {w : World} {y : LT} {g : Nat} (h : IsTy w y.t y.vo y.va y.vc) (hN : NewT (g + 1) y) (cs : Array Value) : IsTy (w.setRow g cs) y.t y.vo y.va y.vc := ⟨row_setRow h.1 hN.1 cs, row_setRow h.2.1 hN.2.1 cs, row_setRow h.2.2 hN.2.2 cs⟩
theorem oneT_cell (y : LT) : ∀ u ∈ enT y, u.oneCell' = true := by
  intro u hu
  simp only [enT, List.mem_cons, List.not_mem_nil, or_false] at hu
  rcases hu with rfl | rfl | rfl | rfl | rfl | rfl | rfl | rfl <;> rfl
theorem oneTs_cell (M : List LT) : ∀ u ∈ tCells M, u.oneCell' = true := by
  intro u hu
  obtain ⟨y, -, hy⟩ := List.mem_flatMap.1 hu
  exact oneT_cell y u hy
theorem enT_tyA (y : LT) : tyA y.t y.vo y.va y.vc = (enT y).toArray := rfl
theorem cells_at {w : World} {g : Nat} {cur : Array Value} {ty : TypeId} (h : w.heap[g]? = some (.cells cur ty (0, 0))) (j : Nat) (u : Value) (hu : cur[j]? = some u) : w.cell? ((⟨g, 0, none⟩ : Addr).add j) = some u := by
  have hadd : (⟨g, 0, none⟩ : Addr).add j = ⟨g, j, none⟩ := by unfold Addr.add; split <;> simp_all
  rw [hadd, Lib.cell_of_heap h]
  exact hu
def AcP (L : List LT) (w : World) (e : Ending) (w' : World) : Prop := ∃ M, e = .returned (.slice (some ⟨w.heap.size, 0, none⟩) L.length L.length) ∧ tys M = tys L ∧ M.length = L.length ∧ w'.heap[w.heap.size]? = some (.cells (tCells M).toArray 67 (0, 0)) ∧ (∀ y ∈ M, IsTy w' y.t y.vo y.va y.vc ∧ NewT (w.heap.size + 1) y) ∧ Below w.heap.size w w'
/-- So many are copied. -/
def AcI (L : List LT) (w : World) (k : Nat) (wr : World) : Prop := ∃ (M : List LT) (cur : Array Value), tys M = (tys L).take k ∧ M.length = k ∧ wr.heap[w.heap.size]? = some (.cells cur 67 (0, 0)) ∧ cur.size = L.length * 8 ∧ cur.toList.take (k * 8) = tCells M ∧ ∀ y ∈ M, IsTy wr y.t y.vo y.va y.vc ∧ NewT (w.heap.size + 1) y
/-- What an append makes of it. -/
def acRow (cur : Array Value) (k : Nat) (y : LT) : Array Value := (cur.toList.take (k * 8) ++ enT y ++ cur.toList.drop (k * 8 + 8)).toArray
theorem AcI.step {L : List LT} {w wr W1 w2 : World} {k : Nat} {cur : Array Value} {M : List LT} {y : LT} (hk : k < L.length) (h1 : tys M = (tys L).take k) (h2 : M.length = k) (h3 : wr.heap[w.heap.size]? = some (.cells cur 67 (0, 0))) (hs : cur.size = L.length * 8) (ht : cur.toList.take (k * 8) = tCells M) (h4 : ∀ y ∈ M, IsTy wr y.t y.vo y.va y.vc ∧ NewT (w.heap.size + 1) y)
    (hB : Below w.heap.size w wr) (hW : Below wr.heap.size wr W1) (hy : y.t = L[k].t) (hyI : IsTy w2 y.t y.vo y.va y.vc) (hyN : NewT W1.heap.size y) (hb2 : Below W1.heap.size W1 w2) :
    (∀ ty, (Builtin.append_ #[63, 63] ty #[.slice (some ⟨w.heap.size, 0, none⟩) k L.length, .slice (some ⟨w2.heap.size, 0, none⟩) 1 1]).run Tryz.prog (w2.alloc (.cells (tyA y.t y.vo y.va y.vc) 67)) = .ok (.slice (some ⟨w.heap.size, 0, none⟩) (k + 1) L.length) ((w2.alloc (.cells (tyA y.t y.vo y.va y.vc) 67)).setRow w.heap.size (acRow cur k y))) ∧
    AcI L w (k + 1) ((w2.alloc (.cells (tyA y.t y.vo y.va y.vc) 67)).setRow w.heap.size (acRow cur k y)) ∧ Below w.heap.size w ((w2.alloc (.cells (tyA y.t y.vo y.va y.vc) 67)).setRow w.heap.size (acRow cur k y)) := by
  obtain ⟨i0, hi0, hz0, hz1, hz2⟩ := info_parts info_ty
  have hs1 := hB.size
  have hs2 := hW.size
  have hs3 := hb2.size
  have hlt : w.heap.size < wr.heap.size := (Array.getElem?_eq_some_iff.1 h3).1
  have hal := al_b w2 (.cells (tyA y.t y.vo y.va y.vc) 67)
  have hfar : Below wr.heap.size wr (w2.alloc (.cells (tyA y.t y.vo y.va y.vc) 67)) := (hW.trans (hb2.mono hs2)).trans (hal.mono (by omega))
  have hg : (w2.alloc (.cells (tyA y.t y.vo y.va y.vc) 67)).heap[w.heap.size]? = some (.cells cur 67 (0, 0)) := (hfar.block _ hlt).trans h3
  have hn : (w2.alloc (.cells (tyA y.t y.vo y.va y.vc) 67)).heap[w2.heap.size]? = some (.cells (tyA y.t y.vo y.va y.vc) 67 (0, 0)) := new_at w2 _
  have hyN' : NewT (w.heap.size + 1) y := hyN.le (by omega)
  refine ⟨fun ty => ?_, ⟨M ++ [y], acRow cur k y, ?_, by simp [h2], setRow_heap _ _ _ _ _ _ hg, ?_, ?_, ?_⟩, below_setRow (hB.trans (hfar.mono hs1)) (Nat.le_refl _) _⟩
  · have := run_append_room (P := Tryz.prog) (w2.alloc (.cells (tyA y.t y.vo y.va y.vc) 67)) 63 ty 67 i0 Tryz.underlying63 hi0 w.heap.size k L.length cur hg ⟨w2.heap.size, 0, none⟩ 1 1 (enT y) (by rw [hz1]; rfl) (fun j u hu => cells_at hn j u (by rw [enT_tyA]; simpa using hu)) (oneT_cell y) (by omega) (by rw [hz1, hs]; show k * 8 + 8 ≤ _; omega)
    rw [hz1] at this
    exact this
  · have e1 : tys (M ++ [y]) = tys M ++ [y.t] := by simp [tys]
    rw [e1, h1, hy, ← tys_at L k hk, List.take_append_getElem]
  · unfold acRow
    rw [List.size_toArray, List.length_append, List.length_append, List.length_take, List.length_drop, Array.length_toList, hs]
    show min (k * 8) (L.length * 8) + 8 + _ = _
    omega
  · unfold acRow
    have hl : (cur.toList.take (k * 8) ++ enT y).length = (k + 1) * 8 := by
      rw [List.length_append, List.length_take, Array.length_toList, hs]
      show min (k * 8) (L.length * 8) + 8 = _
      omega
    rw [← hl, List.take_left, ht, tCells_app]
    congr 1
  · intro z hz
    rcases List.mem_append.1 hz with hz | hz
    · obtain ⟨z1, z2⟩ := h4 z hz
      exact ⟨ty_setRow (z1.below hfar) z2 _, z2⟩
    · obtain rfl := List.mem_singleton.1 hz
      exact ⟨ty_setRow (hyI.below hal) hyN' _, hyN'⟩
end Go.Proofs.YtacpllmlpmllbaaGreatDoor
/- slices.Insert of one type into a row without room: its walk. -/
namespace Go.Proofs.YtacpllmlpmllbaaGreatDoor
open Go.RowKit Go.ChangeMaps

/-- append(s, make([]T, n)...), where there is no room. -/
theorem run_app_zeros {P : Program} (w : World) (t tn ty e : TypeId) (i : TypeInfo) (z : Value) (k kn : IntKind) (ht : P.underlying t = some (.slice e)) (htn : P.underlying tn = some (.int kn)) (hi : P.info? e = some i) (hz : i.zero = some z)
    (b : Addr) (sLen sCap : Nat) (olds : List Value) (hlo : olds.length = sLen * i.size) (holds : ∀ j v, olds[j]? = some v → w.cell? (b.add j) = some v)
    (n : Nat) (h0 : 0 < n) (hs : 0 < i.size) (hg : sCap < sLen + n) (h63 : ((sLen + n : Nat) : Int) ≤ 9223372036854775807) (hfit : Builtin.nextslicecap (sLen + n) sCap * i.bytes ≤ 281474976710656) (h48 : n * i.bytes ≤ 281474976710656) :
    (Builtin.append_ #[t, tn] ty #[.slice (some b) sLen sCap, .int k n]).run P w =
      .ok (.slice (some ⟨w.heap.size, 0, none⟩) (sLen + n) (grownCap w (sLen + n) sCap e)) (w.drew.alloc (.cells (olds.toArray ++ Builtin.zeroCells z.cells n ++ Builtin.zeroCells z.cells (grownCap w (sLen + n) sCap e - (sLen + n))) e)) := by
  have hn : n ≠ 0 := by omega
  have hw : IntKind.i64.wrap (n : Int) = n := by rw [IntKind.wrap_i64]; omega
  have h63' : ¬ (9223372036854775807 < ((sLen : Int) + (n : Int))) := by omega
  have h48' : ¬ (281474976710656 < Builtin.nextslicecap (sLen + n) sCap * i.bytes) := by omega
  have hnr : ¬ (sLen + n ≤ sCap) := by omega
  have h48i : ¬ (281474976710656 < (n : Int) * (i.bytes : Int)) := by
    rw [← Int.natCast_mul]
    omega
  have hneg : ¬ ((n : Int) < 0) := by omega
  have hns : ¬ (n * i.size = 0) := Nat.mul_ne_zero hn (by omega)
  have hfo := run_firstCells_some (P := P) w.drew i.size sLen b sLen sCap olds hlo (by simpa using holds)
  simp [Builtin.append_, run_underlying ht, run_underlying htn, sizeOf, typeInfo, zeroValue, hi, hz, asInt, asIntOf, hw, hneg, hns, h63', h48', h48i, hnr, Question.forced, Builtin.lenOf, hfo, newRow, grownCap]
/-- copy of elements of any size. -/
theorem run_copyN {P : Program} (w : World) (dT sT ty elem : TypeId) (g o dLen dCap : Nat) (a : Addr) (sLen sCap : Nat) (cur : Array Value) (t : TypeId) (cs : List Value) (sz : Nat) (i : TypeInfo)
    (hu : P.underlying dT = some (.slice elem)) (hq : P.info? elem = some i) (hsz : i.size = sz)
    (hg : w.heap[g]? = some (.cells cur t (0, 0))) (hn : cs.length = Nat.min sLen dLen * sz)
    (hsrc : ∀ j v, cs[j]? = some v → w.cell? (a.add j) = some v) (hfit : o + cs.length ≤ cur.size) (h1 : ∀ v ∈ cs, v.oneCell' = true) :
    (Builtin.copy_ #[dT, sT] ty #[.slice (some ⟨g, o, none⟩) dLen dCap, .slice (some a) sLen sCap]).run P w =
      .ok (goInt (Nat.min sLen dLen)) (w.setRow g (cur.toList.take o ++ cs ++ cur.toList.drop (o + cs.length)).toArray) := by
  have hl := run_loadCells_list (P := P) w a cs hsrc
  have hst := run_storeCells_at P g o t cs 0 cur w hg (by simpa using hfit) h1
  simp [Builtin.copy_, run_underlying hu, Builtin.lenOf, Builtin.firstCells, sizeOf, typeInfo, hq, hsz, ← hn, hl, hst]
/-- A copy whose run is known as an equation. -/
theorem wpl_copy_run {P : Program} (w : World) {ops : Array Oper} {rest : List Oper} {o : Oper} {a : Act} {Q : Exit → Act → World → Prop} (hgd : o.guard = none) (s x : Operand) (t tn : TypeId)
    (ho : o.op = .call { callee := .builtin .copy, args := #[s, x], argTypes := #[t, tn] }) (vs vx : Value) (hs : a.eval s = vs) (hx : a.eval x = vx)
    (v' : Value) (w' : World) (hr : (Builtin.copy_ #[t, tn] o.type #[vs, vx]).run P w = .ok v' w') (h : wpList P ops Q rest (a.put o.dst v') w') : wpList P ops Q (o :: rest) a w :=
  wpList_plain hgd fun _ hK => by
    unfold Oper.wp execOp
    simp only [ho, resolve, invoke, builtin, Sem.run_bind, Sem.run_pure, Result.andThen_ok, List.map_toArray, List.map_cons, List.map_nil, hs, hx, hr]
    exact hK _ _ h
def insL (M : List LT) (i : Nat) (y : LT) : List LT := M.take i ++ y :: M.drop i
theorem tys_insL (M : List LT) (i : Nat) (y : LT) : tys (insL M i y) = insT (tys M) i y.t := by simp [tys, insL, insT]
def InP (M : List LT) (i : Nat) (y : LT) (w : World) (e : Ending) (w' : World) : Prop := ∃ c, e = .returned (.slice (some ⟨w.heap.size, 0, none⟩) (M.length + 1) c) ∧ IsRow w' 8 (.slice (some ⟨w.heap.size, 0, none⟩) (M.length + 1) c) (M.length + 1) (tCells (insL M i y)) ∧ Below w.heap.size w w'
theorem tCells_take (M : List LT) (i : Nat) (hi : i ≤ M.length) : (tCells M).take (i * 8) = tCells (M.take i) := by
  have e : tCells M = tCells (M.take i) ++ tCells (M.drop i) := by rw [← tCells_app, List.take_append_drop]
  have e2 : i * 8 = (tCells (M.take i)).length := by rw [tCells_len, List.length_take]; omega
  rw [e, e2]; exact List.take_left
theorem tCells_drop (M : List LT) (i : Nat) (hi : i ≤ M.length) : (tCells M).drop (i * 8) = tCells (M.drop i) := by
  have e : tCells M = tCells (M.take i) ++ tCells (M.drop i) := by rw [← tCells_app, List.take_append_drop]
  have e2 : i * 8 = (tCells (M.take i)).length := by rw [tCells_len, List.length_take]; omega
  rw [e, e2]; exact List.drop_left
theorem row_of_heap {w : World} {g n cap sz : Nat} {cur : Array Value} {ty : TypeId} {xs : List Value} (h : w.heap[g]? = some (.cells cur ty (0, 0))) (hx : xs.length = n * sz) (hp : cur.toList.take xs.length = xs) (h1 : n ≤ cap) (h2 : cap ≤ maxLen) : IsRow w sz (.slice (some ⟨g, 0, none⟩) n cap) n xs := by
  refine ⟨hx, .inr ⟨g, 0, cap, rfl, (Array.getElem?_eq_some_iff.1 h).1, h1, h2, fun j u hu => ?_⟩⟩
  rw [Nat.zero_add, Lib.cell_of_heap h]
  have hj : j < xs.length := by
    rcases Nat.lt_or_ge j xs.length with h | h
    · exact h
    · rw [List.getElem?_eq_none h] at hu; cases hu
  rw [← hp, List.getElem?_take_of_lt hj] at hu
  simpa using hu
theorem insL_cells (M : List LT) (i : Nat) (y : LT) : tCells (insL M i y) = tCells (M.take i) ++ enT y ++ tCells (M.drop i) := by
  unfold insL
  rw [tCells_app, List.append_assoc]
  congr 1
theorem insL_len (M : List LT) (i : Nat) (y : LT) : (tCells (insL M i y)).length = (M.length + 1) * 8 := by
  rw [tCells_len]
  unfold insL
  rw [List.length_append, List.length_cons, List.length_take, List.length_drop]
  omega
theorem cells_from {w : World} {g o : Nat} {cur : Array Value} {ty : TypeId} (h : w.heap[g]? = some (.cells cur ty (0, 0))) (j : Nat) (u : Value) (hu : cur[o + j]? = some u) : w.cell? ((⟨g, o, none⟩ : Addr).add j) = some u := by
  have hadd : (⟨g, o, none⟩ : Addr).add j = ⟨g, o + j, none⟩ := by unfold Addr.add; split <;> simp_all
  rw [hadd, Lib.cell_of_heap h]
  exact hu
/-- What the grown row holds, behind each step. -/
theorem ins_math (M : List LT) (i : Nat) (y : LT) (zs : List Value) (hi : i < M.length) (hz : (M.length + 1 - i) * 8 ≤ zs.length) :
    ((tCells (M.take i) ++ zs).take (i * 8) ++ enT y ++ (tCells (M.take i) ++ zs).drop (i * 8 + (enT y).length)).length = i * 8 + zs.length ∧
    (((tCells (M.take i) ++ zs).take (i * 8) ++ enT y ++ (tCells (M.take i) ++ zs).drop (i * 8 + (enT y).length)).take ((i + 1) * 8) ++ tCells (M.drop i) ++ ((tCells (M.take i) ++ zs).take (i * 8) ++ enT y ++ (tCells (M.take i) ++ zs).drop (i * 8 + (enT y).length)).drop ((i + 1) * 8 + (tCells (M.drop i)).length)).take (tCells (insL M i y)).length = tCells (insL M i y) := by
  have l1 : (tCells (M.take i)).length = i * 8 := by rw [tCells_len, List.length_take]; omega
  have l2 : (enT y).length = 8 := rfl
  have l3 : (tCells (M.drop i)).length = (M.length - i) * 8 := by rw [tCells_len, List.length_drop]
  have e1 : (tCells (M.take i) ++ zs).take (i * 8) = tCells (M.take i) := by rw [← l1]; exact List.take_left
  rw [e1]
  constructor
  · rw [List.length_append, List.length_append, List.length_drop, List.length_append, l1, l2]
    omega
  · have e2 : (tCells (M.take i) ++ enT y ++ (tCells (M.take i) ++ zs).drop (i * 8 + (enT y).length)).take ((i + 1) * 8) = tCells (M.take i) ++ enT y := by
      have : (i + 1) * 8 = (tCells (M.take i) ++ enT y).length := by rw [List.length_append, l1, l2]; omega
      rw [this]; exact List.take_left
    rw [e2, insL_cells]
    exact List.take_left
end Go.Proofs.YtacpllmlpmllbaaGreatDoor
/- forest.Add: its walk. -/
namespace Go.Proofs.YtacpllmlpmllbaaGreatDoor
open Go.RowKit Go.ChangeMaps

def AdP (r : List Ty × Int) (w : World) (e : Ending) (w' : World) : Prop := ∃ (sa : Option Addr) (sc : Nat) (K : List LT), e = .returned (.tuple #[.slice sa K.length sc, .int .i64 r.2]) ∧ tys K = r.1 ∧ IsTys w' (.slice sa K.length sc) K ∧ Below w.heap.size w w'
theorem AdP.err {w w' : World} (n : Int) (h : Below w.heap.size w w') : AdP ([], n) w (.returned (.tuple #[.slice none 0 0, .int .i64 n])) w' := ⟨none, 0, [], rfl, rfl, ⟨IsRow.nil _ _, fun _ hx => nomatch hx⟩, h⟩
theorem AdP.ok {L M : List LT} {x y : LT} {w W0 wd w6 w7 w9 : World} {e : Ending} {k : Nat} (hB : ∀ W, Below W0.heap.size W0 W → Below w.heap.size w W) (hd : Below W0.heap.size W0 wd) (hM : tys M = tys L) (hMI : ∀ y ∈ M, IsTy w6 y.t y.vo y.va y.vc) (h6 : Below wd.heap.size wd w6) (hy : y.t = x.t) (hyI : IsTy w7 y.t y.vo y.va y.vc) (h7 : Below w6.heap.size w6 w7) (hi : InP M k y (w7.alloc (.cells (tyA y.t y.vo y.va y.vc) 67)) e w9) :
    ∃ sa sc, e = .returned (.slice sa (M.length + 1) sc) ∧ AdP (insT (tys L) k x.t, 0) w (.returned (.tuple #[.slice sa (M.length + 1) sc, .int .i64 0])) w9 := by
  obtain ⟨c, rfl, hrow, hb9⟩ := hi
  have hal := al_b w7 (.cells (tyA y.t y.vo y.va y.vc) 67)
  have b79 : Below w7.heap.size w7 w9 := hal.trans (hb9.mono hal.size)
  have b69 : Below w6.heap.size w6 w9 := h7.trans (b79.mono h7.size)
  have bd9 : Below wd.heap.size wd w9 := h6.trans (b69.mono h6.size)
  have hlen : (insL M k y).length = M.length + 1 := by
    unfold insL
    rw [List.length_append, List.length_cons, List.length_take, List.length_drop]
    omega
  refine ⟨_, c, rfl, _, c, insL M k y, by rw [hlen], by rw [tys_insL, hM, hy], ⟨by rw [hlen]; exact hrow, fun z hz => ?_⟩, hB _ (hd.trans (bd9.mono hd.size))⟩
  have hz' : z = y ∨ z ∈ M := by
    unfold insL at hz
    rcases List.mem_append.1 hz with h | h
    · exact .inr (List.mem_of_mem_take h)
    · rcases List.mem_cons.1 h with h | h
      · exact .inl h
      · exact .inr (List.mem_of_mem_drop h)
  rcases hz' with rfl | hz'
  · exact hyI.below b79
  · exact (hMI z hz').below b69
end Go.Proofs.YtacpllmlpmllbaaGreatDoor
