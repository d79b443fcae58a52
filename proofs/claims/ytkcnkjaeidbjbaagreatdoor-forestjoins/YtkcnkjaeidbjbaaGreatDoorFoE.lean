/- forest.copied: a walk. -/
import Derived.Test.YtkcnkjaeidbjbaaGreatDoorZq
namespace Go.Proofs.YtkcnkjaeidbjbaaGreatDoor
open Go.RowKit Go.ChangeMaps

theorem results_c1 {fn : Func} {p : Tmp} {ty : TypeId} (h : fn.results = #[.cell p ty]) (tmps : Array Value) (P : Program) (w : World) :
    (results fn tmps).run P w = ((asAddr (tmps.getD p undef)).run P w).andThen fun a w₁ => (loadVar ty a).run P w₁ := by
  simp only [results, h]
  simp [Sem.run_bind, Result.andThen]
/-- Behind the three stores. -/
def CtT (w : World) (t : Ty) (wx : World) : Prop := ∃ x1 y1 x2 y2 x3 y3, Hid (OwnTy (w.heap.size + 2) wx t (.slice x1 t.own.length y1) (.slice x2 t.all.length y2) (.slice x3 t.ch.length y3)) ∧ Hid (Below w.heap.size w wx) ∧ Hid (BxT w.heap.size t (.slice x1 t.own.length y1) (.slice x2 t.all.length y2) (.slice x3 t.ch.length y3) wx) ∧ Hid (∀ j, wx.frozen? ⟨w.heap.size + 1, j, none⟩ = false) ∧ Hid (BxT (w.heap.size + 1) ⟨⟨#[]⟩, ⟨#[]⟩, [], [], [], 0, 0, 0⟩ (.slice none 0 0) (.slice none 0 0) (.slice none 0 0) wx)
set_option maxRecDepth 100000 in
set_option maxHeartbeats 4000000 in
theorem copied_any (t : Ty) (vo va vc : Value) (w : World) (hr : IsTy w t vo va vc) (h1 : t.own.length ≤ 1000) (h2 : t.all.length ≤ 1000) (h3 : t.ch.length ≤ 1000) :
    Calls Tryz.prog 58 #[tyV t vo va vc] w fun e w' => CpT t w e w' := by
  obtain ⟨r1, r2, r3⟩ := hr
  obtain ⟨ao, co, rfl⟩ := r1.form
  obtain ⟨aa, ca, rfl⟩ := r2.form
  obtain ⟨ac, cc, rfl⟩ := r3.form
  obtain ⟨W0, hW0⟩ : ∃ W0, W0 = (w.alloc (.cells (tyA t (.slice ao t.own.length co) (.slice aa t.all.length ca) (.slice ac t.ch.length cc)) 30)).alloc (.cells zTyA 30) := ⟨_, rfl⟩
  have hA : Below w.heap.size w W0 := by rw [hW0]; exact (al_b w _).trans ((al_b _ _).mono (by simp))
  have hz : W0.heap.size = w.heap.size + 2 := by rw [hW0]; simp
  have hn0 : W0.heap[w.heap.size]? = some (.cells (tyA t (.slice ao t.own.length co) (.slice aa t.all.length ca) (.slice ac t.ch.length cc)) 30 (0, 0)) := by
    rw [hW0]
    show ((w.heap.push _).push _)[w.heap.size]? = _
    rw [Array.getElem?_push, if_neg (by simp), Array.getElem?_push, if_pos rfl]
  have hn1 : W0.heap[w.heap.size + 1]? = some (.cells zTyA 30 (0, 0)) := by
    rw [hW0]
    show ((w.heap.push _).push _)[w.heap.size + 1]? = _
    rw [Array.getElem?_push, if_pos (by simp)]
  have HX : Hid (∀ W, Below W0.heap.size W0 W → BxT w.heap.size t (.slice ao t.own.length co) (.slice aa t.all.length ca) (.slice ac t.ch.length cc) W) := fun W h => BxT.of ((h.block _ (by omega)).trans hn0)
  have HZ : Hid (∀ W, Below W0.heap.size W0 W → BxT (w.heap.size + 1) ⟨⟨#[]⟩, ⟨#[]⟩, [], [], [], 0, 0, 0⟩ (.slice none 0 0) (.slice none 0 0) (.slice none 0 0) W) := fun W h => BxT.of ((h.block _ (by omega)).trans hn1)
  have HF0 : Hid (∀ W, Below W0.heap.size W0 W → ∀ j, W.frozen? ⟨w.heap.size, j, none⟩ = false) := fun W h j => Lib.frozen_of_heap ((h.block _ (by omega)).trans hn0) j
  have HF1 : Hid (∀ W, Below W0.heap.size W0 W → ∀ j, W.frozen? ⟨w.heap.size + 1, j, none⟩ = false) := fun W h j => Lib.frozen_of_heap ((h.block _ (by omega)).trans hn1) j
  have HBw : Hid (∀ W, Below W0.heap.size W0 W → Below w.heap.size w W) := fun W h => hA.trans (h.mono hA.size)
  have HC1 : Hid (∀ W, Below W0.heap.size W0 W → Calls Tryz.prog 46 #[.slice ao t.own.length co] W fun e w' => ∃ x y, e = .returned (.slice x t.own.length y) ∧ Hid (w'.ownsRow W0.heap.size 81 3 (.slice x t.own.length y) t.own.length (fCells t.own)) ∧ Below W0.heap.size W0 w' ∧ Below W.heap.size W w') := fun W h => (cloneF_any _ t.own W (r1.below (HBw.out W h)) h1).mono fun e w' ⟨v, he, ho, hb⟩ => by
    obtain ⟨x, y, rfl⟩ := (IsRow.own ho).form
    exact ⟨x, y, he, own_leT ho h.size, h.trans (hb.mono h.size), hb⟩
  have HC2 : Hid (∀ W, Below W0.heap.size W0 W → Calls Tryz.prog 46 #[.slice aa t.all.length ca] W fun e w' => ∃ x y, e = .returned (.slice x t.all.length y) ∧ Hid (w'.ownsRow W0.heap.size 81 3 (.slice x t.all.length y) t.all.length (fCells t.all)) ∧ Below W0.heap.size W0 w' ∧ Below W.heap.size W w') := fun W h => (cloneF_any _ t.all W (r2.below (HBw.out W h)) h2).mono fun e w' ⟨v, he, ho, hb⟩ => by
    obtain ⟨x, y, rfl⟩ := (IsRow.own ho).form
    exact ⟨x, y, he, own_leT ho h.size, h.trans (hb.mono h.size), hb⟩
  have HC3 : Hid (∀ W, Below W0.heap.size W0 W → Calls Tryz.prog 97 #[.slice ac t.ch.length cc] W fun e w' => ∃ x y, e = .returned (.slice x t.ch.length y) ∧ Hid (w'.ownsRow W0.heap.size 9 1 (.slice x t.ch.length y) t.ch.length (sVals t.ch)) ∧ Below W0.heap.size W0 w' ∧ Below W.heap.size W w') := fun W h => (cloneS_any _ t.ch W (r3.below (HBw.out W h)) h3).mono fun e w' ⟨v, he, ho, hb⟩ => by
    obtain ⟨x, y, rfl⟩ := (IsRow.own ho).form
    exact ⟨x, y, he, own_leT ho h.size, h.trans (hb.mono h.size), hb⟩
  have HFin : Hid (∀ w1 w2 w3 x1 y1 x2 y2 x3 y3, Hid (w1.ownsRow W0.heap.size 81 3 (.slice x1 t.own.length y1) t.own.length (fCells t.own)) → Hid (w2.ownsRow W0.heap.size 81 3 (.slice x2 t.all.length y2) t.all.length (fCells t.all)) → Hid (w3.ownsRow W0.heap.size 9 1 (.slice x3 t.ch.length y3) t.ch.length (sVals t.ch)) → Below w1.heap.size w1 w2 → Below w2.heap.size w2 w3 → Below W0.heap.size W0 w3 → CtT w t (((w3.setCell ⟨w.heap.size, 2, none⟩ (.slice x1 t.own.length y1)).setCell ⟨w.heap.size, 3, none⟩ (.slice x2 t.all.length y2)).setCell ⟨w.heap.size, 4, none⟩ (.slice x3 t.ch.length y3))) := fun w1 w2 w3 x1 y1 x2 y2 x3 y3 o1 o2 o3 hb2 hb3 hb => by
    have p1 := own_belowE (own_belowE o1.out hb2) hb3
    have p2 := own_belowE o2.out hb3
    have p3 := o3.out
    rw [hz] at p1 p2 p3
    have oT : OwnTy (w.heap.size + 2) w3 t (.slice x1 t.own.length y1) (.slice x2 t.all.length y2) (.slice x3 t.ch.length y3) := ⟨p1, p2, p3⟩
    refine ⟨x1, y1, x2, y2, x3, y3, ((oT.set (g := w.heap.size) (by omega) 2 _).set (g := w.heap.size) (by omega) 3 _).set (g := w.heap.size) (by omega) 4 _, (((HBw.out _ hb).setCell (Nat.le_refl _) _).setCell (Nat.le_refl _) _).setCell (Nat.le_refl _) _, (HX.out _ hb).set _ _ _, fun j => ?_, (((HZ.out _ hb).far (by omega) 2 _).far (by omega) 3 _).far (by omega) 4 _⟩
    rw [World.frozen?_setCell, World.frozen?_setCell, World.frozen?_setCell]
    exact HF1.out _ hb j
  have HBd : Hid (Below W0.heap.size W0 W0.drew) := (Below.refl _ _).drew
  obtain ⟨⟨a0, a1, a2, a3⟩, a4, a5, a6, a7⟩ := HX.out _ (Below.refl _ _)
  clear r1 r2 r3 hA hn0 hn1 h1 h2 h3
  go_enter Tryz.func58, Tryz.ntmps58
  go_wp2_with fail
  rw [← hW0]
  clear hW0
  go_cut [] (fun wx => CtT w t wx)
  case first =>
    go_region_with (first
      | (go_at_call 46; (with_reducible refine Calls.mono (HC1.out W0.drew HBd.out) ?_); rintro e w1 ⟨x1, y1, rfl, HO1, hb1, -⟩; obtain ⟨⟨-, -, -, b3⟩, b4, -, -, -⟩ := HX.out _ hb1)
      | (go_at_call 46; (with_reducible refine Calls.mono (HC2.out _ hb1) ?_); rintro e w2 ⟨x2, y2, rfl, HO2, hb2, hc2⟩; obtain ⟨-, b4', -, -, -⟩ := HX.out _ hb2)
      | (go_at_call 97; (with_reducible refine Calls.mono (HC3.out _ hb2) ?_); rintro e w3 ⟨x3, y3, rfl, HO3, hb3, hc3⟩; obtain ⟨⟨k0, k1, k2, k3⟩, k4, k5, k6, k7⟩ := HX.out _ hb3; have kf := HF0.out _ hb3))
    all_goals (try go_wp2_with fail)
    all_goals go_meet
    all_goals exact HFin.out _ _ _ _ _ _ _ _ _ HO1 HO2 HO3 hc2 hc3 hb3
  case rest =>
    obtain ⟨x1, y1, x2, y2, x3, y3, HO, HB, HT, HF, HZ0⟩ := hcut
    obtain ⟨⟨c0, c1, c2, c3⟩, c4, c5, c6, c7⟩ := HT.out
    obtain ⟨⟨e0, e1, e2, e3⟩, e4, e5, e6, e7⟩ := HZ0.out
    have f0 := HF.out
    clear HX HZ HF0 HF1 HBw HC1 HC2 HC3 HFin HBd a0 a1 a2 a3 a4 a5 a6 a7 HT HZ0 HF hz
    have HEnd : Hid (∀ u0 u1 u2 u3 u4 u5 u6 u7, CpT t w (.returned (tyV t (.slice x1 t.own.length y1) (.slice x2 t.all.length y2) (.slice x3 t.ch.length y3))) ((((((((wc.setCell ⟨w.heap.size + 1, 0, none⟩ u0).setCell ⟨w.heap.size + 1, 1, none⟩ u1).setCell ⟨w.heap.size + 1, 2, none⟩ u2).setCell ⟨w.heap.size + 1, 3, none⟩ u3).setCell ⟨w.heap.size + 1, 4, none⟩ u4).setCell ⟨w.heap.size + 1, 5, none⟩ u5).setCell ⟨w.heap.size + 1, 6, none⟩ u6).setCell ⟨w.heap.size + 1, 7, none⟩ u7)) := fun u0 u1 u2 u3 u4 u5 u6 u7 =>
      ⟨_, _, _, rfl, (((((((((HO.out.set (g := w.heap.size + 1) (by omega) 0 u0).set (g := w.heap.size + 1) (by omega) 1 u1).set (g := w.heap.size + 1) (by omega) 2 u2).set (g := w.heap.size + 1) (by omega) 3 u3).set (g := w.heap.size + 1) (by omega) 4 u4).set (g := w.heap.size + 1) (by omega) 5 u5).set (g := w.heap.size + 1) (by omega) 6 u6).set (g := w.heap.size + 1) (by omega) 7 u7).le (by omega)), (((((((HB.out.setCell (p := ⟨w.heap.size + 1, 0, none⟩) (Nat.le_add_right _ 1) u0).setCell (p := ⟨w.heap.size + 1, 1, none⟩) (Nat.le_add_right _ 1) u1).setCell (p := ⟨w.heap.size + 1, 2, none⟩) (Nat.le_add_right _ 1) u2).setCell (p := ⟨w.heap.size + 1, 3, none⟩) (Nat.le_add_right _ 1) u3).setCell (p := ⟨w.heap.size + 1, 4, none⟩) (Nat.le_add_right _ 1) u4).setCell (p := ⟨w.heap.size + 1, 5, none⟩) (Nat.le_add_right _ 1) u5).setCell (p := ⟨w.heap.size + 1, 6, none⟩) (Nat.le_add_right _ 1) u6).setCell (p := ⟨w.heap.size + 1, 7, none⟩) (Nat.le_add_right _ 1) u7⟩
    go_wp2_with fail
    try simp only [Exit.inBlock, Exit.then]
    refine bodyPost_ret (v := tyV t (.slice x1 t.own.length y1) (.slice x2 t.all.length y2) (.slice x3 t.ch.length y3)) ?_ rfl (HEnd.out _ _ _ _ _ _ _ _)
    rw [results_c1 rfl]; go_simp
end Go.Proofs.YtkcnkjaeidbjbaaGreatDoor
