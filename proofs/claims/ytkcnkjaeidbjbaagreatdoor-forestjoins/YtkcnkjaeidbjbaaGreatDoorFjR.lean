/- The law's Ref, where its rows lie; the law's Refs: walks. -/
import Derived.Test.YtkcnkjaeidbjbaaGreatDoorZv
import Derived.Test.YtkcnkjaeidbjbaaGreatDoorZs
import Derived.Deep.AppendLies
namespace Go.Proofs.YtkcnkjaeidbjbaaGreatDoor
open Go.RowKit Go.ChangeMaps

/-- Behind the store of a type for the reference. -/
def CtG (w : World) (o : LT) (wx : World) : Prop := ∃ y : LT, y.t = o.t ∧ (NewA w.heap.size y.ao ∧ NewA w.heap.size y.aa ∧ y.ac = o.ac) ∧ Hid (IsTy wx y.t y.vo y.va y.vc) ∧ Hid (Below w.heap.size w wx) ∧ Hid (BxT (w.heap.size + 1) y.t y.vo y.va y.vc wx)
/-- A type as the reference has it. -/
def RtN (o : LT) (w : World) (e : Ending) (w' : World) : Prop := ∃ y : LT, e = .returned (ltV y) ∧ y.t = o.t ∧ (NewA w.heap.size y.ao ∧ NewA w.heap.size y.aa ∧ y.ac = o.ac) ∧ IsTy w' y.t y.vo y.va y.vc ∧ Below w.heap.size w w'
set_option maxRecDepth 100000 in
set_option maxHeartbeats 4000000 in
theorem refN_any (o : LT) (w : World) (ho : IsTy w o.t o.vo o.va o.vc) (h1 : o.t.own.length ≤ 1000000) (h2 : o.t.all.length ≤ 1000000) :
    Calls Tryz.prog 17 #[ltV o] w fun e w' => RtN o w e w' := by
  obtain ⟨W0, hW0⟩ : ∃ W0, W0 = (w.alloc (.cells (tyA o.t o.vo o.va o.vc) 30)).alloc (.cells zTyA 41) := ⟨_, rfl⟩
  have hA : Below w.heap.size w W0 := by rw [hW0]; exact (al_b w _).trans ((al_b _ _).mono (by simp))
  have hz : W0.heap.size = w.heap.size + 2 := by rw [hW0]; simp
  have hn0 : W0.heap[w.heap.size]? = some (.cells (tyA o.t o.vo o.va o.vc) 30 (0, 0)) := by
    rw [hW0]
    show ((w.heap.push _).push _)[w.heap.size]? = _
    rw [Array.getElem?_push, if_neg (by simp), Array.getElem?_push, if_pos rfl]
  have hn1 : W0.heap[w.heap.size + 1]? = some (.cells zTyA 41 (0, 0)) := by
    rw [hW0]
    show ((w.heap.push _).push _)[w.heap.size + 1]? = _
    rw [Array.getElem?_push, if_pos (by simp)]
  have HX : Hid (∀ W, Below W0.heap.size W0 W → BxT w.heap.size o.t o.vo o.va o.vc W) := fun W h => BxT.of ((h.block _ (by omega)).trans hn0)
  have HZ : Hid (∀ W, Below W0.heap.size W0 W → BxT (w.heap.size + 1) zT (.slice none 0 0) (.slice none 0 0) (.slice none 0 0) W) := fun W h => BxT.ofA ((h.block _ (by omega)).trans hn1)
  have HF1 : Hid (∀ W, Below W0.heap.size W0 W → ∀ j, W.frozen? ⟨w.heap.size + 1, j, none⟩ = false) := fun W h j => Lib.frozen_of_heap ((h.block _ (by omega)).trans hn1) j
  have HBw : Hid (∀ W, Below W0.heap.size W0 W → Below w.heap.size w W) := fun W h => hA.trans (h.mono hA.size)
  have HSz : Hid (∀ W, Below W0.heap.size W0 W → w.heap.size + 1 < W.heap.size ∧ w.heap.size < W.heap.size) := fun W h => by have := h.size; omega
  have HRo : Hid (∀ W, Below W0.heap.size W0 W → Calls Tryz.prog 11 #[o.vo] W fun e w' => ∃ x y, e = .returned (.slice x o.t.own.length y) ∧ Hid (w'.ownsRow W0.heap.size 82 3 (.slice x o.t.own.length y) o.t.own.length (fCells o.t.own)) ∧ Below W0.heap.size W0 w' ∧ Below W.heap.size W w') := fun W h => (refsO_any _ o.t.own W (ho.1.below (HBw.out W h)) h1).mono fun e w' ⟨x, y, he, hw, hb⟩ => ⟨x, y, he, own_leT hw h.size, h.trans (hb.mono h.size), hb⟩
  have HRa : Hid (∀ W, Below W0.heap.size W0 W → Calls Tryz.prog 11 #[o.va] W fun e w' => ∃ x y, e = .returned (.slice x o.t.all.length y) ∧ Hid (w'.ownsRow W0.heap.size 82 3 (.slice x o.t.all.length y) o.t.all.length (fCells o.t.all)) ∧ Below W0.heap.size W0 w' ∧ Below W.heap.size W w') := fun W h => (refsO_any _ o.t.all W (ho.2.1.below (HBw.out W h)) h2).mono fun e w' ⟨x, y, he, hw, hb⟩ => ⟨x, y, he, own_leT hw h.size, h.trans (hb.mono h.size), hb⟩
  have HFin : Hid (∀ (wA wB : World) (x1 : Option Addr) (y1 : Nat) (x2 : Option Addr) (y2 : Nat), Hid (wA.ownsRow W0.heap.size 82 3 (.slice x1 o.t.own.length y1) o.t.own.length (fCells o.t.own)) → Hid (wB.ownsRow W0.heap.size 82 3 (.slice x2 o.t.all.length y2) o.t.all.length (fCells o.t.all)) → Below wA.heap.size wA wB → Below W0.heap.size W0 wB → CtG w o ((((((((wB.setCell ⟨w.heap.size + 1, 0, none⟩ (.string o.t.n)).setCell ⟨w.heap.size + 1, 1, none⟩ (.string o.t.p)).setCell ⟨w.heap.size + 1, 2, none⟩ (.slice x1 o.t.own.length y1)).setCell ⟨w.heap.size + 1, 3, none⟩ (.slice x2 o.t.all.length y2)).setCell ⟨w.heap.size + 1, 4, none⟩ o.vc).setCell ⟨w.heap.size + 1, 5, none⟩ (.int .i64 o.t.nd)).setCell ⟨w.heap.size + 1, 6, none⟩ (.int .i64 o.t.lf)).setCell ⟨w.heap.size + 1, 7, none⟩ (.int .i64 o.t.sq))) := fun wA wB x1 y1 x2 y2 o1 o2 hAB hB => by
    have n1 : NewA (w.heap.size + 2) x1 := (NewA.own o1.out).le (by omega)
    have n2 : NewA (w.heap.size + 2) x2 := (NewA.own o2.out).le (by omega)
    have r1 := (IsRow.own o1.out).below hAB
    have r2 := IsRow.own o2.out
    have hg : w.heap.size + 1 < w.heap.size + 2 := by omega
    have hBx := below8 (HBw.out _ hB) (Nat.le_add_right _ 1) (.string o.t.n) (.string o.t.p) (.slice x1 o.t.own.length y1) (.slice x2 o.t.all.length y2) o.vc (.int .i64 o.t.nd) (.int .i64 o.t.lf) (.int .i64 o.t.sq)
    exact ⟨⟨o.t, x1, y1, x2, y2, o.ac, o.cc⟩, rfl, ⟨n1.le (by omega), n2.le (by omega), rfl⟩, ⟨row_far (row_far (row_far (row_far (row_far (row_far (row_far (row_far (r1) (n1) hg 0 _) (n1) hg 1 _) (n1) hg 2 _) (n1) hg 3 _) (n1) hg 4 _) (n1) hg 5 _) (n1) hg 6 _) (n1) hg 7 _, row_far (row_far (row_far (row_far (row_far (row_far (row_far (row_far (r2) (n2) hg 0 _) (n2) hg 1 _) (n2) hg 2 _) (n2) hg 3 _) (n2) hg 4 _) (n2) hg 5 _) (n2) hg 6 _) (n2) hg 7 _, ho.2.2.below hBx⟩, hBx, (HZ.out _ hB).put8 o.t _ _ _⟩
  have HK8 : Hid (∀ WE : World, BxT w.heap.size o.t o.vo o.va o.vc WE → ∀ u0 u1 u2 u3 u4 u5 u6 u7, BxT w.heap.size o.t o.vo o.va o.vc ((((((((WE.setCell ⟨w.heap.size + 1, 0, none⟩ u0).setCell ⟨w.heap.size + 1, 1, none⟩ u1).setCell ⟨w.heap.size + 1, 2, none⟩ u2).setCell ⟨w.heap.size + 1, 3, none⟩ u3).setCell ⟨w.heap.size + 1, 4, none⟩ u4).setCell ⟨w.heap.size + 1, 5, none⟩ u5).setCell ⟨w.heap.size + 1, 6, none⟩ u6).setCell ⟨w.heap.size + 1, 7, none⟩ u7)) := fun WE h u0 u1 u2 u3 u4 u5 u6 u7 => by
    have q : ∀ (W : World) (j k : Nat) (v : Value), (W.setCell ⟨w.heap.size + 1, j, none⟩ v).cell? ⟨w.heap.size, k, none⟩ = W.cell? ⟨w.heap.size, k, none⟩ := fun W j k v => World.cell?_setCell_other _ _ _ _ (by simp only [ne_eq, Addr.mk.injEq, not_and]; intro e; omega)
    unfold BxT at h ⊢
    simp only [q]
    exact h
  have HR1 : Hid (Below W0.heap.size W0 W0.drew) := (Below.refl _ _).drew
  clear hn0 hn1 hA ho h1 h2
  go_enter Tryz.func17, Tryz.ntmps17
  go_wp2_with fail
  rw [← hW0]
  clear hW0
  go_cut [] (fun wx => CtG w o wx)
  case first =>
    refine wp_region_held_drew (S := fun w' => BxT w.heap.size o.t o.vo o.va o.vc w') (by kernel_rfl) (HX.out _ HR1.out) (fun hHeld => ?_)
    generalize W0.drew = wd at *
    refine wpAnyH_take (i := 0) (v := ?_) rfl (by kernel_rfl) (by kernel_rfl) (by kernel_rfl) (fun _ _ _ h => h) (Or.inl ⟨by rfl, ?_⟩) hHeld ?_
    rotate_left 1
    · intro w9 hSw; obtain ⟨⟨g0, g1, g2, g3⟩, g4, g5, g6, g7⟩ := hSw; go_simp; try with_reducible rfl
    change wpAnyH _ _ _ _ _ _ _ (Act.put _ (some 3) _) _
    simp only [Act.put, List.setIfInBounds_toArray, List.set_cons_zero, List.set_cons_succ]
    refine wpAnyH_take (i := 1) (v := ?_) rfl (by kernel_rfl) (by kernel_rfl) (by kernel_rfl) (fun _ _ _ h => h) (Or.inl ⟨by rfl, ?_⟩) hHeld ?_
    rotate_left 1
    · intro w9 hSw; obtain ⟨⟨g0, g1, g2, g3⟩, g4, g5, g6, g7⟩ := hSw; go_simp; try with_reducible rfl
    change wpAnyH _ _ _ _ _ _ _ (Act.put _ (some 4) _) _
    simp only [Act.put, List.setIfInBounds_toArray, List.set_cons_zero, List.set_cons_succ]
    refine wpAnyH_take (i := 2) (v := ?_) rfl (by kernel_rfl) (by kernel_rfl) (by kernel_rfl) (fun _ _ _ h => h) (Or.inl ⟨by rfl, ?_⟩) hHeld ?_
    rotate_left 1
    · intro w9 hSw; obtain ⟨⟨g0, g1, g2, g3⟩, g4, g5, g6, g7⟩ := hSw; go_simp; try with_reducible rfl
    change wpAnyH _ _ _ _ _ _ _ (Act.put _ (some 5) _) _
    simp only [Act.put, List.setIfInBounds_toArray, List.set_cons_zero, List.set_cons_succ]
    refine wpAnyH_take (i := 3) (v := ?_) rfl (by kernel_rfl) (by kernel_rfl) (by kernel_rfl) (fun _ _ _ h => h) (Or.inl ⟨by rfl, ?_⟩) hHeld ?_
    rotate_left 1
    · intro w9 hSw; obtain ⟨⟨g0, g1, g2, g3⟩, g4, g5, g6, g7⟩ := hSw; go_simp; try with_reducible rfl
    change wpAnyH _ _ _ _ _ _ _ (Act.put _ (some 6) _) _
    simp only [Act.put, List.setIfInBounds_toArray, List.set_cons_zero, List.set_cons_succ]
    refine wpAnyH_take (i := 4) (v := ?_) rfl (by kernel_rfl) (by kernel_rfl) (by kernel_rfl) (fun _ _ _ h => h) (Or.inl ⟨by rfl, ?_⟩) hHeld ?_
    rotate_left 1
    · intro w9 hSw; obtain ⟨⟨g0, g1, g2, g3⟩, g4, g5, g6, g7⟩ := hSw; go_simp; try with_reducible rfl
    change wpAnyH _ _ _ _ _ _ _ (Act.put _ (some 7) _) _
    simp only [Act.put, List.setIfInBounds_toArray, List.set_cons_zero, List.set_cons_succ]
    refine wpAnyH_take (i := 5) (v := ?_) rfl (by kernel_rfl) (by kernel_rfl) (by kernel_rfl) (fun _ _ _ h => h) (Or.inl ⟨by rfl, ?_⟩) hHeld ?_
    rotate_left 1
    · intro w9 hSw; obtain ⟨⟨g0, g1, g2, g3⟩, g4, g5, g6, g7⟩ := hSw; go_simp; try with_reducible rfl
    change wpAnyH _ _ _ _ _ _ _ (Act.put _ (some 8) _) _
    simp only [Act.put, List.setIfInBounds_toArray, List.set_cons_zero, List.set_cons_succ]
    refine wpAnyH_take (i := 7) (v := ?_) rfl (by kernel_rfl) (by kernel_rfl) (by kernel_rfl) (fun _ _ _ h => h) (Or.inl ⟨by rfl, ?_⟩) hHeld ?_
    rotate_left 1
    · intro w9 hSw; obtain ⟨⟨g0, g1, g2, g3⟩, g4, g5, g6, g7⟩ := hSw; go_simp; try with_reducible rfl
    change wpAnyH _ _ _ _ _ _ _ (Act.put _ (some 10) _) _
    simp only [Act.put, List.setIfInBounds_toArray, List.set_cons_zero, List.set_cons_succ]
    refine wpAnyH_take (i := 8) (v := ?_) rfl (by kernel_rfl) (by kernel_rfl) (by kernel_rfl) (fun _ _ _ h => h) (Or.inl ⟨by rfl, ?_⟩) hHeld ?_
    rotate_left 1
    · intro w9 hSw; obtain ⟨⟨g0, g1, g2, g3⟩, g4, g5, g6, g7⟩ := hSw; go_simp; try with_reducible rfl
    change wpAnyH _ _ _ _ _ _ _ (Act.put _ (some 11) _) _
    simp only [Act.put, List.setIfInBounds_toArray, List.set_cons_zero, List.set_cons_succ]
    refine wpAnyH_take (i := 10) (v := ?_) rfl (by kernel_rfl) (by kernel_rfl) (by kernel_rfl) (fun _ _ _ h => h) (Or.inl ⟨by rfl, ?_⟩) hHeld ?_
    rotate_left 1
    · intro w9 hSw; obtain ⟨⟨g0, g1, g2, g3⟩, g4, g5, g6, g7⟩ := hSw; go_simp; try with_reducible rfl
    change wpAnyH _ _ _ _ _ _ _ (Act.put _ (some 13) _) _
    simp only [Act.put, List.setIfInBounds_toArray, List.set_cons_zero, List.set_cons_succ]
    refine wpAnyH_take (i := 11) (v := ?_) rfl (by kernel_rfl) (by kernel_rfl) (by kernel_rfl) (fun _ _ _ h => h) (Or.inl ⟨by rfl, ?_⟩) hHeld ?_
    rotate_left 1
    · intro w9 hSw; obtain ⟨⟨g0, g1, g2, g3⟩, g4, g5, g6, g7⟩ := hSw; go_simp; try with_reducible rfl
    change wpAnyH _ _ _ _ _ _ _ (Act.put _ (some 14) _) _
    simp only [Act.put, List.setIfInBounds_toArray, List.set_cons_zero, List.set_cons_succ]
    refine wpAnyH_take (i := 12) (v := ?_) rfl (by kernel_rfl) (by kernel_rfl) (by kernel_rfl) (fun _ _ _ h => h) (Or.inl ⟨by rfl, ?_⟩) hHeld ?_
    rotate_left 1
    · intro w9 hSw; obtain ⟨⟨g0, g1, g2, g3⟩, g4, g5, g6, g7⟩ := hSw; go_simp; try with_reducible rfl
    change wpAnyH _ _ _ _ _ _ _ (Act.put _ (some 15) _) _
    simp only [Act.put, List.setIfInBounds_toArray, List.set_cons_zero, List.set_cons_succ]
    refine wpAnyH_take (i := 13) (v := ?_) rfl (by kernel_rfl) (by kernel_rfl) (by kernel_rfl) (fun _ _ _ h => h) (Or.inl ⟨by rfl, ?_⟩) hHeld ?_
    rotate_left 1
    · intro w9 hSw; obtain ⟨⟨g0, g1, g2, g3⟩, g4, g5, g6, g7⟩ := hSw; go_simp; try with_reducible rfl
    change wpAnyH _ _ _ _ _ _ _ (Act.put _ (some 16) _) _
    simp only [Act.put, List.setIfInBounds_toArray, List.set_cons_zero, List.set_cons_succ]
    refine wpAnyH_ready (rs := [6]) (by kernel_rfl) (by simp) ?_
    refine AllReadyH.cons rfl (fun K hK => ?_) AllReadyH.nil
    go_simp
    refine (HRo.out _ HR1.out).mono ?_
    rintro e w4 ⟨x1, y1, rfl, HO1, hb4, hc4⟩
    go_simp
    refine hK.out _ _ (HX.out _ hb4) (fun hHeld => ?_)
    clear hK K
    refine wpAnyH_ready (rs := [9]) (by kernel_rfl) (by simp) ?_
    refine AllReadyH.cons rfl (fun K hK => ?_) AllReadyH.nil
    go_simp
    refine (HRa.out _ hb4).mono ?_
    rintro e w5 ⟨x2, y2, rfl, HO2, hb5, hc5⟩
    go_simp
    refine hK.out _ _ (HX.out _ hb5) (fun hHeld => ?_)
    clear hK K
    refine wpAnyH_take (i := 14) (v := ?_) rfl (by kernel_rfl) (by kernel_rfl) (by kernel_rfl) (fun _ _ _ h => h) (Or.inl ⟨by rfl, ?_⟩) hHeld ?_
    rotate_left 1
    · intro w9 hSw; obtain ⟨⟨g0, g1, g2, g3⟩, g4, g5, g6, g7⟩ := hSw; go_simp; try with_reducible rfl
    change wpAnyH _ _ _ _ _ _ _ (Act.put _ (some 17) _) _
    simp only [Act.put, List.setIfInBounds_toArray, List.set_cons_zero, List.set_cons_succ]
    obtain ⟨⟨m0, m1, m2, m3⟩, m4, m5, m6, m7⟩ := HZ.out _ hb5
    have mf := HF1.out _ hb5
    obtain ⟨ms1, ms2⟩ := HSz.out _ hb5
    have HCt : Hid _ := HFin.out w4 w5 x1 y1 x2 y2 HO1 HO2 hc5 hb5
    have HC8 := HX.out _ hb5
    refine wpAnyH_ready (rs := [15]) (by kernel_rfl) (by simp) ?_
    refine AllReadyH.cons rfl (fun K hK => ?_) AllReadyH.nil
    go_simp
    refine hK.out _ _ (HK8.out w5 HC8 _ _ _ _ _ _ _ _) (fun hHeld => ?_)
    clear hK K
    refine wpAnyH_done (by kernel_rfl) ?_ _
    try go_wp2_with fail
    go_meet
    exact HCt.out
  case rest =>
    obtain ⟨y, hy, hyn, HT, HB1, HX1⟩ := hcut
    obtain ⟨⟨c0, c1, c2, c3⟩, c4, c5, c6, c7⟩ := HX1.out
    have HEnd : Hid (RtN o w (.returned (ltV y)) wc) := ⟨y, rfl, hy, hyn, HT.out, HB1.out⟩
    clear HX1 HT HB1 HFin HR1 HSz HZ HF1 HBw HRo HRa HX HK8 hy hyn
    go_wp2_with fail
    try simp only [Exit.inBlock, Exit.then]
    refine bodyPost_ret (v := ltV y) ?_ rfl HEnd.out
    rw [results_c1 rfl]; go_simp
theorem info_rt : (Tryz.prog.info? 41).map (fun i => (i.zero, i.size, i.bytes)) = some (some (.agg zTyA), 8, 128) := by kernel_rfl
/-- A row that does not lie where another one is written. -/
def OffA (o : Value) (a : Option Addr) (n : Nat) : Prop := 0 < n → ∀ g, a = some g → o.ownBlock ≠ some g.block
def OffT (o : Value) (y : LT) : Prop := OffA o y.ao y.t.own.length ∧ OffA o y.aa y.t.all.length ∧ OffA o y.ac y.t.ch.length
theorem row_grown {w w' : World} {sz n c : Nat} {a : Option Addr} {xs : List Value} {o : Value} (h : IsRow w sz (.slice a n c) n xs) (ho : OffA o a n) (hg : w.grownBy w' o.ownBlock) : IsRow w' sz (.slice a n c) n xs := by
  refine ⟨h.1, ?_⟩
  rcases h.2 with h0 | ⟨b, off, cap, hv, hlt, q1, q2, hc⟩
  · exact .inl h0
  · simp only [Value.slice.injEq] at hv
    by_cases hn : n = 0
    · subst hn
      exact .inl ⟨rfl, a, c, rfl⟩
    · have hne : some b ≠ o.ownBlock := fun e => ho (by omega) _ hv.1 e.symm
      refine .inr ⟨b, off, cap, by simp only [Value.slice.injEq]; exact hv, Nat.lt_of_lt_of_le hlt hg.size, q1, q2, fun k u hu => ?_⟩
      rw [hg.cell_far ⟨b, off + k, none⟩ hlt hne]
      exact hc k u hu
theorem row_lt {w : World} {sz n c : Nat} {a : Option Addr} {xs : List Value} (h : IsRow w sz (.slice a n c) n xs) (hn : 0 < n) : ∀ g, a = some g → g.block < w.heap.size := by
  intro g hg
  rcases h.2 with ⟨h0, -⟩ | ⟨b, off, cap, hv, hlt, -, -, -⟩
  · omega
  · simp only [Value.slice.injEq] at hv
    rw [hv.1] at hg
    obtain rfl := Option.some.inj hg
    exact hlt
theorem OffA.next {w : World} {sz n c : Nat} {a : Option Addr} {xs : List Value} {o : Value} {g H m cap : Nat} (h : IsRow w sz (.slice a n c) n xs) (ho : OffA o a n) (hat : o.ownBlock = some g ∨ g = H) (hH : w.heap.size ≤ H) : OffA (.slice (some ⟨g, 0, none⟩) m cap) a n := by
  intro hn ga he e
  have e' : g = ga.block := by simpa [Value.ownBlock] using e
  rcases hat with h1 | h1
  · exact ho hn ga he (by rw [h1, e'])
  · have := row_lt h hn ga he
    omega
theorem OffT.next {w : World} {y : LT} {o : Value} {g H m cap : Nat} (h : IsTy w y.t y.vo y.va y.vc) (ho : OffT o y) (hat : o.ownBlock = some g ∨ g = H) (hH : w.heap.size ≤ H) : OffT (.slice (some ⟨g, 0, none⟩) m cap) y :=
  ⟨OffA.next h.1 ho.1 hat hH, OffA.next h.2.1 ho.2.1 hat hH, OffA.next h.2.2 ho.2.2 hat hH⟩
theorem ty_grown {w w' : World} {y : LT} {o : Value} (h : IsTy w y.t y.vo y.va y.vc) (ho : OffT o y) (hg : w.grownBy w' o.ownBlock) : IsTy w' y.t y.vo y.va y.vc := ⟨row_grown h.1 ho.1 hg, row_grown h.2.1 ho.2.1 hg, row_grown h.2.2 ho.2.2 hg⟩
/-- So many types are made for the reference. -/
def RvI (L : List LT) (w : World) (k : Nat) (o : Value) (wr : World) : Prop := ∃ M : List LT, tys M = (tys L).take k ∧ M.length = k ∧ wr.ownsRow w.heap.size 41 8 o k (tCells M) ∧ ∀ y ∈ M, IsTy wr y.t y.vo y.va y.vc ∧ OffT o y
theorem RvI.step {L : List LT} {w wr w2 w3 : World} {k : Nat} {o : Value} {M : List LT} {x y : LT} {g cap : Nat} (hk : k < L.length) (hx : x = L[k]) (hX : IsTy w x.t x.vo x.va x.vc)
    (h1 : tys M = (tys L).take k) (h2 : M.length = k) (h3 : wr.ownsRow w.heap.size 41 8 o k (tCells M)) (h4 : ∀ y ∈ M, IsTy wr y.t y.vo y.va y.vc ∧ OffT o y)
    (hyt : y.t = x.t) (hyn : NewA wr.heap.size y.ao ∧ NewA wr.heap.size y.aa ∧ y.ac = x.ac) (hyI : IsTy w2 y.t y.vo y.va y.vc) (hb2 : Below wr.heap.size wr w2)
    (hown : w3.ownsRow w.heap.size 41 8 (.slice (some ⟨g, 0, none⟩) (k + 1) cap) (k + 1) (tCells M ++ enT y)) (hgrow : (w2.alloc (.cells (tyA y.t y.vo y.va y.vc) 41)).grownBy w3 o.ownBlock) (hat : o.ownBlock = some g ∨ g = w2.heap.size + 1) :
    RvI L w (k + 1) (.slice (some ⟨g, 0, none⟩) (k + 1) cap) w3 := by
  have hal := al_b w2 (.cells (tyA y.t y.vo y.va y.vc) 41)
  have hsz : (w2.alloc (.cells (tyA y.t y.vo y.va y.vc) 41)).heap.size = w2.heap.size + 1 := by simp
  have hoff : OffT o y := by
    have own_lt : ∀ b, o.ownBlock = some b → w.heap.size ≤ b ∧ b < wr.heap.size := fun b hb => by
      have := h3.lt b hb
      exact ⟨this.1, this.2⟩
    refine ⟨fun _ ga he e => ?_, fun _ ga he e => ?_, fun hn ga he e => ?_⟩
    · have := own_lt _ e
      have := hyn.1 ga he
      omega
    · have := own_lt _ e
      have := hyn.2.1 ga he
      omega
    · have h5 := own_lt _ e
      rw [hyn.2.2] at he
      have := row_lt hX.2.2 (by rw [← hyt]; exact hn) ga he
      omega
  have hall : ∀ z ∈ M ++ [y], IsTy (w2.alloc (.cells (tyA y.t y.vo y.va y.vc) 41)) z.t z.vo z.va z.vc ∧ OffT o z := fun z hz => by
    rcases List.mem_append.1 hz with hz | hz
    · obtain ⟨z1, z2⟩ := h4 z hz
      exact ⟨(z1.below hb2).below hal, z2⟩
    · obtain rfl := List.mem_singleton.1 hz
      exact ⟨hyI.below hal, hoff⟩
  refine ⟨M ++ [y], ?_, by simp [h2], ?_, fun z hz => ?_⟩
  · have e1 : tys (M ++ [y]) = tys M ++ [y.t] := by simp [tys]
    rw [e1, h1, hyt, hx, ← tys_at L k hk, List.take_append_getElem]
  · have e2 : tCells (M ++ [y]) = tCells M ++ enT y := by rw [tCells_app]; congr 1
    rw [e2]
    exact hown
  · obtain ⟨z1, z2⟩ := hall z hz
    exact ⟨ty_grown z1 z2 hgrow, OffT.next z1 z2 hat (by rw [hsz]; omega)⟩
/-- Types as the reference has them. -/
def RvP (L : List LT) (w : World) (e : Ending) (w' : World) : Prop := ∃ (a : Option Addr) (c : Nat) (M : List LT), e = .returned (.slice a L.length c) ∧ tys M = tys L ∧ M.length = L.length ∧ IsTys w' (.slice a L.length c) M ∧ Below w.heap.size w w'
set_option maxRecDepth 100000 in
set_option maxHeartbeats 4000000 in
theorem refsT_any (v : Value) (L : List LT) (w : World) (hr : IsTys w v L) (hl : L.length ≤ 100000) (hm : SmL L) :
    Calls Tryz.prog 14 #[v] w fun e w' => RvP L w e w' := by
  obtain ⟨a0, cap0, rfl⟩ := hr.1.form
  obtain ⟨i0, hi0, hz0, hz1, hz2⟩ := info_parts info_rt
  have HR : Hid (∀ W, Below w.heap.size w W → IsRow W 8 (.slice a0 L.length cap0) L.length (tCells L)) := fun W h => hr.1.below h
  have HRf : Hid (∀ (k : Nat) (hk : k < L.length) W, Below w.heap.size w W → Calls Tryz.prog 17 #[ltV L[k]] W fun e w' => RtN L[k] W e w') := fun k hk W h => refN_any _ W ((hr.2 _ (List.getElem_mem hk)).below h) (by have := (hm _ (List.getElem_mem hk)).1; omega) (by have := (hm _ (List.getElem_mem hk)).2.1; omega)
  have HX : Hid (∀ (k : Nat) (hk : k < L.length), IsTy w L[k].t L[k].vo L[k].va L[k].vc) := fun k hk => hr.2 _ (List.getElem_mem hk)
  have HSt : Hid (RvI L w 0 (.slice none 0 0) w) := ⟨[], by simp [tys], rfl, World.ownsRow_nil _ _ _ _, fun y hy => nomatch hy⟩
  clear hr hm
  go_enter Tryz.func14, Tryz.ntmps14
  go_wp2_with fail
  go_loopw [3, 4] (fun o i wr => ∃ k : Nat, k ≤ L.length ∧ i = .int .i64 (k : Int) ∧ Hid (RvI L w k o wr) ∧ Hid (Below w.heap.size w wr)) (fun _ i _ => L.length - (intOf i).toNat)
  case atStart => exact ⟨0, Nat.zero_le _, rfl, HSt, Below.refl _ _⟩
  case round =>
    clear HSt
    obtain ⟨k, hk, rfl, HI, HB⟩ := hrel
    have hsz := HB.out.size
    by_cases hlk : k < L.length
    · have dk : decide ((k : Int) < L.length) = true := by simp; omega
      obtain ⟨b, off, rfl, hbl, -, hcap, hc⟩ := t_at (HR.out _ HB.out) (by omega)
      obtain ⟨⟨y0, y1, y2, y3⟩, y4, y5, y6, y7⟩ := hc k hlk
      have HC1 : Hid (Calls Tryz.prog 17 #[ltV L[k]] wr fun e w' => RtN L[k] wr e w') := HRf.out k hlk wr HB.out
      obtain ⟨M, m1, m2, m3, m4⟩ := HI.out
      have HM3 : Hid (wr.ownsRow w.heap.size 41 8 u3 k (tCells M)) := m3
      have HSp : Hid (∀ (y : LT) (w2 w3 : World) (g cap : Nat), y.t = L[k].t → (NewA wr.heap.size y.ao ∧ NewA wr.heap.size y.aa ∧ y.ac = L[k].ac) → IsTy w2 y.t y.vo y.va y.vc → Below wr.heap.size wr w2 → w3.ownsRow w.heap.size 41 8 (.slice (some ⟨g, 0, none⟩) (k + 1) cap) (k + 1) (tCells M ++ enT y) → (w2.alloc (.cells (tyA y.t y.vo y.va y.vc) 41)).grownBy w3 u3.ownBlock → (u3.ownBlock = some g ∨ g = w2.heap.size + 1) → RvI L w (k + 1) (.slice (some ⟨g, 0, none⟩) (k + 1) cap) w3) := fun y w2 w3 g cap p1 p2 p3 p4 p5 p6 p7 => RvI.step hlk rfl (HX.out k hlk) m1 m2 m3 m4 p1 p2 p3 p4 p5 p6 p7
      have HOl : Hid (∀ b, u3.ownBlock = some b → w.heap.size ≤ b) := fun b hb => (m3.lt b hb).1
      generalize L[k]'hlk = x at *
      clear hc HRf HR HI m1 m2 m3 m4 HX
      go_wp2_with fail
      refine HC1.out.mono ?_
      rintro e w2 ⟨y, rfl, hyt, hyn, hyI, hb2⟩
      have HO2 : Hid (w2.ownsRow w.heap.size 41 8 u3 k (tCells M)) := own_belowE HM3.out hb2
      have HS2 : Hid (∀ (w3 : World) (g cap : Nat), w3.ownsRow w.heap.size 41 8 (.slice (some ⟨g, 0, none⟩) (k + 1) cap) (k + 1) (tCells M ++ enT y) → (w2.alloc (.cells (tyA y.t y.vo y.va y.vc) 41)).grownBy w3 u3.ownBlock → (u3.ownBlock = some g ∨ g = w2.heap.size + 1) → RvI L w (k + 1) (.slice (some ⟨g, 0, none⟩) (k + 1) cap) w3) := fun w3 g cap p5 p6 p7 => HSp.out y w2 w3 g cap hyt hyn hyI hb2 p5 p6 p7
      have HB2 : Hid (Below w.heap.size w w2) := HB.out.trans (hb2.mono hsz)
      have hsz2 := HB2.out.size
      clear hyt hyn hyI hb2 HSp HC1 y0 y1 y2 y3 y4 y5 y6 y7 HM3
      go_wp2_with (at_builtin; go_loud (refine wpList_append_lies _ rfl (.tmp 11) (.tmp 17) 44 rfl w.heap.size 41 i0 _ 8 128 Tryz.underlying44 hi0 hz0 hz1 hz2 rfl (by decide) u3 k (tCells M) rfl (HO2.out.alloc _) ⟨w2.heap.size, 0, none⟩ 1 1 (enT y) rfl rfl (World.news_of_block (cs := tyA y.t y.vo y.va y.vc) (t := 41) (fr := (0, 0)) (heap_alloc_new w2 _)) (oneT_cell y) (by omega) (by unfold maxLen; omega) (by omega) (by simp; omega) (w2.heap.size + 1) (by simp) ?_; intro gg cap w3 hown3 hgrow hat hlt3))
      have HI3 : Hid (RvI L w (k + 1) (.slice (some ⟨gg, 0, none⟩) (k + 1) cap) w3) := HS2.out w3 gg cap hown3 hgrow hat
      have HB3 : Hid (Below w.heap.size w w3) := (HB2.out.trans ((al_b w2 _).mono hsz2)).grown hgrow (by simp; omega) HOl.out
      clear hown3 hgrow hat hlt3 HS2 HO2 HOl
      go_wp2
      go_roundw
      case rel => exact ⟨k + 1, by omega, by simp, HI3, HB3⟩
      case measure => simp [intOf]; omega
    · have dk : decide ((k : Int) < L.length) = false := by simp; omega
      have hk' : k = L.length := by omega
      subst hk'
      obtain ⟨M, m1, m2, m3, m4⟩ := HI.out
      obtain ⟨ra, rc, rfl⟩ := (IsRow.own m3).form
      have HEnd : Hid (RvP L w (.returned (.slice ra L.length rc)) wr) := by
        refine ⟨ra, rc, M, rfl, by rw [m1, List.take_of_length_le (by rw [tys_len]; omega)], m2, ⟨?_, fun y hy => (m4 y hy).1⟩, HB.out⟩
        have := IsRow.own m3
        rw [m2]
        exact this
      clear m1 m2 m3 m4 HI HR HRf HX
      go_wp2
      go_ret
      exact HEnd.out
end Go.Proofs.YtkcnkjaeidbjbaaGreatDoor
