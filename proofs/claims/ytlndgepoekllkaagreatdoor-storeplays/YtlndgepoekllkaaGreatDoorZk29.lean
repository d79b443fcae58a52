/- The law's Ref, where its rows lie; the law's Refs: walks. -/
import Derived.Test.YtlndgepoekllkaaGreatDoorZk27
import Derived.Test.YtlndgepoekllkaaGreatDoorZk9
import Derived.Deep.AppendLies
import Derived.Test.YtlndgepoekllkaaGreatDoorZk19
import Derived.Test.YtlndgepoekllkaaGreatDoorZk5
import Derived.Deep.QuietTactic
import Derived.BigQuiet
import Derived.Test.YtlndgepoekllkaaGreatDoorZk8
namespace Go.Proofs.YtlndgepoekllkaaGreatDoor
open Go.RowKit Go.ChangeMaps

/-- Behind the store of a type for the reference. -/
def CtG (w : World) (o : LT) (wx : World) : Prop := ∃ y : LT, y.t = o.t ∧ (NewA w.heap.size y.ao ∧ NewA w.heap.size y.aa ∧ y.ac = o.ac) ∧ Hid (IsTy wx y.t y.vo y.va y.vc) ∧ Hid (Below w.heap.size w wx) ∧ Hid (BxT (w.heap.size + 1) y.t y.vo y.va y.vc wx)
/-- A type as the reference has it. -/
def RtN (o : LT) (w : World) (e : Ending) (w' : World) : Prop := ∃ y : LT, e = .returned (ltV y) ∧ y.t = o.t ∧ (NewA w.heap.size y.ao ∧ NewA w.heap.size y.aa ∧ y.ac = o.ac) ∧ IsTy w' y.t y.vo y.va y.vc ∧ Below w.heap.size w w'
set_option maxRecDepth 100000 in
set_option maxHeartbeats 4000000 in
theorem refN_any (o : LT) (w : World) (ho : IsTy w o.t o.vo o.va o.vc) (h1 : o.t.own.length ≤ 1000000) (h2 : o.t.all.length ≤ 1000000) :
    Calls Tryz.prog 17 #[ltV o] w fun e w' => RtN o w e w' := by
  obtain ⟨W0, hW0⟩ : ∃ W0, W0 = (w.alloc (.cells (tyA o.t o.vo o.va o.vc) 35)).alloc (.cells zTyA 63) := ⟨_, rfl⟩
  have hA : Below w.heap.size w W0 := by rw [hW0]; exact (al_b w _).trans ((al_b _ _).mono (by simp))
  have hz : W0.heap.size = w.heap.size + 2 := by rw [hW0]; simp
  have hn0 : W0.heap[w.heap.size]? = some (.cells (tyA o.t o.vo o.va o.vc) 35 (0, 0)) := by
    rw [hW0]
    show ((w.heap.push _).push _)[w.heap.size]? = _
    rw [Array.getElem?_push, if_neg (by simp), Array.getElem?_push, if_pos rfl]
  have hn1 : W0.heap[w.heap.size + 1]? = some (.cells zTyA 63 (0, 0)) := by
    rw [hW0]
    show ((w.heap.push _).push _)[w.heap.size + 1]? = _
    rw [Array.getElem?_push, if_pos (by simp)]
  have HX : Hid (∀ W, Below W0.heap.size W0 W → BxT w.heap.size o.t o.vo o.va o.vc W) := fun W h => BxT.of ((h.block _ (by omega)).trans hn0)
  have HZ : Hid (∀ W, Below W0.heap.size W0 W → BxT (w.heap.size + 1) zT (.slice none 0 0) (.slice none 0 0) (.slice none 0 0) W) := fun W h => BxT.ofA ((h.block _ (by omega)).trans hn1)
  have HF1 : Hid (∀ W, Below W0.heap.size W0 W → ∀ j, W.frozen? ⟨w.heap.size + 1, j, none⟩ = false) := fun W h j => Lib.frozen_of_heap ((h.block _ (by omega)).trans hn1) j
  have HBw : Hid (∀ W, Below W0.heap.size W0 W → Below w.heap.size w W) := fun W h => hA.trans (h.mono hA.size)
  have HSz : Hid (∀ W, Below W0.heap.size W0 W → w.heap.size + 1 < W.heap.size ∧ w.heap.size < W.heap.size) := fun W h => by have := h.size; omega
  have HRo : Hid (∀ W, Below W0.heap.size W0 W → Calls Tryz.prog 47 #[o.vo] W fun e w' => ∃ x y, e = .returned (.slice x o.t.own.length y) ∧ Hid (w'.ownsRow W0.heap.size 126 3 (.slice x o.t.own.length y) o.t.own.length (fCells o.t.own)) ∧ Below W0.heap.size W0 w' ∧ Below W.heap.size W w') := fun W h => (refsO_any _ o.t.own W (ho.1.below (HBw.out W h)) h1).mono fun e w' ⟨x, y, he, hw, hb⟩ => ⟨x, y, he, own_leT hw h.size, h.trans (hb.mono h.size), hb⟩
  have HRa : Hid (∀ W, Below W0.heap.size W0 W → Calls Tryz.prog 47 #[o.va] W fun e w' => ∃ x y, e = .returned (.slice x o.t.all.length y) ∧ Hid (w'.ownsRow W0.heap.size 126 3 (.slice x o.t.all.length y) o.t.all.length (fCells o.t.all)) ∧ Below W0.heap.size W0 w' ∧ Below W.heap.size W w') := fun W h => (refsO_any _ o.t.all W (ho.2.1.below (HBw.out W h)) h2).mono fun e w' ⟨x, y, he, hw, hb⟩ => ⟨x, y, he, own_leT hw h.size, h.trans (hb.mono h.size), hb⟩
  have HFin : Hid (∀ (wA wB : World) (x1 : Option Addr) (y1 : Nat) (x2 : Option Addr) (y2 : Nat), Hid (wA.ownsRow W0.heap.size 126 3 (.slice x1 o.t.own.length y1) o.t.own.length (fCells o.t.own)) → Hid (wB.ownsRow W0.heap.size 126 3 (.slice x2 o.t.all.length y2) o.t.all.length (fCells o.t.all)) → Below wA.heap.size wA wB → Below W0.heap.size W0 wB → CtG w o ((((((((wB.setCell ⟨w.heap.size + 1, 0, none⟩ (.string o.t.n)).setCell ⟨w.heap.size + 1, 1, none⟩ (.string o.t.p)).setCell ⟨w.heap.size + 1, 2, none⟩ (.slice x1 o.t.own.length y1)).setCell ⟨w.heap.size + 1, 3, none⟩ (.slice x2 o.t.all.length y2)).setCell ⟨w.heap.size + 1, 4, none⟩ o.vc).setCell ⟨w.heap.size + 1, 5, none⟩ (.int .i64 o.t.nd)).setCell ⟨w.heap.size + 1, 6, none⟩ (.int .i64 o.t.lf)).setCell ⟨w.heap.size + 1, 7, none⟩ (.int .i64 o.t.sq))) := fun wA wB x1 y1 x2 y2 o1 o2 hAB hB => by
    have n1 : NewA (w.heap.size + 2) x1 := (NewA.own o1.out).le (by omega)
    have n2 : NewA (w.heap.size + 2) x2 := (NewA.own o2.out).le (by omega)
    have r1 := (IsRow.own o1.out).below hAB
    have r2 := IsRow.own o2.out
    have hg : w.heap.size + 1 < w.heap.size + 2 := by omega
    have hBx := below8 (HBw.out _ hB) (Nat.le_add_right _ 1) (.string o.t.n) (.string o.t.p) (.slice x1 o.t.own.length y1) (.slice x2 o.t.all.length y2) o.vc (.int .i64 o.t.nd) (.int .i64 o.t.lf) (.int .i64 o.t.sq)
    exact ⟨⟨o.t, x1, y1, x2, y2, o.ac, o.cc⟩, rfl, ⟨n1.le (by omega), n2.le (by omega), rfl⟩, ⟨row_far (row_far (row_far (row_far (row_far (row_far (row_far (row_far (r1) (n1) hg 0 _) (n1) hg 1 _) (n1) hg 2 _) (n1) hg 3 _) (n1) hg 4 _) (n1) hg 5 _) (n1) hg 6 _) (n1) hg 7 _, row_far (row_far (row_far (row_far (row_far (row_far (row_far (row_far (r2) (n2) hg 0 _) (n2) hg 1 _) (n2) hg 2 _) (n2) hg 3 _) (n2) hg 4 _) (n2) hg 5 _) (n2) hg 6 _) (n2) hg 7 _, ho.2.2.below hBx⟩, hBx, (HZ.out _ hB).put8 o.t _ _ _⟩
  have HK8 : Hid (∀ WE : World, BxT w.heap.size o.t o.vo o.va o.vc WE → ∀ u0 u1 u2 u3 u4 u5 u6 u7, BxT w.heap.size o.t o.vo o.va o.vc ((((((((WE.setCell ⟨w.heap.size + 1, 0, none⟩ u0).setCell ⟨w.heap.size + 1, 1, none⟩ u1).setCell ⟨w.heap.size + 1, 2, none⟩ u2).setCell ⟨w.heap.size + 1, 3, none⟩ u3).setCell ⟨w.heap.size + 1, 4, none⟩ u4).setCell ⟨w.heap.size + 1, 5, none⟩ u5).setCell ⟨w.heap.size + 1, 6, none⟩ u6).setCell ⟨w.heap.size + 1, 7, none⟩ u7)) := fun WE h u0 u1 u2 u3 u4 u5 u6 u7 => by
    have q : ∀ (W : World) (j k : Nat) (v : Value), (W.setCell ⟨w.heap.size + 1, j, none⟩ v).cell? ⟨w.heap.size, k, none⟩ = W.cell? ⟨w.heap.size, k, none⟩ := fun W j k v => World.cell?_setCell_other _ _ _ _ (by simp only [ne_eq, Addr.mk.injEq, not_and]; intro e; omega)
    unfold BxT at h ⊢
    simp only [q]
    exact h
  have HR1 : Hid (Below W0.heap.size W0 W0.drew) := (Below.refl _ _).drew
  clear hn0 hn1 hA ho h1 h2
  go_enter Tryz.func17, Tryz.ntmps17
  go_wp2_with fail
  rw [← hW0]
  clear hW0
  go_cut [] (fun wx => CtG w o wx)
  case first =>
    refine wp_region_held_drew (S := fun w' => BxT w.heap.size o.t o.vo o.va o.vc w') (by kernel_rfl) (HX.out _ HR1.out) (fun hHeld => ?_)
    generalize W0.drew = wd at *
    refine wpAnyH_take (i := 0) (v := ?_) rfl (by kernel_rfl) (by kernel_rfl) (by kernel_rfl) (fun _ _ _ h => h) (Or.inl ⟨by rfl, ?_⟩) hHeld ?_
    rotate_left 1
    · intro w9 hSw; obtain ⟨⟨g0, g1, g2, g3⟩, g4, g5, g6, g7⟩ := hSw; go_simp; try with_reducible rfl
    change wpAnyH _ _ _ _ _ _ _ (Act.put _ (some 3) _) _
    simp only [Act.put, List.setIfInBounds_toArray, List.set_cons_zero, List.set_cons_succ]
    refine wpAnyH_take (i := 1) (v := ?_) rfl (by kernel_rfl) (by kernel_rfl) (by kernel_rfl) (fun _ _ _ h => h) (Or.inl ⟨by rfl, ?_⟩) hHeld ?_
    rotate_left 1
    · intro w9 hSw; obtain ⟨⟨g0, g1, g2, g3⟩, g4, g5, g6, g7⟩ := hSw; go_simp; try with_reducible rfl
    change wpAnyH _ _ _ _ _ _ _ (Act.put _ (some 4) _) _
    simp only [Act.put, List.setIfInBounds_toArray, List.set_cons_zero, List.set_cons_succ]
    refine wpAnyH_take (i := 2) (v := ?_) rfl (by kernel_rfl) (by kernel_rfl) (by kernel_rfl) (fun _ _ _ h => h) (Or.inl ⟨by rfl, ?_⟩) hHeld ?_
    rotate_left 1
    · intro w9 hSw; obtain ⟨⟨g0, g1, g2, g3⟩, g4, g5, g6, g7⟩ := hSw; go_simp; try with_reducible rfl
    change wpAnyH _ _ _ _ _ _ _ (Act.put _ (some 5) _) _
    simp only [Act.put, List.setIfInBounds_toArray, List.set_cons_zero, List.set_cons_succ]
    refine wpAnyH_take (i := 3) (v := ?_) rfl (by kernel_rfl) (by kernel_rfl) (by kernel_rfl) (fun _ _ _ h => h) (Or.inl ⟨by rfl, ?_⟩) hHeld ?_
    rotate_left 1
    · intro w9 hSw; obtain ⟨⟨g0, g1, g2, g3⟩, g4, g5, g6, g7⟩ := hSw; go_simp; try with_reducible rfl
    change wpAnyH _ _ _ _ _ _ _ (Act.put _ (some 6) _) _
    simp only [Act.put, List.setIfInBounds_toArray, List.set_cons_zero, List.set_cons_succ]
    refine wpAnyH_take (i := 4) (v := ?_) rfl (by kernel_rfl) (by kernel_rfl) (by kernel_rfl) (fun _ _ _ h => h) (Or.inl ⟨by rfl, ?_⟩) hHeld ?_
    rotate_left 1
    · intro w9 hSw; obtain ⟨⟨g0, g1, g2, g3⟩, g4, g5, g6, g7⟩ := hSw; go_simp; try with_reducible rfl
    change wpAnyH _ _ _ _ _ _ _ (Act.put _ (some 7) _) _
    simp only [Act.put, List.setIfInBounds_toArray, List.set_cons_zero, List.set_cons_succ]
    refine wpAnyH_take (i := 5) (v := ?_) rfl (by kernel_rfl) (by kernel_rfl) (by kernel_rfl) (fun _ _ _ h => h) (Or.inl ⟨by rfl, ?_⟩) hHeld ?_
    rotate_left 1
    · intro w9 hSw; obtain ⟨⟨g0, g1, g2, g3⟩, g4, g5, g6, g7⟩ := hSw; go_simp; try with_reducible rfl
    change wpAnyH _ _ _ _ _ _ _ (Act.put _ (some 8) _) _
    simp only [Act.put, List.setIfInBounds_toArray, List.set_cons_zero, List.set_cons_succ]
    refine wpAnyH_take (i := 7) (v := ?_) rfl (by kernel_rfl) (by kernel_rfl) (by kernel_rfl) (fun _ _ _ h => h) (Or.inl ⟨by rfl, ?_⟩) hHeld ?_
    rotate_left 1
    · intro w9 hSw; obtain ⟨⟨g0, g1, g2, g3⟩, g4, g5, g6, g7⟩ := hSw; go_simp; try with_reducible rfl
    change wpAnyH _ _ _ _ _ _ _ (Act.put _ (some 10) _) _
    simp only [Act.put, List.setIfInBounds_toArray, List.set_cons_zero, List.set_cons_succ]
    refine wpAnyH_take (i := 8) (v := ?_) rfl (by kernel_rfl) (by kernel_rfl) (by kernel_rfl) (fun _ _ _ h => h) (Or.inl ⟨by rfl, ?_⟩) hHeld ?_
    rotate_left 1
    · intro w9 hSw; obtain ⟨⟨g0, g1, g2, g3⟩, g4, g5, g6, g7⟩ := hSw; go_simp; try with_reducible rfl
    change wpAnyH _ _ _ _ _ _ _ (Act.put _ (some 11) _) _
    simp only [Act.put, List.setIfInBounds_toArray, List.set_cons_zero, List.set_cons_succ]
    refine wpAnyH_take (i := 10) (v := ?_) rfl (by kernel_rfl) (by kernel_rfl) (by kernel_rfl) (fun _ _ _ h => h) (Or.inl ⟨by rfl, ?_⟩) hHeld ?_
    rotate_left 1
    · intro w9 hSw; obtain ⟨⟨g0, g1, g2, g3⟩, g4, g5, g6, g7⟩ := hSw; go_simp; try with_reducible rfl
    change wpAnyH _ _ _ _ _ _ _ (Act.put _ (some 13) _) _
    simp only [Act.put, List.setIfInBounds_toArray, List.set_cons_zero, List.set_cons_succ]
    refine wpAnyH_take (i := 11) (v := ?_) rfl (by kernel_rfl) (by kernel_rfl) (by kernel_rfl) (fun _ _ _ h => h) (Or.inl ⟨by rfl, ?_⟩) hHeld ?_
    rotate_left 1
    · intro w9 hSw; obtain ⟨⟨g0, g1, g2, g3⟩, g4, g5, g6, g7⟩ := hSw; go_simp; try with_reducible rfl
    change wpAnyH _ _ _ _ _ _ _ (Act.put _ (some 14) _) _
    simp only [Act.put, List.setIfInBounds_toArray, List.set_cons_zero, List.set_cons_succ]
    refine wpAnyH_take (i := 12) (v := ?_) rfl (by kernel_rfl) (by kernel_rfl) (by kernel_rfl) (fun _ _ _ h => h) (Or.inl ⟨by rfl, ?_⟩) hHeld ?_
    rotate_left 1
    · intro w9 hSw; obtain ⟨⟨g0, g1, g2, g3⟩, g4, g5, g6, g7⟩ := hSw; go_simp; try with_reducible rfl
    change wpAnyH _ _ _ _ _ _ _ (Act.put _ (some 15) _) _
    simp only [Act.put, List.setIfInBounds_toArray, List.set_cons_zero, List.set_cons_succ]
    refine wpAnyH_take (i := 13) (v := ?_) rfl (by kernel_rfl) (by kernel_rfl) (by kernel_rfl) (fun _ _ _ h => h) (Or.inl ⟨by rfl, ?_⟩) hHeld ?_
    rotate_left 1
    · intro w9 hSw; obtain ⟨⟨g0, g1, g2, g3⟩, g4, g5, g6, g7⟩ := hSw; go_simp; try with_reducible rfl
    change wpAnyH _ _ _ _ _ _ _ (Act.put _ (some 16) _) _
    simp only [Act.put, List.setIfInBounds_toArray, List.set_cons_zero, List.set_cons_succ]
    refine wpAnyH_ready (rs := [6]) (by kernel_rfl) (by simp) ?_
    refine AllReadyH.cons rfl (fun K hK => ?_) AllReadyH.nil
    go_simp
    refine (HRo.out _ HR1.out).mono ?_
    rintro e w4 ⟨x1, y1, rfl, HO1, hb4, hc4⟩
    go_simp
    refine hK.out _ _ (HX.out _ hb4) (fun hHeld => ?_)
    clear hK K
    refine wpAnyH_ready (rs := [9]) (by kernel_rfl) (by simp) ?_
    refine AllReadyH.cons rfl (fun K hK => ?_) AllReadyH.nil
    go_simp
    refine (HRa.out _ hb4).mono ?_
    rintro e w5 ⟨x2, y2, rfl, HO2, hb5, hc5⟩
    go_simp
    refine hK.out _ _ (HX.out _ hb5) (fun hHeld => ?_)
    clear hK K
    refine wpAnyH_take (i := 14) (v := ?_) rfl (by kernel_rfl) (by kernel_rfl) (by kernel_rfl) (fun _ _ _ h => h) (Or.inl ⟨by rfl, ?_⟩) hHeld ?_
    rotate_left 1
    · intro w9 hSw; obtain ⟨⟨g0, g1, g2, g3⟩, g4, g5, g6, g7⟩ := hSw; go_simp; try with_reducible rfl
    change wpAnyH _ _ _ _ _ _ _ (Act.put _ (some 17) _) _
    simp only [Act.put, List.setIfInBounds_toArray, List.set_cons_zero, List.set_cons_succ]
    obtain ⟨⟨m0, m1, m2, m3⟩, m4, m5, m6, m7⟩ := HZ.out _ hb5
    have mf := HF1.out _ hb5
    obtain ⟨ms1, ms2⟩ := HSz.out _ hb5
    have HCt : Hid _ := HFin.out w4 w5 x1 y1 x2 y2 HO1 HO2 hc5 hb5
    have HC8 := HX.out _ hb5
    refine wpAnyH_ready (rs := [15]) (by kernel_rfl) (by simp) ?_
    refine AllReadyH.cons rfl (fun K hK => ?_) AllReadyH.nil
    go_simp
    refine hK.out _ _ (HK8.out w5 HC8 _ _ _ _ _ _ _ _) (fun hHeld => ?_)
    clear hK K
    refine wpAnyH_done (by kernel_rfl) ?_ _
    try go_wp2_with fail
    go_meet
    exact HCt.out
  case rest =>
    obtain ⟨y, hy, hyn, HT, HB1, HX1⟩ := hcut
    obtain ⟨⟨c0, c1, c2, c3⟩, c4, c5, c6, c7⟩ := HX1.out
    have HEnd : Hid (RtN o w (.returned (ltV y)) wc) := ⟨y, rfl, hy, hyn, HT.out, HB1.out⟩
    clear HX1 HT HB1 HFin HR1 HSz HZ HF1 HBw HRo HRa HX HK8 hy hyn
    go_wp2_with fail
    try simp only [Exit.inBlock, Exit.then]
    refine bodyPost_ret (v := ltV y) ?_ rfl HEnd.out
    rw [results_c1 rfl]; go_simp
/-- A row that does not lie where another one is written. -/
def OffA (o : Value) (a : Option Addr) (n : Nat) : Prop := 0 < n → ∀ g, a = some g → o.ownBlock ≠ some g.block
def OffT (o : Value) (y : LT) : Prop := OffA o y.ao y.t.own.length ∧ OffA o y.aa y.t.all.length ∧ OffA o y.ac y.t.ch.length
theorem row_grown {w w' : World} {sz n c : Nat} {a : Option Addr} {xs : List Value} {o : Value} (h : IsRow w sz (.slice a n c) n xs) (ho : OffA o a n) (hg : w.grownBy w' o.ownBlock) : IsRow w' sz (.slice a n c) n xs := by
  refine ⟨h.1, ?_⟩
  rcases h.2 with h0 | ⟨b, off, cap, hv, hlt, q1, q2, hc⟩
  · exact .inl h0
  · simp only [Value.slice.injEq] at hv
    by_cases hn : n = 0
    · subst hn
      exact .inl ⟨rfl, a, c, rfl⟩
    · have hne : some b ≠ o.ownBlock := fun e => ho (by omega) _ hv.1 e.symm
      refine .inr ⟨b, off, cap, by simp only [Value.slice.injEq]; exact hv, Nat.lt_of_lt_of_le hlt hg.size, q1, q2, fun k u hu => ?_⟩
      rw [hg.cell_far ⟨b, off + k, none⟩ hlt hne]
      exact hc k u hu
theorem row_lt {w : World} {sz n c : Nat} {a : Option Addr} {xs : List Value} (h : IsRow w sz (.slice a n c) n xs) (hn : 0 < n) : ∀ g, a = some g → g.block < w.heap.size := by
  intro g hg
  rcases h.2 with ⟨h0, -⟩ | ⟨b, off, cap, hv, hlt, -, -, -⟩
  · omega
  · simp only [Value.slice.injEq] at hv
    rw [hv.1] at hg
    obtain rfl := Option.some.inj hg
    exact hlt
theorem OffA.next {w : World} {sz n c : Nat} {a : Option Addr} {xs : List Value} {o : Value} {g H m cap : Nat} (h : IsRow w sz (.slice a n c) n xs) (ho : OffA o a n) (hat : o.ownBlock = some g ∨ g = H) (hH : w.heap.size ≤ H) : OffA (.slice (some ⟨g, 0, none⟩) m cap) a n := by
  intro hn ga he e
  have e' : g = ga.block := by simpa [Value.ownBlock] using e
  rcases hat with h1 | h1
  · exact ho hn ga he (by rw [h1, e'])
  · have := row_lt h hn ga he
    omega
theorem OffT.next {w : World} {y : LT} {o : Value} {g H m cap : Nat} (h : IsTy w y.t y.vo y.va y.vc) (ho : OffT o y) (hat : o.ownBlock = some g ∨ g = H) (hH : w.heap.size ≤ H) : OffT (.slice (some ⟨g, 0, none⟩) m cap) y :=
  ⟨OffA.next h.1 ho.1 hat hH, OffA.next h.2.1 ho.2.1 hat hH, OffA.next h.2.2 ho.2.2 hat hH⟩
theorem ty_grown {w w' : World} {y : LT} {o : Value} (h : IsTy w y.t y.vo y.va y.vc) (ho : OffT o y) (hg : w.grownBy w' o.ownBlock) : IsTy w' y.t y.vo y.va y.vc := ⟨row_grown h.1 ho.1 hg, row_grown h.2.1 ho.2.1 hg, row_grown h.2.2 ho.2.2 hg⟩
/-- So many types are made for the reference. -/
def RvI (L : List LT) (w : World) (k : Nat) (o : Value) (wr : World) : Prop := ∃ M : List LT, tys M = (tys L).take k ∧ M.length = k ∧ wr.ownsRow w.heap.size 63 8 o k (tCells M) ∧ ∀ y ∈ M, IsTy wr y.t y.vo y.va y.vc ∧ OffT o y
theorem RvI.step {L : List LT} {w wr w2 w3 : World} {k : Nat} {o : Value} {M : List LT} {x y : LT} {g cap : Nat} (hk : k < L.length) (hx : x = L[k]) (hX : IsTy w x.t x.vo x.va x.vc)
    (h1 : tys M = (tys L).take k) (h2 : M.length = k) (h3 : wr.ownsRow w.heap.size 63 8 o k (tCells M)) (h4 : ∀ y ∈ M, IsTy wr y.t y.vo y.va y.vc ∧ OffT o y)
    (hyt : y.t = x.t) (hyn : NewA wr.heap.size y.ao ∧ NewA wr.heap.size y.aa ∧ y.ac = x.ac) (hyI : IsTy w2 y.t y.vo y.va y.vc) (hb2 : Below wr.heap.size wr w2)
    (hown : w3.ownsRow w.heap.size 63 8 (.slice (some ⟨g, 0, none⟩) (k + 1) cap) (k + 1) (tCells M ++ enT y)) (hgrow : (w2.alloc (.cells (tyA y.t y.vo y.va y.vc) 63)).grownBy w3 o.ownBlock) (hat : o.ownBlock = some g ∨ g = w2.heap.size + 1) :
    RvI L w (k + 1) (.slice (some ⟨g, 0, none⟩) (k + 1) cap) w3 := by
  have hal := al_b w2 (.cells (tyA y.t y.vo y.va y.vc) 63)
  have hsz : (w2.alloc (.cells (tyA y.t y.vo y.va y.vc) 63)).heap.size = w2.heap.size + 1 := by simp
  have hoff : OffT o y := by
    have own_lt : ∀ b, o.ownBlock = some b → w.heap.size ≤ b ∧ b < wr.heap.size := fun b hb => by
      have := h3.lt b hb
      exact ⟨this.1, this.2⟩
    refine ⟨fun _ ga he e => ?_, fun _ ga he e => ?_, fun hn ga he e => ?_⟩
    · have := own_lt _ e
      have := hyn.1 ga he
      omega
    · have := own_lt _ e
      have := hyn.2.1 ga he
      omega
    · have h5 := own_lt _ e
      rw [hyn.2.2] at he
      have := row_lt hX.2.2 (by rw [← hyt]; exact hn) ga he
      omega
  have hall : ∀ z ∈ M ++ [y], IsTy (w2.alloc (.cells (tyA y.t y.vo y.va y.vc) 63)) z.t z.vo z.va z.vc ∧ OffT o z := fun z hz => by
    rcases List.mem_append.1 hz with hz | hz
    · obtain ⟨z1, z2⟩ := h4 z hz
      exact ⟨(z1.below hb2).below hal, z2⟩
    · obtain rfl := List.mem_singleton.1 hz
      exact ⟨hyI.below hal, hoff⟩
  refine ⟨M ++ [y], ?_, by simp [h2], ?_, fun z hz => ?_⟩
  · have e1 : tys (M ++ [y]) = tys M ++ [y.t] := by simp [tys]
    rw [e1, h1, hyt, hx, ← tys_at L k hk, List.take_append_getElem]
  · have e2 : tCells (M ++ [y]) = tCells M ++ enT y := by rw [tCells_app]; congr 1
    rw [e2]
    exact hown
  · obtain ⟨z1, z2⟩ := hall z hz
    exact ⟨ty_grown z1 z2 hgrow, OffT.next z1 z2 hat (by rw [hsz]; omega)⟩
end Go.Proofs.YtlndgepoekllkaaGreatDoor
/- The reference's Same and SameAll of types that are the same: walks. -/
namespace Go.Proofs.YtlndgepoekllkaaGreatDoor
open Go.RowKit Go.ChangeMaps

theorem sVals_svals (l : List ByteArray) : sVals l = svals (l.map fun b => b.data.toList) := by
  unfold sVals svals
  rw [List.map_map]
  congr 1
theorem sameRs_self (l : List Fd) : sameR l l = true := (sameR_iff l l).2 rfl
theorem beq_selfJ (s : ByteArray) : (s.toList == s.toList) = true := by simp
set_option maxRecDepth 100000 in
set_option maxHeartbeats 4000000 in
theorem refSameT_ok (x y : LT) (w : World) (ht : y.t = x.t) (hx : IsTy w x.t x.vo x.va x.vc) (hy : IsTy w y.t y.vo y.va y.vc) (hm : SmT x.t) :
    Calls Tryz.prog 18 #[ltV x, ltV y] w fun e w' => e = .returned (.bool true) ∧ Below w.heap.size w w' := by
  obtain ⟨t, ao, co, aa, ca, ac, cc⟩ := x
  obtain ⟨t', ao', co', aa', ca', ac', cc'⟩ := y
  dsimp only at ht hm
  subst ht
  dsimp only [LT.vo, LT.va, LT.vc] at hx hy ⊢
  obtain ⟨W0, hW0⟩ : ∃ W0, W0 = (w.alloc (.cells (tyA t' (.slice ao t'.own.length co) (.slice aa t'.all.length ca) (.slice ac t'.ch.length cc)) 63)).alloc (.cells (tyA t' (.slice ao' t'.own.length co') (.slice aa' t'.all.length ca') (.slice ac' t'.ch.length cc')) 63) := ⟨_, rfl⟩
  have hA : Below w.heap.size w W0 := by rw [hW0]; exact (al_b w _).trans ((al_b _ _).mono (by simp))
  have hz : W0.heap.size = w.heap.size + 2 := by rw [hW0]; simp
  have hn0 : W0.heap[w.heap.size]? = some (.cells (tyA t' (.slice ao t'.own.length co) (.slice aa t'.all.length ca) (.slice ac t'.ch.length cc)) 63 (0, 0)) := by
    rw [hW0]
    show ((w.heap.push _).push _)[w.heap.size]? = _
    rw [Array.getElem?_push, if_neg (by simp), Array.getElem?_push, if_pos rfl]
  have hn1 : W0.heap[w.heap.size + 1]? = some (.cells (tyA t' (.slice ao' t'.own.length co') (.slice aa' t'.all.length ca') (.slice ac' t'.ch.length cc')) 63 (0, 0)) := by
    rw [hW0]
    show ((w.heap.push _).push _)[w.heap.size + 1]? = _
    rw [Array.getElem?_push, if_pos (by simp)]
  have HX : Hid (∀ W, Below W0.heap.size W0 W → BxT w.heap.size t' (.slice ao t'.own.length co) (.slice aa t'.all.length ca) (.slice ac t'.ch.length cc) W) := fun W h => BxT.ofA ((h.block _ (by omega)).trans hn0)
  have HY : Hid (∀ W, Below W0.heap.size W0 W → BxT (w.heap.size + 1) t' (.slice ao' t'.own.length co') (.slice aa' t'.all.length ca') (.slice ac' t'.ch.length cc') W) := fun W h => BxT.ofA ((h.block _ (by omega)).trans hn1)
  have HBw : Hid (∀ W, Below W0.heap.size W0 W → Below w.heap.size w W) := fun W h => hA.trans (h.mono hA.size)
  have HSo : Hid (∀ W, Below W0.heap.size W0 W → Calls Tryz.prog 48 #[.slice ao t'.own.length co, .slice ao' t'.own.length co'] W fun e w' => e = .returned (.bool true) ∧ Below W.heap.size W w') := fun W h => by
    have := refSame_any _ _ t'.own t'.own W (hx.1.below (HBw.out W h)) (hy.1.below (HBw.out W h)) (by have := hm.1; omega) (by have := hm.1; omega)
    rw [sameRs_self] at this
    exact this
  have HSa : Hid (∀ W, Below W0.heap.size W0 W → Calls Tryz.prog 48 #[.slice aa t'.all.length ca, .slice aa' t'.all.length ca'] W fun e w' => e = .returned (.bool true) ∧ Below W.heap.size W w') := fun W h => by
    have := refSame_any _ _ t'.all t'.all W (hx.2.1.below (HBw.out W h)) (hy.2.1.below (HBw.out W h)) (by have := hm.2.1; omega) (by have := hm.2.1; omega)
    rw [sameRs_self] at this
    exact this
  have HSc : Hid (∀ W, Below W0.heap.size W0 W → Calls Tryz.prog 49 #[.slice ac t'.ch.length cc, .slice ac' t'.ch.length cc'] W fun e w' => e = .returned (.bool true) ∧ Below W.heap.size W w') := fun W h => by
    have r1 := hx.2.2.below (HBw.out W h)
    have r2 := hy.2.2.below (HBw.out W h)
    rw [sVals_svals, ← List.length_map (f := fun b : ByteArray => b.data.toList)] at r1 r2
    have := sameTexts_eq _ _ _ W r1 r2 (by rw [List.length_map]; have := hm.2.2; omega)
    rw [List.length_map] at this
    exact this
  have e1 := beq_selfJ t'.n
  have e2 := beq_selfJ t'.p
  have HW0 : Hid (Below W0.heap.size W0 W0) := Below.refl _ _
  clear hA hn0 hn1 hx hy hm
  go_enter Tryz.func18, Tryz.ntmps18
  go_wp2_with fail
  rw [← hW0]
  clear hW0
  obtain ⟨⟨g0, g1, g2, g3⟩, g4, g5, g6, g7⟩ := HX.out _ HW0.out
  obtain ⟨⟨k0, k1, k2, k3⟩, k4, k5, k6, k7⟩ := HY.out _ HW0.out
  go_wp2_with fail
  refine (HSo.out _ HW0.out).mono ?_
  rintro e w1 ⟨rfl, hb⟩
  have Hw1 : Hid (Below W0.heap.size W0 w1) := hb
  clear hb g0 g1 g2 g3 g4 g5 g6 g7 k0 k1 k2 k3 k4 k5 k6 k7
  obtain ⟨⟨g0, g1, g2, g3⟩, g4, g5, g6, g7⟩ := HX.out _ Hw1.out
  obtain ⟨⟨k0, k1, k2, k3⟩, k4, k5, k6, k7⟩ := HY.out _ Hw1.out
  go_wp2_with fail
  refine (HSa.out _ Hw1.out).mono ?_
  rintro e w2 ⟨rfl, hb⟩
  have Hw2 : Hid (Below W0.heap.size W0 w2) := Hw1.out.trans (hb.mono Hw1.out.size)
  clear hb g0 g1 g2 g3 g4 g5 g6 g7 k0 k1 k2 k3 k4 k5 k6 k7
  obtain ⟨⟨g0, g1, g2, g3⟩, g4, g5, g6, g7⟩ := HX.out _ Hw2.out
  obtain ⟨⟨k0, k1, k2, k3⟩, k4, k5, k6, k7⟩ := HY.out _ Hw2.out
  go_wp2_with fail
  refine (HSc.out _ Hw2.out).mono ?_
  rintro e w3 ⟨rfl, hb⟩
  have HB : Hid (Below w.heap.size w w3) := HBw.out _ (Hw2.out.trans (hb.mono Hw2.out.size))
  clear hb g0 g1 g2 g3 g4 g5 g6 g7 k0 k1 k2 k3 k4 k5 k6 k7
  go_wp2
  go_ret
  exact ⟨rfl, HB.out⟩
end Go.Proofs.YtlndgepoekllkaaGreatDoor
/- forest.Same: its walk. -/
namespace Go.Proofs.YtlndgepoekllkaaGreatDoor
open Go.RowKit Go.ChangeMaps

def eqI (t u : Ty) : Bool := decide (t.nd = u.nd ∧ t.lf = u.lf ∧ t.sq = u.sq)
/-- Are two types the same in all? -/
def sameT (t u : Ty) : Bool := decide (t.n = u.n) && (decide (t.p = u.p) && (eqI t u && (sameR t.own u.own && (sameR t.all u.all && sameS t.ch u.ch))))
theorem sameT_iff (t u : Ty) : sameT t u = true ↔ t = u := by
  unfold sameT eqI sameS
  simp only [Bool.and_eq_true, decide_eq_true_eq, sameR_iff]
  obtain ⟨n, p, o, a, c, nd, lf, sq⟩ := t
  obtain ⟨n', p', o', a', c', nd', lf', sq'⟩ := u
  simp only [Ty.mk.injEq]
  constructor
  · rintro ⟨rfl, rfl, ⟨rfl, rfl, rfl⟩, rfl, rfl, rfl⟩
    exact ⟨rfl, rfl, rfl, rfl, rfl, rfl, rfl, rfl⟩
  · rintro ⟨rfl, rfl, rfl, rfl, rfl, rfl, rfl, rfl⟩
    exact ⟨rfl, rfl, ⟨rfl, rfl, rfl⟩, rfl, rfl, rfl⟩
set_option maxRecDepth 100000 in
set_option maxHeartbeats 4000000 in
theorem sameT_any (x o : LT) (w : World) (hx : IsTy w x.t x.vo x.va x.vc) (ho : IsTy w o.t o.vo o.va o.vc) (mx : x.t.own.length ≤ 1000000 ∧ x.t.all.length ≤ 1000000 ∧ x.t.ch.length ≤ 1000000) (mo : o.t.own.length ≤ 1000000 ∧ o.t.all.length ≤ 1000000 ∧ o.t.ch.length ≤ 1000000) :
    Calls Tryz.prog 50 #[ltV x, ltV o] w fun e w' => e = .returned (.bool (sameT x.t o.t)) ∧ Below w.heap.size w w' := by
  obtain ⟨W0, hW0⟩ : ∃ W0, W0 = (w.alloc (.cells (tyA x.t x.vo x.va x.vc) 35)).alloc (.cells (tyA o.t o.vo o.va o.vc) 35) := ⟨_, rfl⟩
  have hA : Below w.heap.size w W0 := by rw [hW0]; exact (al_b w _).trans ((al_b _ _).mono (by simp))
  have hz : W0.heap.size = w.heap.size + 2 := by rw [hW0]; simp
  have hn0 : W0.heap[w.heap.size]? = some (.cells (tyA x.t x.vo x.va x.vc) 35 (0, 0)) := by
    rw [hW0]
    show ((w.heap.push _).push _)[w.heap.size]? = _
    rw [Array.getElem?_push, if_neg (by simp), Array.getElem?_push, if_pos rfl]
  have hn1 : W0.heap[w.heap.size + 1]? = some (.cells (tyA o.t o.vo o.va o.vc) 35 (0, 0)) := by
    rw [hW0]
    show ((w.heap.push _).push _)[w.heap.size + 1]? = _
    rw [Array.getElem?_push, if_pos (by simp)]
  have HX : Hid (∀ W, Below W0.heap.size W0 W → BxT w.heap.size x.t x.vo x.va x.vc W) := fun W h => BxT.of ((h.block _ (by omega)).trans hn0)
  have HY : Hid (∀ W, Below W0.heap.size W0 W → BxT (w.heap.size + 1) o.t o.vo o.va o.vc W) := fun W h => BxT.of ((h.block _ (by omega)).trans hn1)
  have HBw : Hid (∀ W, Below W0.heap.size W0 W → Below w.heap.size w W) := fun W h => hA.trans (h.mono hA.size)
  have HE1 : Hid (∀ W, Below W0.heap.size W0 W → Calls Tryz.prog 65 #[x.vo, o.vo] W fun e w' => e = .returned (.bool (sameR x.t.own o.t.own)) ∧ Below W.heap.size W w') := fun W h => equalF_any _ _ x.t.own o.t.own W (hx.1.below (HBw.out W h)) (ho.1.below (HBw.out W h)) mx.1 mo.1
  have HE2 : Hid (∀ W, Below W0.heap.size W0 W → Calls Tryz.prog 65 #[x.va, o.va] W fun e w' => e = .returned (.bool (sameR x.t.all o.t.all)) ∧ Below W.heap.size W w') := fun W h => equalF_any _ _ x.t.all o.t.all W (hx.2.1.below (HBw.out W h)) (ho.2.1.below (HBw.out W h)) mx.2.1 mo.2.1
  have HE3 : Hid (∀ W, Below W0.heap.size W0 W → Calls Tryz.prog 77 #[x.vc, o.vc] W fun e w' => e = .returned (.bool (sameS x.t.ch o.t.ch)) ∧ Below W.heap.size W w') := fun W h => equalS_any _ _ x.t.ch o.t.ch W (hx.2.2.below (HBw.out W h)) (ho.2.2.below (HBw.out W h)) mx.2.2 mo.2.2
  have HD : Hid (sameT x.t o.t = (decide (x.t.n = o.t.n) && (decide (x.t.p = o.t.p) && (eqI x.t o.t && (sameR x.t.own o.t.own && (sameR x.t.all o.t.all && sameS x.t.ch o.t.ch)))))) := rfl
  have eN := strEqB x.t.n o.t.n
  have eP := strEqB x.t.p o.t.p
  clear hx ho mx mo hA hn0 hn1
  generalize sameT x.t o.t = BB at *
  generalize sameR x.t.own o.t.own = B1 at *
  generalize sameR x.t.all o.t.all = B2 at *
  generalize sameS x.t.ch o.t.ch = B3 at *
  have HB0 : Hid (Below w.heap.size w W0) := HBw.out _ (Below.refl _ _)
  obtain ⟨⟨a0, a1, a2, a3⟩, a4, a5, a6, a7⟩ := HX.out W0 (Below.refl _ _)
  obtain ⟨⟨b0, b1, b2, b3⟩, b4, b5, b6, b7⟩ := HY.out W0 (Below.refl _ _)
  by_cases h1 : x.t.n = o.t.n
  rotate_left
  · have hB : BB = false := by rw [HD.out, decide_eq_false h1, Bool.false_and]
    subst hB
    rw [decide_eq_false h1] at eN
    clear HD h1 HE1 HE2 HE3
    go_enter Tryz.func50, Tryz.ntmps50
    go_wp2_with fail
    rw [← hW0]
    clear hW0
    go_wp2
    go_ret
    exact ⟨rfl, HB0.out⟩
  rw [decide_eq_true h1] at eN
  by_cases h2 : x.t.p = o.t.p
  rotate_left
  · have hB : BB = false := by rw [HD.out, decide_eq_false h2, Bool.false_and, Bool.and_false]
    subst hB
    rw [decide_eq_false h2] at eP
    clear HD h1 h2 HE1 HE2 HE3
    go_enter Tryz.func50, Tryz.ntmps50
    go_wp2_with fail
    rw [← hW0]
    clear hW0
    go_wp2
    go_ret
    exact ⟨rfl, HB0.out⟩
  rw [decide_eq_true h2] at eP
  by_cases h3 : x.t.nd = o.t.nd ∧ x.t.lf = o.t.lf ∧ x.t.sq = o.t.sq
  rotate_left
  · have hB : BB = false := by rw [HD.out]; unfold eqI; rw [decide_eq_false h3, Bool.false_and, Bool.and_false, Bool.and_false]
    subst hB
    clear HD h1 h2 HE1 HE2 HE3
    by_cases e1 : x.t.nd = o.t.nd
    rotate_left
    · clear h3
      go_enter Tryz.func50, Tryz.ntmps50
      go_wp2_with fail
      rw [← hW0]
      clear hW0
      go_wp2
      go_ret
      exact ⟨rfl, HB0.out⟩
    by_cases e2 : x.t.lf = o.t.lf
    rotate_left
    · clear h3
      go_enter Tryz.func50, Tryz.ntmps50
      go_wp2_with fail
      rw [← hW0]
      clear hW0
      go_wp2
      go_ret
      exact ⟨rfl, HB0.out⟩
    have e3 : ¬ x.t.sq = o.t.sq := fun e3 => h3 ⟨e1, e2, e3⟩
    clear h3
    go_enter Tryz.func50, Tryz.ntmps50
    go_wp2_with fail
    rw [← hW0]
    clear hW0
    go_wp2
    go_ret
    exact ⟨rfl, HB0.out⟩
  have hI : eqI x.t o.t = true := by unfold eqI; exact decide_eq_true h3
  obtain ⟨j1, j2, j3⟩ := h3
  have HD2 : Hid (BB = (B1 && (B2 && B3))) := by show _ = _; rw [HD.out, decide_eq_true h1, decide_eq_true h2, hI, Bool.true_and, Bool.true_and, Bool.true_and]
  clear HD h1 h2 hI
  go_enter Tryz.func50, Tryz.ntmps50
  go_wp2_with fail
  rw [← hW0]
  clear hW0
  go_wp2_with fail
  refine (HE1.out W0 (Below.refl _ _)).mono ?_
  rintro e w1 ⟨rfl, hbw1⟩
  have Hw1 : Hid (Below W0.heap.size W0 w1) := hbw1
  have HBw1 : Hid (Below w.heap.size w w1) := HBw.out _ Hw1.out
  clear hbw1 a0 a1 a2 a3 a4 a5 a6 a7 b0 b1 b2 b3 b4 b5 b6 b7
  obtain ⟨⟨a0, a1, a2, a3⟩, a4, a5, a6, a7⟩ := HX.out w1 Hw1.out
  obtain ⟨⟨b0, b1, b2, b3⟩, b4, b5, b6, b7⟩ := HY.out w1 Hw1.out
  cases B1
  · have hB : BB = false := by rw [HD2.out, Bool.false_and]
    subst hB
    go_wp2
    go_ret
    exact ⟨rfl, HBw1.out⟩
  go_wp2_with fail
  refine (HE2.out w1 Hw1.out).mono ?_
  rintro e w2 ⟨rfl, hbw2⟩
  have Hw2 : Hid (Below W0.heap.size W0 w2) := Hw1.out.trans (hbw2.mono Hw1.out.size)
  have HBw2 : Hid (Below w.heap.size w w2) := HBw.out _ Hw2.out
  clear hbw2 a0 a1 a2 a3 a4 a5 a6 a7 b0 b1 b2 b3 b4 b5 b6 b7
  obtain ⟨⟨a0, a1, a2, a3⟩, a4, a5, a6, a7⟩ := HX.out w2 Hw2.out
  obtain ⟨⟨b0, b1, b2, b3⟩, b4, b5, b6, b7⟩ := HY.out w2 Hw2.out
  cases B2
  · have hB : BB = false := by rw [HD2.out, Bool.false_and, Bool.and_false]
    subst hB
    go_wp2
    go_ret
    exact ⟨rfl, HBw2.out⟩
  go_wp2_with fail
  refine (HE3.out w2 Hw2.out).mono ?_
  rintro e w3 ⟨rfl, hbw3⟩
  have Hw3 : Hid (Below W0.heap.size W0 w3) := Hw2.out.trans (hbw3.mono Hw2.out.size)
  have HBw3 : Hid (Below w.heap.size w w3) := HBw.out _ Hw3.out
  clear hbw3 a0 a1 a2 a3 a4 a5 a6 a7 b0 b1 b2 b3 b4 b5 b6 b7
  obtain ⟨⟨a0, a1, a2, a3⟩, a4, a5, a6, a7⟩ := HX.out w3 Hw3.out
  obtain ⟨⟨b0, b1, b2, b3⟩, b4, b5, b6, b7⟩ := HY.out w3 Hw3.out
  have hB : BB = B3 := by rw [HD2.out, Bool.true_and, Bool.true_and]
  subst hB
  go_wp2
  go_ret
  exact ⟨rfl, HBw3.out⟩
end Go.Proofs.YtlndgepoekllkaaGreatDoor
/- The reference's SameTexts of any texts: its walk. -/
namespace Go.Proofs.YtlndgepoekllkaaGreatDoor
open Go.RowKit Go.ChangeMaps

theorem stx_at {w : World} {a : Option Addr} {cap : Nat} {l : List ByteArray} (h : IsRow w 1 (.slice a l.length cap) l.length (sVals l)) (i : Nat) (hi : i < l.length) :
    ∃ b off, a = some ⟨b, off, none⟩ ∧ b < w.heap.size ∧ w.cell? ⟨b, off + i, none⟩ = some (.string (l[i]'hi)) := by
  obtain ⟨b, off, cap', hv, hlt, _, _, hc⟩ := h.open (by omega)
  simp only [Value.slice.injEq] at hv
  exact ⟨b, off, hv.1, hlt, hc i _ (by simp [sVals, hi])⟩
set_option maxRecDepth 100000 in
set_option maxHeartbeats 2000000 in
theorem sameTextsS_any (v1 v2 : Value) (l m : List ByteArray) (w : World) (h1 : IsRow w 1 v1 l.length (sVals l)) (h2 : IsRow w 1 v2 m.length (sVals m)) (hl : l.length ≤ 1000000) (hm : m.length ≤ 1000000) :
    Calls Tryz.prog 49 #[v1, v2] w fun e w' => e = .returned (.bool (sameS l m)) ∧ Below w.heap.size w w' := by
  obtain ⟨a1, cap1, rfl⟩ := h1.form
  obtain ⟨a2, cap2, rfl⟩ := h2.form
  have HB0 : Hid (Below w.heap.size w w) := Below.refl _ _
  by_cases hlm : l.length = m.length
  rotate_left
  · have hs : sameS l m = false := by
      unfold sameS
      exact decide_eq_false fun e => hlm (by rw [e])
    rw [hs]
    have d1 : ¬ (l.length : Int) = (m.length : Int) := by omega
    have d2 : decide ((l.length : Int) = (m.length : Int)) = false := decide_eq_false d1
    have d3 : ((l.length : Int) == (m.length : Int)) = false := by simpa using d1
    have d4 : ((l.length : Int) != (m.length : Int)) = true := by simpa using d1
    clear h1 h2 hs
    go_enter Tryz.func49, Tryz.ntmps49
    go_wp2
    go_ret
    exact ⟨rfl, HB0.out⟩
  have HR1 : Hid (∀ W, Below w.heap.size w W → IsRow W 1 (.slice a1 l.length cap1) l.length (sVals l)) := fun W h => h1.below h
  have HR2 : Hid (∀ W, Below w.heap.size w W → IsRow W 1 (.slice a2 m.length cap2) m.length (sVals m)) := fun W h => h2.below h
  have HY : Hid ((∀ (j : Nat) (h : j < l.length) (g : j < m.length), l[j] = m[j]) → sameS l m = true) := fun h => by
    unfold sameS
    exact decide_eq_true (List.ext_getElem hlm fun i h1 h2 => h i h1 h2)
  have HN : Hid (∀ (j : Nat) (h : j < l.length) (g : j < m.length), l[j] ≠ m[j] → sameS l m = false) := fun j h g hne => by
    unfold sameS
    exact decide_eq_false fun e => hne (by subst e; rfl)
  generalize sameS l m = BB at *
  have d1 : (l.length : Int) = (m.length : Int) := by omega
  have d2 : decide ((l.length : Int) = (m.length : Int)) = true := decide_eq_true d1
  clear h1 h2
  have Hlm : Hid (l.length = m.length) := hlm
  clear hlm
  go_enter Tryz.func49, Tryz.ntmps49
  go_wp2
  clear d1 d2
  go_loopw [5] (fun i wr => ∃ k : Nat, k ≤ l.length ∧ i = .int .i64 k ∧ Hid (∀ (j : Nat) (h : j < l.length) (g : j < m.length), j < k → l[j] = m[j]) ∧ Hid (Below w.heap.size w wr)) (fun i _ => l.length - (intOf i).toNat)
  case atStart => exact ⟨0, Nat.zero_le _, rfl, (fun j _ _ h => absurd h (Nat.not_lt_zero _)), HB0.out⟩
  case round =>
    obtain ⟨k, hk, rfl, HO, HB⟩ := hrel
    by_cases hlt : k < l.length
    · have hlt2 : k < m.length := by have := Hlm.out; omega
      obtain ⟨b, off, rfl, hbl, c0⟩ := stx_at (HR1.out _ HB.out) k hlt
      obtain ⟨b', off', rfl, hbl', c0'⟩ := stx_at (HR2.out _ HB.out) k hlt2
      have hi : (k : Int) < l.length := by omega
      have hi2 : (k : Int) < m.length := by omega
      have he := strEqB l[k] m[k]
      have HBd : Hid (Below w.heap.size w wr.drew) := HB.out.drew
      by_cases hq : l[k] = m[k]
      · have HO2 : Hid (∀ (j : Nat) (h : j < l.length) (g : j < m.length), j < k + 1 → l[j] = m[j]) := fun j h g hj => by
          by_cases e : j = k
          · subst e; exact hq
          · exact HO.out j h g (by omega)
        rw [← hq] at c0' he
        rw [decide_eq_true rfl] at he
        clear hq HN HY HR1 HR2 HO HB Hlm
        generalize l[k]'hlt = x at *
        go_wp2
        go_region
        all_goals go_wp2
        all_goals go_roundw
        case rel => exact ⟨k + 1, by omega, by go_num, HO2.out, HBd.out⟩
        case measure => simp [intOf]; omega
      · obtain rfl : BB = false := HN.out k hlt hlt2 hq
        rw [decide_eq_false hq] at he
        clear HN HY HR1 HR2 HO HB Hlm
        generalize l[k]'hlt = x at *
        generalize m[k]'hlt2 = y at *
        have he2 : (x.toList != y.toList) = true := by simp [bne, he]
        have he3 : ¬ x.toList = y.toList := by simpa using he
        clear hq
        go_wp2
        go_region
        all_goals go_wp2
        all_goals go_ret
        all_goals exact ⟨rfl, HBd.out⟩
    · obtain rfl : BB = true := HY.out fun j h g => HO.out j h g (by omega)
      have hi : ¬ (k : Int) < l.length := by omega
      clear HN HY HR1 HR2 HO Hlm
      go_wp2
      go_ret
      exact ⟨rfl, HB.out⟩
end Go.Proofs.YtlndgepoekllkaaGreatDoor
