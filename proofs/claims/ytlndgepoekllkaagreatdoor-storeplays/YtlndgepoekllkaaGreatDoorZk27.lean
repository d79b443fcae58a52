/- The law's Ref: its walk. -/
import Derived.Test.YtlndgepoekllkaaGreatDoorZk5
import Derived.Test.YtlndgepoekllkaaGreatDoorZk8
import Derived.Test.YtlndgepoekllkaaGreatDoorZk25
namespace Go.Proofs.YtlndgepoekllkaaGreatDoor
open Go.RowKit Go.ChangeMaps

set_option maxRecDepth 100000 in
set_option maxHeartbeats 2000000 in
theorem refsO_any (v : Value) (l : List Fd) (w : World) (hr : IsRow w 3 v l.length (fCells l)) (hl : l.length ≤ 1000000) :
    Calls Tryz.prog 47 #[v] w fun e w' => ∃ a c, e = .returned (.slice a l.length c) ∧ w'.ownsRow w.heap.size 126 3 (.slice a l.length c) l.length (fCells l) ∧ Below w.heap.size w w' := by
  obtain ⟨a0, cap0, rfl⟩ := hr.form
  have HR : Hid (IsRow w 3 (.slice a0 l.length cap0) l.length (fCells l)) := hr
  clear hr
  obtain ⟨i0, hi0, hz0, hz1, hz2⟩ := info_parts info_rf
  go_enter Tryz.func47, Tryz.ntmps47
  go_wp2_with fail
  go_loopw [3, 4] (fun r i wr => ∃ k : Nat, k ≤ l.length ∧ i = .int .i64 (k : Int) ∧ wr.ownsRow w.heap.size 126 3 r k (fCells (l.take k)) ∧ Below w.heap.size w wr) (fun _ i _ => l.length - (intOf i).toNat)
  case atStart => exact ⟨0, Nat.zero_le _, rfl, World.ownsRow_nil _ _ _ _, Below.refl _ _⟩
  case round =>
    obtain ⟨k, hk, rfl, hown, hB⟩ := hrel
    have hsz := hB.size
    by_cases hlk : k < l.length
    · have dk : decide ((k : Int) < l.length) = true := by simp; omega
      obtain ⟨b, off, rfl, hlt, hcap, hc⟩ := f_at (HR.out.below hB) (by omega)
      obtain ⟨ck0, ck1, ck2⟩ := hc k hlk
      have HTh : Hid (fCells (l.take (k + 1)) = fCells (l.take k) ++ enF l[k]) := f_take l k hlk
      have HO : Hid (wr.ownsRow w.heap.size 126 3 u3 k (fCells (l.take k))) := hown
      generalize l[k]'hlk = x at *
      obtain ⟨fn, fk, fm⟩ := x
      clear hc hown
      go_wp2_with (at_builtin; go_loud (refine wpl_appE wr rfl (.tmp 11) (.tmp 16) 60 126 rfl i0 _ 3 32 Tryz.underlying60 hi0 hz0 hz1 hz2 rfl (by decide) w.heap.size u3 k _ rfl HO.out [.string fn, .int .i64 fk, .bool fm] rfl _ rfl rfl (by intro u hu; simp at hu; rcases hu with rfl | rfl | rfl <;> rfl) (by omega) (by unfold maxLen; omega) (by omega) ?_); intro v4 w4 hown4 hb4)
      have HO4 : Hid (w4.ownsRow w.heap.size 126 3 v4 (k + 1) (fCells (l.take (k + 1)))) := by show World.ownsRow _ _ _ _ _ _ _; rw [HTh.out]; exact hown4
      have HB4 : Hid (Below w.heap.size w w4) := hB.trans hb4
      clear hown4 hb4 HTh HO hB
      go_wp2
      go_roundw
      case rel => exact ⟨k + 1, by omega, by simp, HO4.out, HB4.out⟩
      case measure => simp [intOf]; omega
    · have hk' : k = l.length := by omega
      subst hk'
      have dk : decide ((l.length : Int) < l.length) = false := by simp
      rw [List.take_of_length_le (Nat.le_refl _)] at hown
      obtain ⟨ra, rc, rfl⟩ := (IsRow.own hown).form
      have HX : Hid (wr.ownsRow w.heap.size 126 3 (.slice ra l.length rc) l.length (fCells l) ∧ Below w.heap.size w wr) := ⟨hown, hB⟩
      clear hown hB
      go_wp2
      go_ret
      exact ⟨_, _, rfl, HX.out.1, HX.out.2⟩
theorem BxT.ofA {g : Nat} {t : Ty} {vo va vc : Value} {w : World} {ty : TypeId} {z : Nat × Nat} (h : w.heap[g]? = some (.cells (tyA t vo va vc) ty z)) : BxT g t vo va vc w := by
  have e : ∀ j, w.cell? ⟨g, j, none⟩ = (tyA t vo va vc)[j]? := fun j => by rw [Lib.cell_of_heap h]
  exact ⟨⟨e 0, e 1, e 2, e 3⟩, e 4, e 5, e 6, e 7⟩
/-- Behind the store of a type for the reference. -/
def CtF (w : World) (t : Ty) (wx : World) : Prop := ∃ y : LT, y.t = t ∧ Hid (IsTy wx y.t y.vo y.va y.vc) ∧ Hid (Below w.heap.size w wx) ∧ Hid (BxT (w.heap.size + 1) y.t y.vo y.va y.vc wx)
/-- A type as the reference has it. -/
def RtP (t : Ty) (w : World) (e : Ending) (w' : World) : Prop := ∃ y : LT, e = .returned (ltV y) ∧ y.t = t ∧ IsTy w' y.t y.vo y.va y.vc ∧ Below w.heap.size w w'
set_option maxRecDepth 100000 in
set_option maxHeartbeats 4000000 in
theorem refT_any (o : LT) (w : World) (ho : IsTy w o.t o.vo o.va o.vc) (h1 : o.t.own.length ≤ 1000000) (h2 : o.t.all.length ≤ 1000000) :
    Calls Tryz.prog 17 #[ltV o] w fun e w' => RtP o.t w e w' := by
  obtain ⟨W0, hW0⟩ : ∃ W0, W0 = (w.alloc (.cells (tyA o.t o.vo o.va o.vc) 35)).alloc (.cells zTyA 63) := ⟨_, rfl⟩
  have hA : Below w.heap.size w W0 := by rw [hW0]; exact (al_b w _).trans ((al_b _ _).mono (by simp))
  have hz : W0.heap.size = w.heap.size + 2 := by rw [hW0]; simp
  have hn0 : W0.heap[w.heap.size]? = some (.cells (tyA o.t o.vo o.va o.vc) 35 (0, 0)) := by
    rw [hW0]
    show ((w.heap.push _).push _)[w.heap.size]? = _
    rw [Array.getElem?_push, if_neg (by simp), Array.getElem?_push, if_pos rfl]
  have hn1 : W0.heap[w.heap.size + 1]? = some (.cells zTyA 63 (0, 0)) := by
    rw [hW0]
    show ((w.heap.push _).push _)[w.heap.size + 1]? = _
    rw [Array.getElem?_push, if_pos (by simp)]
  have HX : Hid (∀ W, Below W0.heap.size W0 W → BxT w.heap.size o.t o.vo o.va o.vc W) := fun W h => BxT.of ((h.block _ (by omega)).trans hn0)
  have HZ : Hid (∀ W, Below W0.heap.size W0 W → BxT (w.heap.size + 1) zT (.slice none 0 0) (.slice none 0 0) (.slice none 0 0) W) := fun W h => BxT.ofA ((h.block _ (by omega)).trans hn1)
  have HF1 : Hid (∀ W, Below W0.heap.size W0 W → ∀ j, W.frozen? ⟨w.heap.size + 1, j, none⟩ = false) := fun W h j => Lib.frozen_of_heap ((h.block _ (by omega)).trans hn1) j
  have HBw : Hid (∀ W, Below W0.heap.size W0 W → Below w.heap.size w W) := fun W h => hA.trans (h.mono hA.size)
  have HSz : Hid (∀ W, Below W0.heap.size W0 W → w.heap.size + 1 < W.heap.size ∧ w.heap.size < W.heap.size) := fun W h => by have := h.size; omega
  have HRo : Hid (∀ W, Below W0.heap.size W0 W → Calls Tryz.prog 47 #[o.vo] W fun e w' => ∃ x y, e = .returned (.slice x o.t.own.length y) ∧ Hid (w'.ownsRow W0.heap.size 126 3 (.slice x o.t.own.length y) o.t.own.length (fCells o.t.own)) ∧ Below W0.heap.size W0 w' ∧ Below W.heap.size W w') := fun W h => (refsO_any _ o.t.own W (ho.1.below (HBw.out W h)) h1).mono fun e w' ⟨x, y, he, hw, hb⟩ => ⟨x, y, he, own_leT hw h.size, h.trans (hb.mono h.size), hb⟩
  have HRa : Hid (∀ W, Below W0.heap.size W0 W → Calls Tryz.prog 47 #[o.va] W fun e w' => ∃ x y, e = .returned (.slice x o.t.all.length y) ∧ Hid (w'.ownsRow W0.heap.size 126 3 (.slice x o.t.all.length y) o.t.all.length (fCells o.t.all)) ∧ Below W0.heap.size W0 w' ∧ Below W.heap.size W w') := fun W h => (refsO_any _ o.t.all W (ho.2.1.below (HBw.out W h)) h2).mono fun e w' ⟨x, y, he, hw, hb⟩ => ⟨x, y, he, own_leT hw h.size, h.trans (hb.mono h.size), hb⟩
  have HFin : Hid (∀ (wA wB : World) (x1 : Option Addr) (y1 : Nat) (x2 : Option Addr) (y2 : Nat), Hid (wA.ownsRow W0.heap.size 126 3 (.slice x1 o.t.own.length y1) o.t.own.length (fCells o.t.own)) → Hid (wB.ownsRow W0.heap.size 126 3 (.slice x2 o.t.all.length y2) o.t.all.length (fCells o.t.all)) → Below wA.heap.size wA wB → Below W0.heap.size W0 wB → CtF w o.t ((((((((wB.setCell ⟨w.heap.size + 1, 0, none⟩ (.string o.t.n)).setCell ⟨w.heap.size + 1, 1, none⟩ (.string o.t.p)).setCell ⟨w.heap.size + 1, 2, none⟩ (.slice x1 o.t.own.length y1)).setCell ⟨w.heap.size + 1, 3, none⟩ (.slice x2 o.t.all.length y2)).setCell ⟨w.heap.size + 1, 4, none⟩ o.vc).setCell ⟨w.heap.size + 1, 5, none⟩ (.int .i64 o.t.nd)).setCell ⟨w.heap.size + 1, 6, none⟩ (.int .i64 o.t.lf)).setCell ⟨w.heap.size + 1, 7, none⟩ (.int .i64 o.t.sq))) := fun wA wB x1 y1 x2 y2 o1 o2 hAB hB => by
    have n1 : NewA (w.heap.size + 2) x1 := (NewA.own o1.out).le (by omega)
    have n2 : NewA (w.heap.size + 2) x2 := (NewA.own o2.out).le (by omega)
    have r1 := (IsRow.own o1.out).below hAB
    have r2 := IsRow.own o2.out
    have hg : w.heap.size + 1 < w.heap.size + 2 := by omega
    have hBx := below8 (HBw.out _ hB) (Nat.le_add_right _ 1) (.string o.t.n) (.string o.t.p) (.slice x1 o.t.own.length y1) (.slice x2 o.t.all.length y2) o.vc (.int .i64 o.t.nd) (.int .i64 o.t.lf) (.int .i64 o.t.sq)
    exact ⟨⟨o.t, x1, y1, x2, y2, o.ac, o.cc⟩, rfl, ⟨row_far (row_far (row_far (row_far (row_far (row_far (row_far (row_far (r1) (n1) hg 0 _) (n1) hg 1 _) (n1) hg 2 _) (n1) hg 3 _) (n1) hg 4 _) (n1) hg 5 _) (n1) hg 6 _) (n1) hg 7 _, row_far (row_far (row_far (row_far (row_far (row_far (row_far (row_far (r2) (n2) hg 0 _) (n2) hg 1 _) (n2) hg 2 _) (n2) hg 3 _) (n2) hg 4 _) (n2) hg 5 _) (n2) hg 6 _) (n2) hg 7 _, ho.2.2.below hBx⟩, hBx, (HZ.out _ hB).put8 o.t _ _ _⟩
  have HK8 : Hid (∀ WE : World, BxT w.heap.size o.t o.vo o.va o.vc WE → ∀ u0 u1 u2 u3 u4 u5 u6 u7, BxT w.heap.size o.t o.vo o.va o.vc ((((((((WE.setCell ⟨w.heap.size + 1, 0, none⟩ u0).setCell ⟨w.heap.size + 1, 1, none⟩ u1).setCell ⟨w.heap.size + 1, 2, none⟩ u2).setCell ⟨w.heap.size + 1, 3, none⟩ u3).setCell ⟨w.heap.size + 1, 4, none⟩ u4).setCell ⟨w.heap.size + 1, 5, none⟩ u5).setCell ⟨w.heap.size + 1, 6, none⟩ u6).setCell ⟨w.heap.size + 1, 7, none⟩ u7)) := fun WE h u0 u1 u2 u3 u4 u5 u6 u7 => by
    have q : ∀ (W : World) (j k : Nat) (v : Value), (W.setCell ⟨w.heap.size + 1, j, none⟩ v).cell? ⟨w.heap.size, k, none⟩ = W.cell? ⟨w.heap.size, k, none⟩ := fun W j k v => World.cell?_setCell_other _ _ _ _ (by simp only [ne_eq, Addr.mk.injEq, not_and]; intro e; omega)
    unfold BxT at h ⊢
    simp only [q]
    exact h
  have HR1 : Hid (Below W0.heap.size W0 W0.drew) := (Below.refl _ _).drew
  clear hn0 hn1 hA ho h1 h2
  go_enter Tryz.func17, Tryz.ntmps17
  go_wp2_with fail
  rw [← hW0]
  clear hW0
  go_cut [] (fun wx => CtF w o.t wx)
  case first =>
    refine wp_region_held_drew (S := fun w' => BxT w.heap.size o.t o.vo o.va o.vc w') (by kernel_rfl) (HX.out _ HR1.out) (fun hHeld => ?_)
    generalize W0.drew = wd at *
    refine wpAnyH_take (i := 0) (v := ?_) rfl (by kernel_rfl) (by kernel_rfl) (by kernel_rfl) (fun _ _ _ h => h) (Or.inl ⟨by rfl, ?_⟩) hHeld ?_
    rotate_left 1
    · intro w9 hSw; obtain ⟨⟨g0, g1, g2, g3⟩, g4, g5, g6, g7⟩ := hSw; go_simp; try with_reducible rfl
    change wpAnyH _ _ _ _ _ _ _ (Act.put _ (some 3) _) _
    simp only [Act.put, List.setIfInBounds_toArray, List.set_cons_zero, List.set_cons_succ]
    refine wpAnyH_take (i := 1) (v := ?_) rfl (by kernel_rfl) (by kernel_rfl) (by kernel_rfl) (fun _ _ _ h => h) (Or.inl ⟨by rfl, ?_⟩) hHeld ?_
    rotate_left 1
    · intro w9 hSw; obtain ⟨⟨g0, g1, g2, g3⟩, g4, g5, g6, g7⟩ := hSw; go_simp; try with_reducible rfl
    change wpAnyH _ _ _ _ _ _ _ (Act.put _ (some 4) _) _
    simp only [Act.put, List.setIfInBounds_toArray, List.set_cons_zero, List.set_cons_succ]
    refine wpAnyH_take (i := 2) (v := ?_) rfl (by kernel_rfl) (by kernel_rfl) (by kernel_rfl) (fun _ _ _ h => h) (Or.inl ⟨by rfl, ?_⟩) hHeld ?_
    rotate_left 1
    · intro w9 hSw; obtain ⟨⟨g0, g1, g2, g3⟩, g4, g5, g6, g7⟩ := hSw; go_simp; try with_reducible rfl
    change wpAnyH _ _ _ _ _ _ _ (Act.put _ (some 5) _) _
    simp only [Act.put, List.setIfInBounds_toArray, List.set_cons_zero, List.set_cons_succ]
    refine wpAnyH_take (i := 3) (v := ?_) rfl (by kernel_rfl) (by kernel_rfl) (by kernel_rfl) (fun _ _ _ h => h) (Or.inl ⟨by rfl, ?_⟩) hHeld ?_
    rotate_left 1
    · intro w9 hSw; obtain ⟨⟨g0, g1, g2, g3⟩, g4, g5, g6, g7⟩ := hSw; go_simp; try with_reducible rfl
    change wpAnyH _ _ _ _ _ _ _ (Act.put _ (some 6) _) _
    simp only [Act.put, List.setIfInBounds_toArray, List.set_cons_zero, List.set_cons_succ]
    refine wpAnyH_take (i := 4) (v := ?_) rfl (by kernel_rfl) (by kernel_rfl) (by kernel_rfl) (fun _ _ _ h => h) (Or.inl ⟨by rfl, ?_⟩) hHeld ?_
    rotate_left 1
    · intro w9 hSw; obtain ⟨⟨g0, g1, g2, g3⟩, g4, g5, g6, g7⟩ := hSw; go_simp; try with_reducible rfl
    change wpAnyH _ _ _ _ _ _ _ (Act.put _ (some 7) _) _
    simp only [Act.put, List.setIfInBounds_toArray, List.set_cons_zero, List.set_cons_succ]
    refine wpAnyH_take (i := 5) (v := ?_) rfl (by kernel_rfl) (by kernel_rfl) (by kernel_rfl) (fun _ _ _ h => h) (Or.inl ⟨by rfl, ?_⟩) hHeld ?_
    rotate_left 1
    · intro w9 hSw; obtain ⟨⟨g0, g1, g2, g3⟩, g4, g5, g6, g7⟩ := hSw; go_simp; try with_reducible rfl
    change wpAnyH _ _ _ _ _ _ _ (Act.put _ (some 8) _) _
    simp only [Act.put, List.setIfInBounds_toArray, List.set_cons_zero, List.set_cons_succ]
    refine wpAnyH_take (i := 7) (v := ?_) rfl (by kernel_rfl) (by kernel_rfl) (by kernel_rfl) (fun _ _ _ h => h) (Or.inl ⟨by rfl, ?_⟩) hHeld ?_
    rotate_left 1
    · intro w9 hSw; obtain ⟨⟨g0, g1, g2, g3⟩, g4, g5, g6, g7⟩ := hSw; go_simp; try with_reducible rfl
    change wpAnyH _ _ _ _ _ _ _ (Act.put _ (some 10) _) _
    simp only [Act.put, List.setIfInBounds_toArray, List.set_cons_zero, List.set_cons_succ]
    refine wpAnyH_take (i := 8) (v := ?_) rfl (by kernel_rfl) (by kernel_rfl) (by kernel_rfl) (fun _ _ _ h => h) (Or.inl ⟨by rfl, ?_⟩) hHeld ?_
    rotate_left 1
    · intro w9 hSw; obtain ⟨⟨g0, g1, g2, g3⟩, g4, g5, g6, g7⟩ := hSw; go_simp; try with_reducible rfl
    change wpAnyH _ _ _ _ _ _ _ (Act.put _ (some 11) _) _
    simp only [Act.put, List.setIfInBounds_toArray, List.set_cons_zero, List.set_cons_succ]
    refine wpAnyH_take (i := 10) (v := ?_) rfl (by kernel_rfl) (by kernel_rfl) (by kernel_rfl) (fun _ _ _ h => h) (Or.inl ⟨by rfl, ?_⟩) hHeld ?_
    rotate_left 1
    · intro w9 hSw; obtain ⟨⟨g0, g1, g2, g3⟩, g4, g5, g6, g7⟩ := hSw; go_simp; try with_reducible rfl
    change wpAnyH _ _ _ _ _ _ _ (Act.put _ (some 13) _) _
    simp only [Act.put, List.setIfInBounds_toArray, List.set_cons_zero, List.set_cons_succ]
    refine wpAnyH_take (i := 11) (v := ?_) rfl (by kernel_rfl) (by kernel_rfl) (by kernel_rfl) (fun _ _ _ h => h) (Or.inl ⟨by rfl, ?_⟩) hHeld ?_
    rotate_left 1
    · intro w9 hSw; obtain ⟨⟨g0, g1, g2, g3⟩, g4, g5, g6, g7⟩ := hSw; go_simp; try with_reducible rfl
    change wpAnyH _ _ _ _ _ _ _ (Act.put _ (some 14) _) _
    simp only [Act.put, List.setIfInBounds_toArray, List.set_cons_zero, List.set_cons_succ]
    refine wpAnyH_take (i := 12) (v := ?_) rfl (by kernel_rfl) (by kernel_rfl) (by kernel_rfl) (fun _ _ _ h => h) (Or.inl ⟨by rfl, ?_⟩) hHeld ?_
    rotate_left 1
    · intro w9 hSw; obtain ⟨⟨g0, g1, g2, g3⟩, g4, g5, g6, g7⟩ := hSw; go_simp; try with_reducible rfl
    change wpAnyH _ _ _ _ _ _ _ (Act.put _ (some 15) _) _
    simp only [Act.put, List.setIfInBounds_toArray, List.set_cons_zero, List.set_cons_succ]
    refine wpAnyH_take (i := 13) (v := ?_) rfl (by kernel_rfl) (by kernel_rfl) (by kernel_rfl) (fun _ _ _ h => h) (Or.inl ⟨by rfl, ?_⟩) hHeld ?_
    rotate_left 1
    · intro w9 hSw; obtain ⟨⟨g0, g1, g2, g3⟩, g4, g5, g6, g7⟩ := hSw; go_simp; try with_reducible rfl
    change wpAnyH _ _ _ _ _ _ _ (Act.put _ (some 16) _) _
    simp only [Act.put, List.setIfInBounds_toArray, List.set_cons_zero, List.set_cons_succ]
    refine wpAnyH_ready (rs := [6]) (by kernel_rfl) (by simp) ?_
    refine AllReadyH.cons rfl (fun K hK => ?_) AllReadyH.nil
    go_simp
    refine (HRo.out _ HR1.out).mono ?_
    rintro e w4 ⟨x1, y1, rfl, HO1, hb4, hc4⟩
    go_simp
    refine hK.out _ _ (HX.out _ hb4) (fun hHeld => ?_)
    clear hK K
    refine wpAnyH_ready (rs := [9]) (by kernel_rfl) (by simp) ?_
    refine AllReadyH.cons rfl (fun K hK => ?_) AllReadyH.nil
    go_simp
    refine (HRa.out _ hb4).mono ?_
    rintro e w5 ⟨x2, y2, rfl, HO2, hb5, hc5⟩
    go_simp
    refine hK.out _ _ (HX.out _ hb5) (fun hHeld => ?_)
    clear hK K
    refine wpAnyH_take (i := 14) (v := ?_) rfl (by kernel_rfl) (by kernel_rfl) (by kernel_rfl) (fun _ _ _ h => h) (Or.inl ⟨by rfl, ?_⟩) hHeld ?_
    rotate_left 1
    · intro w9 hSw; obtain ⟨⟨g0, g1, g2, g3⟩, g4, g5, g6, g7⟩ := hSw; go_simp; try with_reducible rfl
    change wpAnyH _ _ _ _ _ _ _ (Act.put _ (some 17) _) _
    simp only [Act.put, List.setIfInBounds_toArray, List.set_cons_zero, List.set_cons_succ]
    obtain ⟨⟨m0, m1, m2, m3⟩, m4, m5, m6, m7⟩ := HZ.out _ hb5
    have mf := HF1.out _ hb5
    obtain ⟨ms1, ms2⟩ := HSz.out _ hb5
    have HCt : Hid _ := HFin.out w4 w5 x1 y1 x2 y2 HO1 HO2 hc5 hb5
    have HC8 := HX.out _ hb5
    refine wpAnyH_ready (rs := [15]) (by kernel_rfl) (by simp) ?_
    refine AllReadyH.cons rfl (fun K hK => ?_) AllReadyH.nil
    go_simp
    refine hK.out _ _ (HK8.out w5 HC8 _ _ _ _ _ _ _ _) (fun hHeld => ?_)
    clear hK K
    refine wpAnyH_done (by kernel_rfl) ?_ _
    try go_wp2_with fail
    go_meet
    exact HCt.out
  case rest =>
    obtain ⟨y, hy, HT, HB1, HX1⟩ := hcut
    obtain ⟨⟨c0, c1, c2, c3⟩, c4, c5, c6, c7⟩ := HX1.out
    have HEnd : Hid (RtP o.t w (.returned (ltV y)) wc) := ⟨y, rfl, hy, HT.out, HB1.out⟩
    clear HX1 HT HB1 HFin HR1 HSz HZ HF1 HBw HRo HRa HX HK8 hy
    go_wp2_with fail
    try simp only [Exit.inBlock, Exit.then]
    refine bodyPost_ret (v := ltV y) ?_ rfl HEnd.out
    rw [results_c1 rfl]; go_simp
end Go.Proofs.YtlndgepoekllkaaGreatDoor
/- forest.Fits: its walk. -/
namespace Go.Proofs.YtlndgepoekllkaaGreatDoor
open Go.RowKit Go.ChangeMaps

end Go.Proofs.YtlndgepoekllkaaGreatDoor
/- The reference's IsID, Alike, Has: walks. -/
namespace Go.Proofs.YtlndgepoekllkaaGreatDoor
open Go.RowKit Go.ChangeMaps

set_option maxRecDepth 100000 in
theorem alike_any (a b : ByteArray) (w : World) (ha : a.size ≤ 1000000) (hb : b.size ≤ 1000000) :
    Calls Tryz.prog 58 #[.string a, .string b] w fun e w' => e = .returned (.bool (sameL a.data.toList b.data.toList)) ∧ Below w.heap.size w w' := by
  have HE : Hid (((str (foldL a.data.toList)).toList == (str (foldL b.data.toList)).toList) = sameL a.data.toList b.data.toList) := eq_str _ _
  have HA : Hid (Calls Tryz.prog 85 #[.string a] w fun e w' => e = .returned (.string (str (foldL a.data.toList))) ∧ Below w.heap.size w w') := refFold_any a w ha
  have HB : Hid (∀ w', Calls Tryz.prog 85 #[.string b] w' fun e w'' => e = .returned (.string (str (foldL b.data.toList))) ∧ Below w'.heap.size w' w'') := fun w' => refFold_any b w' hb
  generalize str (foldL a.data.toList) = A at *
  generalize str (foldL b.data.toList) = B at *
  generalize sameL a.data.toList b.data.toList = r at *
  go_enter Tryz.func58, Tryz.ntmps58
  go_wp2_with fail
  refine HA.out.mono ?_
  rintro e w1 ⟨rfl, h1⟩
  have H1 : Hid (Below w.heap.size w w1) := h1
  clear h1
  go_wp2_with fail
  refine (HB.out w1).mono ?_
  rintro e w2 ⟨rfl, h2⟩
  have H2 : Hid (Below w.heap.size w w2) := H1.out.trans (h2.mono H1.out.size)
  clear h2
  go_wp2
  go_ret
  exact ⟨by rw [← HE.out]; rfl, H2.out⟩
set_option maxRecDepth 100000 in
set_option maxHeartbeats 1000000 in
theorem refID_any (a b c : Int) (w : World) : Calls Tryz.prog 72 #[idV a b c] w fun e w' => e = .returned (.bool (idB a b c)) ∧ Below w.heap.size w w' := by
  have HB : Hid (Below w.heap.size w (w.alloc (.cells #[.int .i64 a, .int .i64 b, .int .i64 c] 61))) := al_b w _
  have e0 : idB a b c = (decide (1 ≤ a) && (decide (a ≤ 15) && ((decide (1 ≤ b) && decide (b ≤ 1099511627775)) && (decide (1 ≤ c) && decide (c ≤ 1099511627775))))) := rfl
  rw [e0]
  clear e0
  by_cases h1 : 1 ≤ a
  rotate_left
  · have d1 : decide (1 ≤ a) = false := decide_eq_false h1
    rw [d1, Bool.false_and]
    go_enter Tryz.func72, Tryz.ntmps72
    go_wp2
    go_ret
    exact ⟨rfl, HB.out⟩
  have d1 : decide (1 ≤ a) = true := decide_eq_true h1
  by_cases h2 : a ≤ 15
  rotate_left
  · have d2 : decide (a ≤ 15) = false := decide_eq_false h2
    rw [d1, d2, Bool.false_and, Bool.true_and]
    go_enter Tryz.func72, Tryz.ntmps72
    go_wp2
    go_ret
    exact ⟨rfl, HB.out⟩
  have d2 : decide (a ≤ 15) = true := decide_eq_true h2
  by_cases h3 : 1 ≤ b
  rotate_left
  · have d3 : decide (1 ≤ b) = false := decide_eq_false h3
    rw [d1, d2, d3, Bool.false_and, Bool.false_and, Bool.true_and, Bool.true_and]
    go_enter Tryz.func72, Tryz.ntmps72
    go_wp2
    go_ret
    exact ⟨rfl, HB.out⟩
  have d3 : decide (1 ≤ b) = true := decide_eq_true h3
  by_cases h4 : b ≤ 1099511627775
  rotate_left
  · have d4 : decide (b ≤ 1099511627775) = false := decide_eq_false h4
    rw [d1, d2, d3, d4, Bool.and_false, Bool.false_and, Bool.true_and, Bool.true_and]
    go_enter Tryz.func72, Tryz.ntmps72
    go_wp2
    go_ret
    exact ⟨rfl, HB.out⟩
  have d4 : decide (b ≤ 1099511627775) = true := decide_eq_true h4
  by_cases h5 : 1 ≤ c
  rotate_left
  · have d5 : decide (1 ≤ c) = false := decide_eq_false h5
    rw [d1, d2, d3, d4, d5, Bool.false_and, Bool.and_false, Bool.true_and, Bool.true_and]
    go_enter Tryz.func72, Tryz.ntmps72
    go_wp2
    go_ret
    exact ⟨rfl, HB.out⟩
  have d5 : decide (1 ≤ c) = true := decide_eq_true h5
  rw [d1, d2, d3, d4, d5, Bool.true_and, Bool.true_and, Bool.true_and, Bool.true_and]
  go_enter Tryz.func72, Tryz.ntmps72
  go_wp2
  go_ret
  exact ⟨by simp, HB.out⟩
end Go.Proofs.YtlndgepoekllkaaGreatDoor
/- The reference's Has: its walk. -/
namespace Go.Proofs.YtlndgepoekllkaaGreatDoor
open Go.RowKit Go.ChangeMaps

set_option maxRecDepth 100000 in
set_option maxHeartbeats 1000000 in
theorem hasR_any (v : Value) (l : List ByteArray) (s : ByteArray) (w : World) (hr : IsRow w 1 v l.length (sVals l)) (hl : l.length ≤ 1000000) (hn : ∀ u ∈ l, u.size ≤ 1000000) (hs : s.size ≤ 1000000) :
    Calls Tryz.prog 74 #[v, .string s] w fun e w' => e = .returned (.bool (l.any fun u => sameL u.data.toList s.data.toList)) ∧ Below w.heap.size w w' := by
  obtain ⟨a0, cap0, rfl⟩ := hr.form
  have HR : Hid (IsRow w 1 (.slice a0 l.length cap0) l.length (sVals l)) := hr
  have HS : Hid (∀ (k : Nat) (h : k < l.length) (w' : World), Calls Tryz.prog 58 #[.string l[k], .string s] w' fun e w'' => e = .returned (.bool (sameL l[k].data.toList s.data.toList)) ∧ Below w'.heap.size w' w'') := fun k h w' => alike_any _ _ w' (hn _ (List.getElem_mem h)) hs
  obtain ⟨R, hR⟩ : ∃ R, R = l.any fun u => sameL u.data.toList s.data.toList := ⟨_, rfl⟩
  have HRt : Hid (∀ (k : Nat) (h : k < l.length), sameL l[k].data.toList s.data.toList = true → R = true) := fun k h e => by
    rw [hR]; exact List.any_eq_true.2 ⟨_, List.getElem_mem h, e⟩
  have HRf : Hid ((∀ (j : Nat) (h : j < l.length), sameL l[j].data.toList s.data.toList = false) → R = false) := fun e => by
    rw [hR, List.any_eq_false]
    intro x hx
    obtain ⟨j, hj, rfl⟩ := List.mem_iff_getElem.1 hx
    rw [e j hj]; decide
  rw [← hR]
  clear hr hn hR
  go_enter Tryz.func74, Tryz.ntmps74
  go_wp2_with fail
  go_loopw [4, 5] (fun r i wr => r = .bool false ∧ ∃ k : Nat, k ≤ l.length ∧ i = .int .i64 (k : Int) ∧ Hid (∀ (j : Nat) (h : j < l.length), j < k → sameL l[j].data.toList s.data.toList = false) ∧ Below w.heap.size w wr) (fun _ i _ => l.length - (intOf i).toNat)
  case atStart => exact ⟨rfl, 0, Nat.zero_le _, rfl, fun j h hj => absurd hj (Nat.not_lt_zero _), Below.refl _ _⟩
  case round =>
    obtain ⟨rfl, k, hk, rfl, HO, hB⟩ := hrel
    by_cases hlk : k < l.length
    · have dk : decide ((k : Int) < l.length) = true := by simp; omega
      obtain ⟨b, off, rfl, -, hlt, hcap, hc⟩ := s_at (HR.out.below hB) (by omega)
      have ck0 := hc k hlk
      have HSk : Hid (Calls Tryz.prog 58 #[.string l[k], .string s] wr fun e w'' => e = .returned (.bool (sameL l[k].data.toList s.data.toList)) ∧ Below wr.heap.size wr w'') := HS.out k hlk wr
      have HB : Hid (Below w.heap.size w wr) := hB
      cases hsm : sameL l[k].data.toList s.data.toList with
      | true =>
        have HY : Hid (R = true) := HRt.out k hlk hsm
        rw [hsm] at HSk
        generalize l[k]'hlk = nm at *
        clear hc HO hsm hB HRt HRf HS HR
        go_wp2_with fail
        refine HSk.out.mono ?_
        rintro e w1 ⟨rfl, hb⟩
        have HB1 : Hid (Below w.heap.size w w1) := HB.out.trans (hb.mono HB.out.size)
        clear hb
        go_wp2
        go_ret
        exact ⟨by rw [HY.out]; rfl, HB1.out⟩
      | false =>
        have HO2 : Hid (∀ (j : Nat) (h : j < l.length), j < k + 1 → sameL l[j].data.toList s.data.toList = false) := fun j h hj => by
          by_cases e : j = k
          · subst e; exact hsm
          · exact HO.out j h (by omega)
        rw [hsm] at HSk
        generalize l[k]'hlk = nm at *
        clear hc HO hsm hB HRt HRf HS HR
        go_wp2_with fail
        refine HSk.out.mono ?_
        rintro e w1 ⟨rfl, hb⟩
        have HB1 : Hid (Below w.heap.size w w1) := HB.out.trans (hb.mono HB.out.size)
        clear hb
        go_wp2
        go_roundw
        case rel => exact ⟨rfl, k + 1, by omega, by simp, HO2, HB1.out⟩
        case measure => simp [intOf]; omega
    · have hk' : k = l.length := by omega
      subst hk'
      have dk : decide ((l.length : Int) < l.length) = false := by simp
      have HY : Hid (R = false) := HRf.out fun j hj => HO.out j hj hj
      clear HO HRt HRf HS HR
      have HBB : Hid (Below w.heap.size w wr) := hB
      clear hB
      go_wp2
      go_ret
      exact ⟨by rw [HY.out]; rfl, HBB.out⟩
end Go.Proofs.YtlndgepoekllkaaGreatDoor
