/- store's keep: its walk. -/
import Derived.Test.YtlndgepoekllkaaGreatDoorZk11
import Derived.Test.YtlndgepoekllkaaGreatDoorZk10
import Derived.Deep.RegionHeld3
namespace Go.Proofs.YtlndgepoekllkaaGreatDoor
open Go.RowKit Go.ChangeMaps

theorem heap_setS {w : World} {g : Nat} {C : Array Value} {ty : TypeId} {z : Nat × Nat} (h : w.heap[g]? = some (.cells C ty z)) (j : Nat) (v : Value) : (w.setCell ⟨g, j, none⟩ v).heap[g]? = some (.cells (C.setIfInBounds j v) ty z) := by
  show (w.heap.modify g _)[g]? = _
  rw [Array.getElem?_modify, if_pos rfl, h]
  rfl
theorem bTS {a b c : World} (h1 : Below a.heap.size a b) (h2 : Below b.heap.size b c) : Below a.heap.size a c := h1.trans (h2.mono h1.size)
theorem kp6 {base : Nat} {W w6 : World} {s m g : Nat} {E : List (ByteArray × Nat)} {X : Nat → Kp} {t : Ty} {vo va vc : Value} (h : StV base W s m E X) (hb : W.heap[g]? = some (.cells (tyA t vo va vc) 35 (0, 0))) (hg : W.grownBy w6 (some m)) : BxT g t vo va vc w6 ∧ w6.cell? ⟨s, 0, none⟩ = some (.map (some m)) := by
  obtain ⟨⟨es, c, hm, -⟩, -⟩ := h.mp
  have ne : ∀ (j : Nat) (C : Array Value) (ty : TypeId) (z : Nat × Nat), W.heap[j]? = some (Obj.cells C ty z) → w6.heap[j]? = W.heap[j]? := fun j C ty z hj => hg.block j (Array.getElem?_eq_some_iff.1 hj).1 fun e => by
    rw [Option.some.inj e, hm] at hj
    cases hj
  exact ⟨BxT.of ((ne _ _ _ _ hb).trans hb), by rw [Lib.cell_of_heap ((ne _ _ _ _ h.blk).trans h.blk)]; rfl⟩
/-- What keep leaves, if there is room. -/
def KeP (base : Nat) (w : World) (s m : Nat) (E : List (ByteArray × Nat)) (X : Nat → Kp) (t : Ty) (e : Ending) (w' : World) : Prop :=
  ∃ g, e = .returned (.int .i64 0) ∧ StV base w' s m (stS E (fldB t.n) g) (upX X g ⟨t, false, zW⟩) ∧ w.heap.size ≤ g ∧ Stp w (fun k => k = m) (fun k => k = m) w'
theorem kep_of {base : Nat} {w W w5 : World} {s m : Nat} {E : List (ByteArray × Nat)} {X : Nat → Kp} {t : Ty} {vo va vc : Value} (hS : StV base w s m E X) (hb0 : base ≤ w.heap.size) (hW : Below w.heap.size w W) (ho : OwnTy w.heap.size W t vo va vc)
    (hg : (W.alloc (.cells (kpA ⟨t, false, zW⟩ vo va vc) 87)).grownBy w5 (some m)) (hm : MapS w5 m (stS E (fldB t.n) W.heap.size)) : KeP base w s m E X t (.returned (.int .i64 0)) w5 := by
  have hb1 := al_b W (.cells (kpA ⟨t, false, zW⟩ vo va vc) 87)
  have hB : Below w.heap.size w (W.alloc (.cells (kpA ⟨t, false, zW⟩ vo va vc) 87)) := hW.trans (hb1.mono hW.size)
  have hn : (W.alloc (.cells (kpA ⟨t, false, zW⟩ vo va vc) 87)).heap[W.heap.size]? = some (.cells (kpA ⟨t, false, zW⟩ vo va vc) 87 (0, 0)) := new_at _ _
  have hx : KpV base (W.alloc (.cells (kpA ⟨t, false, zW⟩ vo va vc) 87)) W.heap.size ⟨t, false, zW⟩ := ⟨Nat.le_trans hb0 hW.size, vo, va, vc, hn, (ho.le hb0).below hb1⟩
  refine ⟨W.heap.size, rfl, (hS.below hB).put hx (fun hm' => ?_) hg hm, hW.size, put_stp hg hB⟩
  have := (hS.lt (.inr hm')).2
  have := hW.size
  omega
set_option maxRecDepth 100000 in
set_option maxHeartbeats 4000000 in
theorem keep_any {base : Nat} {w : World} {s m : Nat} {E : List (ByteArray × Nat)} {X : Nat → Kp} (h : StV base w s m E X) (hb0 : base ≤ w.heap.size) (t : Ty) (vo va vc : Value) (hr : IsTy w t vo va vc) (h1 : t.own.length ≤ 1000) (h2 : t.all.length ≤ 1000) (h3 : t.ch.length ≤ 1000) (hn : t.n.size ≤ 1000000) (hT : UT w) (hfree : lkS E (fldB t.n) = none → E.length < 200) :
    Calls Tryz.prog 39 #[stP s, tyV t vo va vc] w fun e w' => KeP base w s m E X t e w' := by
  obtain ⟨ao, co, rfl⟩ := hr.1.form
  obtain ⟨aa, ca, rfl⟩ := hr.2.1.form
  obtain ⟨ac, cc, rfl⟩ := hr.2.2.form
  have HFi : Hid (∀ W, Below w.heap.size w W → Calls Tryz.prog 29 #[stP s, .string t.n] W fun e w' => e = .returned (ptS (lkS E (fldB t.n))) ∧ Below W.heap.size W w') := fun W hb => find_any (h.below hb) t.n hn (Utf8Tabs_below hT hb)
  have HFo : Hid (∀ W, Below w.heap.size w W → Calls Tryz.prog 56 #[.string t.n] W fun e w' => e = .returned (.string (fldB t.n)) ∧ Below W.heap.size W w') := fun W hb => fold_any t.n W hn (Utf8Tabs_below hT hb)
  have HCo : Hid (∀ W, Below w.heap.size w W → Calls Tryz.prog 30 #[tyV t (.slice ao t.own.length co) (.slice aa t.all.length ca) (.slice ac t.ch.length cc)] W fun e w' => CpT t W e w') := fun W hb => copyOf_any t _ _ _ W (hr.below hb) h1 h2 h3
  have HS : Hid (∀ W, Below w.heap.size w W → StV base W s m E X) := fun W hb => h.below hb
  have HEnd : Hid (∀ W vo va vc w5, Below w.heap.size w W → OwnTy w.heap.size W t vo va vc → (W.alloc (.cells (kpA ⟨t, false, zW⟩ vo va vc) 87)).grownBy w5 (some m) → MapS w5 m (stS E (fldB t.n) W.heap.size) → KeP base w s m E X t (.returned (.int .i64 0)) w5) := fun W vo va vc w5 hW ho hg hm => kep_of h hb0 hW ho hg hm
  have HC : Hid (∀ W, Below w.heap.size w W → W.cell? ⟨s, 0, none⟩ = some (.map (some m)) ∧ ∀ ty, (Builtin.len_ #[48] ty #[.map (some m)]).run Tryz.prog W = .ok (.int .i64 E.length) W) := fun W hb => ⟨(h.below hb).cell, fun ty => (h.below hb).mp.len ty⟩
  clear h hr h1 h2 h3 hn hT hb0
  obtain ⟨ky, hky⟩ : ∃ ky, ky = fldB t.n := ⟨_, rfl⟩
  rw [← hky] at HFi HFo HEnd hfree
  obtain ⟨R, hR⟩ : ∃ R : Ending → World → Prop, R = KeP base w s m E X t := ⟨_, rfl⟩
  show Calls Tryz.prog 39 #[stP s, tyV t (.slice ao t.own.length co) (.slice aa t.all.length ca) (.slice ac t.ch.length cc)] w fun e w' => KeP base w s m E X t e w'
  rw [← hR] at HEnd ⊢
  clear hky hR
  cases hL : lkS E ky
  case none =>
    rw [hL] at HFi
    have hlt := hfree hL
    have d1 : decide ((200 : Int) ≤ (E.length : Int)) = false := decide_eq_false (by omega)
    clear hL hfree hlt
    obtain ⟨w1, hw1⟩ : ∃ w1, w1 = w.alloc (.cells (tyA t (.slice ao t.own.length co) (.slice aa t.all.length ca) (.slice ac t.ch.length cc)) 35) := ⟨_, rfl⟩
    have B1 : Hid (Below w.heap.size w w1) := by show Below _ _ _; rw [hw1]; exact al_b _ _
    have hn1 : w1.heap[w.heap.size]? = some (.cells (tyA t (.slice ao t.own.length co) (.slice aa t.all.length ca) (.slice ac t.ch.length cc)) 35 (0, 0)) := by rw [hw1]; exact new_at _ _
    have C1 : Hid (∀ W, Below w1.heap.size w1 W → W.heap[w.heap.size]? = some (.cells (tyA t (.slice ao t.own.length co) (.slice aa t.all.length ca) (.slice ac t.ch.length cc)) 35 (0, 0))) := fun W h => (h.block _ (Array.getElem?_eq_some_iff.1 hn1).1).trans hn1
    clear hn1
    have hk := C1.out w1 (Below.refl _ _)
    have c1_0 : w1.cell? ⟨w.heap.size, 0, none⟩ = some (.string t.n) := by rw [Lib.cell_of_heap hk]; rfl
    have c1_1 : w1.cell? ⟨w.heap.size, 1, none⟩ = some (.string t.p) := by rw [Lib.cell_of_heap hk]; rfl
    have c1_2 : w1.cell? ⟨w.heap.size, 2, none⟩ = some (.slice ao t.own.length co) := by rw [Lib.cell_of_heap hk]; rfl
    have c1_3 : w1.cell? ⟨w.heap.size, 3, none⟩ = some (.slice aa t.all.length ca) := by rw [Lib.cell_of_heap hk]; rfl
    have c1_4 : w1.cell? ⟨w.heap.size, 4, none⟩ = some (.slice ac t.ch.length cc) := by rw [Lib.cell_of_heap hk]; rfl
    have c1_5 : w1.cell? ⟨w.heap.size, 5, none⟩ = some (.int .i64 t.nd) := by rw [Lib.cell_of_heap hk]; rfl
    have c1_6 : w1.cell? ⟨w.heap.size, 6, none⟩ = some (.int .i64 t.lf) := by rw [Lib.cell_of_heap hk]; rfl
    have c1_7 : w1.cell? ⟨w.heap.size, 7, none⟩ = some (.int .i64 t.sq) := by rw [Lib.cell_of_heap hk]; rfl
    clear hk
    rw [hw1] at c1_0 c1_1 c1_2 c1_3 c1_4 c1_5 c1_6 c1_7
    go_enter Tryz.func39, Tryz.ntmps39
    go_wp2_with fail
    rw [← hw1]
    clear hw1
    clear c1_0 c1_1 c1_2 c1_3 c1_4 c1_5 c1_6 c1_7
    refine (HFi.out _ B1.out).mono ?_
    rintro e w2 ⟨rfl, hb⟩
    have B2 : Hid (Below w1.heap.size w1 w2) := hb
    clear hb 
    obtain ⟨cs, hlen⟩ := HC.out _ (bTS B1.out B2.out)
    go_wp2_with fail
    clear cs hlen
    have HBk : Hid (Below w.heap.size w w2.drew) := ((bTS B1.out B2.out)).drew
    have HX : Hid (∀ W, Below w.heap.size w W → Below w1.heap.size w1 W → BxT w.heap.size t (.slice ao t.own.length co) (.slice aa t.all.length ca) (.slice ac t.ch.length cc) W ∧ W.cell? ⟨s, 0, none⟩ = some (.map (some m))) := fun W hb hb1 => ⟨BxT.of (C1.out W hb1), (HC.out W hb).1⟩
    have HB1 : Hid (Below w1.heap.size w1 w2.drew) := (B2.out).drew
    refine wp_region_held_drew (S := fun w' => BxT w.heap.size t (.slice ao t.own.length co) (.slice aa t.all.length ca) (.slice ac t.ch.length cc) w' ∧ w'.cell? ⟨s, 0, none⟩ = some (.map (some m))) (by kernel_rfl) (HX.out _ HBk.out HB1.out) (fun hHeld => ?_)
    refine wpAnyH_take (i := 0) (v := ?_) rfl (by kernel_rfl) (by kernel_rfl) (by kernel_rfl) (fun _ _ _ h => h) (Or.inl ⟨by rfl, ?_⟩) hHeld ?_
    rotate_left 1
    · intro w9 hSw; obtain ⟨⟨⟨g0, g1, g2, g3⟩, g4, g5, g6, g7⟩, cs⟩ := hSw; go_simp; try with_reducible rfl
    change wpAnyH _ _ _ _ _ _ _ (Act.put _ (some 18) _) _
    simp only [Act.put, List.setIfInBounds_toArray, List.set_cons_zero, List.set_cons_succ]
    refine wpAnyH_take (i := 1) (v := ?_) rfl (by kernel_rfl) (by kernel_rfl) (by kernel_rfl) (fun _ _ _ h => h) (Or.inl ⟨by rfl, ?_⟩) hHeld ?_
    rotate_left 1
    · intro w9 hSw; obtain ⟨⟨⟨g0, g1, g2, g3⟩, g4, g5, g6, g7⟩, cs⟩ := hSw; go_simp; try with_reducible rfl
    change wpAnyH _ _ _ _ _ _ _ (Act.put _ (some 19) _) _
    simp only [Act.put, List.setIfInBounds_toArray, List.set_cons_zero, List.set_cons_succ]
    refine wpAnyH_take (i := 2) (v := ?_) rfl (by kernel_rfl) (by kernel_rfl) (by kernel_rfl) (fun _ _ _ h => h) (Or.inl ⟨by rfl, ?_⟩) hHeld ?_
    rotate_left 1
    · intro w9 hSw; obtain ⟨⟨⟨g0, g1, g2, g3⟩, g4, g5, g6, g7⟩, cs⟩ := hSw; go_simp; try with_reducible rfl
    change wpAnyH _ _ _ _ _ _ _ (Act.put _ (some 20) _) _
    simp only [Act.put, List.setIfInBounds_toArray, List.set_cons_zero, List.set_cons_succ]
    refine wpAnyH_take (i := 3) (v := ?_) rfl (by kernel_rfl) (by kernel_rfl) (by kernel_rfl) (fun _ _ _ h => h) (Or.inl ⟨by rfl, ?_⟩) hHeld ?_
    rotate_left 1
    · intro w9 hSw; obtain ⟨⟨⟨g0, g1, g2, g3⟩, g4, g5, g6, g7⟩, cs⟩ := hSw; go_simp; try with_reducible rfl
    change wpAnyH _ _ _ _ _ _ _ (Act.put _ (some 21) _) _
    simp only [Act.put, List.setIfInBounds_toArray, List.set_cons_zero, List.set_cons_succ]
    refine wpAnyH_take (i := 4) (v := ?_) rfl (by kernel_rfl) (by kernel_rfl) (by kernel_rfl) (fun _ _ _ h => h) (Or.inl ⟨by rfl, ?_⟩) hHeld ?_
    rotate_left 1
    · intro w9 hSw; obtain ⟨⟨⟨g0, g1, g2, g3⟩, g4, g5, g6, g7⟩, cs⟩ := hSw; go_simp; try with_reducible rfl
    change wpAnyH _ _ _ _ _ _ _ (Act.put _ (some 22) _) _
    simp only [Act.put, List.setIfInBounds_toArray, List.set_cons_zero, List.set_cons_succ]
    refine wpAnyH_take (i := 5) (v := ?_) rfl (by kernel_rfl) (by kernel_rfl) (by kernel_rfl) (fun _ _ _ h => h) (Or.inl ⟨by rfl, ?_⟩) hHeld ?_
    rotate_left 1
    · intro w9 hSw; obtain ⟨⟨⟨g0, g1, g2, g3⟩, g4, g5, g6, g7⟩, cs⟩ := hSw; go_simp; try with_reducible rfl
    change wpAnyH _ _ _ _ _ _ _ (Act.put _ (some 23) _) _
    simp only [Act.put, List.setIfInBounds_toArray, List.set_cons_zero, List.set_cons_succ]
    refine wpAnyH_take (i := 7) (v := ?_) rfl (by kernel_rfl) (by kernel_rfl) (by kernel_rfl) (fun _ _ _ h => h) (Or.inl ⟨by rfl, ?_⟩) hHeld ?_
    rotate_left 1
    · intro w9 hSw; obtain ⟨⟨⟨g0, g1, g2, g3⟩, g4, g5, g6, g7⟩, cs⟩ := hSw; go_simp; try with_reducible rfl
    change wpAnyH _ _ _ _ _ _ _ (Act.put _ (some 25) _) _
    simp only [Act.put, List.setIfInBounds_toArray, List.set_cons_zero, List.set_cons_succ]
    refine wpAnyH_ready (rs := [6]) (by kernel_rfl) (by simp) ?_
    refine AllReadyH.cons rfl (fun K hK => ?_) AllReadyH.nil
    go_simp
    refine (HFo.out _ HBk.out).mono ?_
    rintro e wf ⟨rfl, hbf⟩
    have HBf : Hid (Below w.heap.size w wf) := HBk.out.trans (hbf.mono HBk.out.size)
    have HB2 : Hid (Below w1.heap.size w1 wf) := HB1.out.trans (hbf.mono HB1.out.size)
    clear hbf
    go_simp
    refine hK.out _ _ (HX.out _ HBf.out HB2.out) (fun hHeld => ?_)
    clear hK K
    refine wpAnyH_ready (rs := [8]) (by kernel_rfl) (by simp) ?_
    refine AllReadyH.cons rfl (fun K hK => ?_) AllReadyH.nil
    go_simp
    refine (HCo.out _ HBf.out).mono ?_
    rintro e wg ⟨v1, v2, v3, rfl, ho, hbf⟩
    have HBg : Hid (Below w.heap.size w wg) := HBf.out.trans (hbf.mono HBf.out.size)
    have HB3 : Hid (Below w1.heap.size w1 wg) := HB2.out.trans (hbf.mono HB2.out.size)
    have HO : Hid (OwnTy w.heap.size wg t v1 v2 v3) := ho.le HBf.out.size
    obtain ⟨W5, hW5⟩ : ∃ W5, W5 = wg.alloc (.cells (kpA ⟨t, false, zW⟩ v1 v2 v3) 87) := ⟨_, rfl⟩
    have hb5 : Below wg.heap.size wg W5 := by rw [hW5]; exact al_b _ _
    have HB5 : Hid (Below w.heap.size w W5) := HBg.out.trans (hb5.mono HBg.out.size)
    have HB6 : Hid (Below w1.heap.size w1 W5) := HB3.out.trans (hb5.mono HB3.out.size)
    obtain ⟨w6, hput0, hm6, hg6⟩ := (HS.out W5 HB5.out).mp.put ky wg.heap.size
    have hput : (Instr.mapUpdate 48 (.map (some m)) (.string ky) (.pointer (some ⟨wg.heap.size, 0, none⟩))).run Tryz.prog W5 = .ok () w6 := hput0
    clear hput0
    have HFin : Hid (R (.returned (.int .i64 0)) w6) := HEnd.out wg v1 v2 v3 w6 HBg.out HO.out (hW5 ▸ hg6) hm6
    have HS6 : Hid (BxT w.heap.size t (.slice ao t.own.length co) (.slice aa t.all.length ca) (.slice ac t.ch.length cc) w6 ∧ w6.cell? ⟨s, 0, none⟩ = some (.map (some m))) := kp6 (HS.out W5 HB5.out) (C1.out W5 HB6.out) hg6
    have HWK : Hid (wg.alloc (.cells #[.string t.n, .string t.p, v1, v2, v3, .int .i64 t.nd, .int .i64 t.lf, .int .i64 t.sq, .bool false, .bool false, .bool false, .bool false, .bool false, .bool false, .bool false, .bool false, .bool false, .bool false, .bool false, .bool false, .bool false, .bool false, .bool false, .bool false, .bool false] 87) = W5) := by show _ = _; rw [hW5]; rfl
    clear hbf ho hb5 hg6 hm6 hW5
    go_simp
    refine hK.out _ _ (HX.out _ HBg.out HB3.out) (fun hHeld => ?_)
    clear hK K
    refine wpAnyH_take (i := 9) (v := ?_) rfl (by kernel_rfl) (by kernel_rfl) (by kernel_rfl) (fun _ _ _ h => h) (Or.inl ⟨by rfl, ?_⟩) hHeld ?_
    rotate_left 1
    · intro w9 hSw; obtain ⟨⟨⟨g0, g1, g2, g3⟩, g4, g5, g6, g7⟩, cs⟩ := hSw; go_simp; try with_reducible rfl
    change wpAnyH _ _ _ _ _ _ _ (Act.put _ (some 27) _) _
    simp only [Act.put, List.setIfInBounds_toArray, List.set_cons_zero, List.set_cons_succ]
    refine wpAnyH_ready (rs := [10]) (by kernel_rfl) (by simp) ?_
    refine AllReadyH.cons rfl (fun K hK => ?_) AllReadyH.nil
    go_simp
    refine hK.out _ _ (by rw [HWK.out]; exact HX.out _ HB5.out HB6.out) (fun hHeld => ?_)
    clear hK K
    rw [HWK.out] at hHeld ⊢
    clear HWK
    refine wpAnyH_ready (rs := [11]) (by kernel_rfl) (by simp) ?_
    refine AllReadyH.cons rfl (fun K hK => ?_) AllReadyH.nil
    go_simp
    refine hK.out _ _ HS6.out (fun hHeld => ?_)
    clear hK K hput
    refine wpAnyH_done (by kernel_rfl) ?_ _
    clear hHeld
    go_wp2
    exact HFin.out
  case some g0 =>
    rw [hL] at HFi
    clear hL hfree
    obtain ⟨w1, hw1⟩ : ∃ w1, w1 = w.alloc (.cells (tyA t (.slice ao t.own.length co) (.slice aa t.all.length ca) (.slice ac t.ch.length cc)) 35) := ⟨_, rfl⟩
    have B1 : Hid (Below w.heap.size w w1) := by show Below _ _ _; rw [hw1]; exact al_b _ _
    have hn1 : w1.heap[w.heap.size]? = some (.cells (tyA t (.slice ao t.own.length co) (.slice aa t.all.length ca) (.slice ac t.ch.length cc)) 35 (0, 0)) := by rw [hw1]; exact new_at _ _
    have C1 : Hid (∀ W, Below w1.heap.size w1 W → W.heap[w.heap.size]? = some (.cells (tyA t (.slice ao t.own.length co) (.slice aa t.all.length ca) (.slice ac t.ch.length cc)) 35 (0, 0))) := fun W h => (h.block _ (Array.getElem?_eq_some_iff.1 hn1).1).trans hn1
    clear hn1
    have hk := C1.out w1 (Below.refl _ _)
    have c1_0 : w1.cell? ⟨w.heap.size, 0, none⟩ = some (.string t.n) := by rw [Lib.cell_of_heap hk]; rfl
    have c1_1 : w1.cell? ⟨w.heap.size, 1, none⟩ = some (.string t.p) := by rw [Lib.cell_of_heap hk]; rfl
    have c1_2 : w1.cell? ⟨w.heap.size, 2, none⟩ = some (.slice ao t.own.length co) := by rw [Lib.cell_of_heap hk]; rfl
    have c1_3 : w1.cell? ⟨w.heap.size, 3, none⟩ = some (.slice aa t.all.length ca) := by rw [Lib.cell_of_heap hk]; rfl
    have c1_4 : w1.cell? ⟨w.heap.size, 4, none⟩ = some (.slice ac t.ch.length cc) := by rw [Lib.cell_of_heap hk]; rfl
    have c1_5 : w1.cell? ⟨w.heap.size, 5, none⟩ = some (.int .i64 t.nd) := by rw [Lib.cell_of_heap hk]; rfl
    have c1_6 : w1.cell? ⟨w.heap.size, 6, none⟩ = some (.int .i64 t.lf) := by rw [Lib.cell_of_heap hk]; rfl
    have c1_7 : w1.cell? ⟨w.heap.size, 7, none⟩ = some (.int .i64 t.sq) := by rw [Lib.cell_of_heap hk]; rfl
    clear hk
    rw [hw1] at c1_0 c1_1 c1_2 c1_3 c1_4 c1_5 c1_6 c1_7
    go_enter Tryz.func39, Tryz.ntmps39
    go_wp2_with fail
    rw [← hw1]
    clear hw1
    clear c1_0 c1_1 c1_2 c1_3 c1_4 c1_5 c1_6 c1_7
    refine (HFi.out _ B1.out).mono ?_
    rintro e w2 ⟨rfl, hb⟩
    have B2 : Hid (Below w1.heap.size w1 w2) := hb
    clear hb 
    obtain ⟨cs, hlen⟩ := HC.out _ (bTS B1.out B2.out)
    go_wp2_with fail
    clear cs hlen
    have HBk : Hid (Below w.heap.size w w2.drew) := ((bTS B1.out B2.out)).drew
    have HX : Hid (∀ W, Below w.heap.size w W → Below w1.heap.size w1 W → BxT w.heap.size t (.slice ao t.own.length co) (.slice aa t.all.length ca) (.slice ac t.ch.length cc) W ∧ W.cell? ⟨s, 0, none⟩ = some (.map (some m))) := fun W hb hb1 => ⟨BxT.of (C1.out W hb1), (HC.out W hb).1⟩
    have HB1 : Hid (Below w1.heap.size w1 w2.drew) := (B2.out).drew
    refine wp_region_held_drew (S := fun w' => BxT w.heap.size t (.slice ao t.own.length co) (.slice aa t.all.length ca) (.slice ac t.ch.length cc) w' ∧ w'.cell? ⟨s, 0, none⟩ = some (.map (some m))) (by kernel_rfl) (HX.out _ HBk.out HB1.out) (fun hHeld => ?_)
    refine wpAnyH_take (i := 0) (v := ?_) rfl (by kernel_rfl) (by kernel_rfl) (by kernel_rfl) (fun _ _ _ h => h) (Or.inl ⟨by rfl, ?_⟩) hHeld ?_
    rotate_left 1
    · intro w9 hSw; obtain ⟨⟨⟨g0, g1, g2, g3⟩, g4, g5, g6, g7⟩, cs⟩ := hSw; go_simp; try with_reducible rfl
    change wpAnyH _ _ _ _ _ _ _ (Act.put _ (some 18) _) _
    simp only [Act.put, List.setIfInBounds_toArray, List.set_cons_zero, List.set_cons_succ]
    refine wpAnyH_take (i := 1) (v := ?_) rfl (by kernel_rfl) (by kernel_rfl) (by kernel_rfl) (fun _ _ _ h => h) (Or.inl ⟨by rfl, ?_⟩) hHeld ?_
    rotate_left 1
    · intro w9 hSw; obtain ⟨⟨⟨g0, g1, g2, g3⟩, g4, g5, g6, g7⟩, cs⟩ := hSw; go_simp; try with_reducible rfl
    change wpAnyH _ _ _ _ _ _ _ (Act.put _ (some 19) _) _
    simp only [Act.put, List.setIfInBounds_toArray, List.set_cons_zero, List.set_cons_succ]
    refine wpAnyH_take (i := 2) (v := ?_) rfl (by kernel_rfl) (by kernel_rfl) (by kernel_rfl) (fun _ _ _ h => h) (Or.inl ⟨by rfl, ?_⟩) hHeld ?_
    rotate_left 1
    · intro w9 hSw; obtain ⟨⟨⟨g0, g1, g2, g3⟩, g4, g5, g6, g7⟩, cs⟩ := hSw; go_simp; try with_reducible rfl
    change wpAnyH _ _ _ _ _ _ _ (Act.put _ (some 20) _) _
    simp only [Act.put, List.setIfInBounds_toArray, List.set_cons_zero, List.set_cons_succ]
    refine wpAnyH_take (i := 3) (v := ?_) rfl (by kernel_rfl) (by kernel_rfl) (by kernel_rfl) (fun _ _ _ h => h) (Or.inl ⟨by rfl, ?_⟩) hHeld ?_
    rotate_left 1
    · intro w9 hSw; obtain ⟨⟨⟨g0, g1, g2, g3⟩, g4, g5, g6, g7⟩, cs⟩ := hSw; go_simp; try with_reducible rfl
    change wpAnyH _ _ _ _ _ _ _ (Act.put _ (some 21) _) _
    simp only [Act.put, List.setIfInBounds_toArray, List.set_cons_zero, List.set_cons_succ]
    refine wpAnyH_take (i := 4) (v := ?_) rfl (by kernel_rfl) (by kernel_rfl) (by kernel_rfl) (fun _ _ _ h => h) (Or.inl ⟨by rfl, ?_⟩) hHeld ?_
    rotate_left 1
    · intro w9 hSw; obtain ⟨⟨⟨g0, g1, g2, g3⟩, g4, g5, g6, g7⟩, cs⟩ := hSw; go_simp; try with_reducible rfl
    change wpAnyH _ _ _ _ _ _ _ (Act.put _ (some 22) _) _
    simp only [Act.put, List.setIfInBounds_toArray, List.set_cons_zero, List.set_cons_succ]
    refine wpAnyH_take (i := 5) (v := ?_) rfl (by kernel_rfl) (by kernel_rfl) (by kernel_rfl) (fun _ _ _ h => h) (Or.inl ⟨by rfl, ?_⟩) hHeld ?_
    rotate_left 1
    · intro w9 hSw; obtain ⟨⟨⟨g0, g1, g2, g3⟩, g4, g5, g6, g7⟩, cs⟩ := hSw; go_simp; try with_reducible rfl
    change wpAnyH _ _ _ _ _ _ _ (Act.put _ (some 23) _) _
    simp only [Act.put, List.setIfInBounds_toArray, List.set_cons_zero, List.set_cons_succ]
    refine wpAnyH_take (i := 7) (v := ?_) rfl (by kernel_rfl) (by kernel_rfl) (by kernel_rfl) (fun _ _ _ h => h) (Or.inl ⟨by rfl, ?_⟩) hHeld ?_
    rotate_left 1
    · intro w9 hSw; obtain ⟨⟨⟨g0, g1, g2, g3⟩, g4, g5, g6, g7⟩, cs⟩ := hSw; go_simp; try with_reducible rfl
    change wpAnyH _ _ _ _ _ _ _ (Act.put _ (some 25) _) _
    simp only [Act.put, List.setIfInBounds_toArray, List.set_cons_zero, List.set_cons_succ]
    refine wpAnyH_ready (rs := [6]) (by kernel_rfl) (by simp) ?_
    refine AllReadyH.cons rfl (fun K hK => ?_) AllReadyH.nil
    go_simp
    refine (HFo.out _ HBk.out).mono ?_
    rintro e wf ⟨rfl, hbf⟩
    have HBf : Hid (Below w.heap.size w wf) := HBk.out.trans (hbf.mono HBk.out.size)
    have HB2 : Hid (Below w1.heap.size w1 wf) := HB1.out.trans (hbf.mono HB1.out.size)
    clear hbf
    go_simp
    refine hK.out _ _ (HX.out _ HBf.out HB2.out) (fun hHeld => ?_)
    clear hK K
    refine wpAnyH_ready (rs := [8]) (by kernel_rfl) (by simp) ?_
    refine AllReadyH.cons rfl (fun K hK => ?_) AllReadyH.nil
    go_simp
    refine (HCo.out _ HBf.out).mono ?_
    rintro e wg ⟨v1, v2, v3, rfl, ho, hbf⟩
    have HBg : Hid (Below w.heap.size w wg) := HBf.out.trans (hbf.mono HBf.out.size)
    have HB3 : Hid (Below w1.heap.size w1 wg) := HB2.out.trans (hbf.mono HB2.out.size)
    have HO : Hid (OwnTy w.heap.size wg t v1 v2 v3) := ho.le HBf.out.size
    obtain ⟨W5, hW5⟩ : ∃ W5, W5 = wg.alloc (.cells (kpA ⟨t, false, zW⟩ v1 v2 v3) 87) := ⟨_, rfl⟩
    have hb5 : Below wg.heap.size wg W5 := by rw [hW5]; exact al_b _ _
    have HB5 : Hid (Below w.heap.size w W5) := HBg.out.trans (hb5.mono HBg.out.size)
    have HB6 : Hid (Below w1.heap.size w1 W5) := HB3.out.trans (hb5.mono HB3.out.size)
    obtain ⟨w6, hput0, hm6, hg6⟩ := (HS.out W5 HB5.out).mp.put ky wg.heap.size
    have hput : (Instr.mapUpdate 48 (.map (some m)) (.string ky) (.pointer (some ⟨wg.heap.size, 0, none⟩))).run Tryz.prog W5 = .ok () w6 := hput0
    clear hput0
    have HFin : Hid (R (.returned (.int .i64 0)) w6) := HEnd.out wg v1 v2 v3 w6 HBg.out HO.out (hW5 ▸ hg6) hm6
    have HS6 : Hid (BxT w.heap.size t (.slice ao t.own.length co) (.slice aa t.all.length ca) (.slice ac t.ch.length cc) w6 ∧ w6.cell? ⟨s, 0, none⟩ = some (.map (some m))) := kp6 (HS.out W5 HB5.out) (C1.out W5 HB6.out) hg6
    have HWK : Hid (wg.alloc (.cells #[.string t.n, .string t.p, v1, v2, v3, .int .i64 t.nd, .int .i64 t.lf, .int .i64 t.sq, .bool false, .bool false, .bool false, .bool false, .bool false, .bool false, .bool false, .bool false, .bool false, .bool false, .bool false, .bool false, .bool false, .bool false, .bool false, .bool false, .bool false] 87) = W5) := by show _ = _; rw [hW5]; rfl
    clear hbf ho hb5 hg6 hm6 hW5
    go_simp
    refine hK.out _ _ (HX.out _ HBg.out HB3.out) (fun hHeld => ?_)
    clear hK K
    refine wpAnyH_take (i := 9) (v := ?_) rfl (by kernel_rfl) (by kernel_rfl) (by kernel_rfl) (fun _ _ _ h => h) (Or.inl ⟨by rfl, ?_⟩) hHeld ?_
    rotate_left 1
    · intro w9 hSw; obtain ⟨⟨⟨g0, g1, g2, g3⟩, g4, g5, g6, g7⟩, cs⟩ := hSw; go_simp; try with_reducible rfl
    change wpAnyH _ _ _ _ _ _ _ (Act.put _ (some 27) _) _
    simp only [Act.put, List.setIfInBounds_toArray, List.set_cons_zero, List.set_cons_succ]
    refine wpAnyH_ready (rs := [10]) (by kernel_rfl) (by simp) ?_
    refine AllReadyH.cons rfl (fun K hK => ?_) AllReadyH.nil
    go_simp
    refine hK.out _ _ (by rw [HWK.out]; exact HX.out _ HB5.out HB6.out) (fun hHeld => ?_)
    clear hK K
    rw [HWK.out] at hHeld ⊢
    clear HWK
    refine wpAnyH_ready (rs := [11]) (by kernel_rfl) (by simp) ?_
    refine AllReadyH.cons rfl (fun K hK => ?_) AllReadyH.nil
    go_simp
    refine hK.out _ _ HS6.out (fun hHeld => ?_)
    clear hK K hput
    refine wpAnyH_done (by kernel_rfl) ?_ _
    clear hHeld
    go_wp2
    exact HFin.out
end Go.Proofs.YtlndgepoekllkaaGreatDoor
/- store's Begin of a type that is kept: its walk. -/
namespace Go.Proofs.YtlndgepoekllkaaGreatDoor
open Go.RowKit Go.ChangeMaps

theorem lkS_memB {E : List (ByteArray × Nat)} {k : ByteArray} {g : Nat} (h : lkS E k = some g) : (k, g) ∈ E := by
  unfold lkS at h
  obtain ⟨p, hp, rfl⟩ := Option.map_eq_some_iff.1 h
  have h1 := List.mem_of_find?_eq_some hp
  have h2 : p.1 = k := by simpa using List.find?_some hp
  rw [← h2]
  exact h1
/-- A store in which what is kept in a block is another one of the same type. -/
theorem StV.upd {base : Nat} {w w' : World} {s m g : Nat} {E : List (ByteArray × Nat)} {X : Nat → Kp} (h : StV base w s m E X) {x : Kp} (hx : x.t = (X g).t) {vo va vc : Value} (h0 : w.heap[g]? = some (.cells (kpA (X g) vo va vc) 87 (0, 0))) (ho : OwnTy base w (X g).t vo va vc) (hg : w'.heap[g]? = some (.cells (kpA x vo va vc) 87 (0, 0))) (hk : ∀ j, j ≠ g → j < w.heap.size → w'.heap[j]? = w.heap[j]?) : StV base w' s m E (upX X g x) := by
  have ne : ∀ (j : Nat) (C' : Array Value) (ty' : TypeId) (z' : Nat × Nat), w.heap[j]? = some (Obj.cells C' ty' z') → 87 ≠ ty' → w'.heap[j]? = w.heap[j]? := fun j C' ty' z' hj hne => hk j (fun e => by
    rw [e, h0] at hj
    exact hne (Obj.cells.inj (Option.some.inj hj)).2.1) (Array.getElem?_eq_some_iff.1 hj).1
  have hm : m ≠ g := fun e => by
    obtain ⟨⟨es, c, hm, -⟩, -⟩ := h.mp
    rw [e, h0] at hm
    cases hm
  have ro : ∀ (j : Nat) (C' : Array Value) (z' : Nat × Nat), (w.heap[j]? = some (Obj.cells C' 94 z') ∨ w.heap[j]? = some (Obj.cells C' 9 z')) → w'.heap[j]? = w.heap[j]? := fun j C' z' hj => by
    rcases hj with hj | hj
    · exact ne _ _ _ _ hj (by decide)
    · exact ne _ _ _ _ hj (by decide)
  refine ⟨h.lo, h.lm, (ne _ _ _ _ h.blk (by decide)).trans h.blk, h.mp.keep (hk m hm h.mp.lt), fun p hp => ?_, h.nd⟩
  unfold upX
  by_cases hpg : p.2 = g
  · rw [if_pos hpg, hpg]
    have hb := (h.kp p hp).1
    rw [hpg] at hb
    refine ⟨hb, vo, va, vc, hg, ?_⟩
    rw [hx]
    exact ⟨own_keep ho.1 fun j C z hc => ro j C z (.inl hc), own_keep ho.2.1 fun j C z hc => ro j C z (.inl hc), own_keep ho.2.2 fun j C z hc => ro j C z (.inr hc)⟩
  · rw [if_neg hpg]
    refine (h.kp p hp).keep ?_ ro
    obtain ⟨-, v1, v2, v3, hb, -⟩ := h.kp p hp
    exact hk _ hpg (Array.getElem?_eq_some_iff.1 hb).1
/-- Only block g is another one. -/
structure Onl (g : Nat) (w w' : World) : Prop where
  os : w'.os = w.os
  tape : w'.tape = w.tape
  output : w'.output = w.output
  size : w'.heap.size = w.heap.size
  block : ∀ k, k ≠ g → w'.heap[k]? = w.heap[k]?
theorem Onl.refl (g : Nat) (w : World) : Onl g w w := ⟨rfl, rfl, rfl, rfl, fun _ _ => rfl⟩
theorem Onl.set {g : Nat} {w w' : World} (h : Onl g w w') (j : Nat) (v : Value) : Onl g w (w'.setCell ⟨g, j, none⟩ v) := by
  refine ⟨h.os, h.tape, h.output, ?_, fun k hk => (Below.heap_setCell _ _ _ _ hk).trans (h.block k hk)⟩
  show (w'.heap.modify g _).size = _
  rw [Array.size_modify]
  exact h.size
theorem Onl.stp {g : Nat} {w0 w w' : World} (h0 : Below w0.heap.size w0 w) (h : Onl g w w') : Stp w0 (fun k => k = g) (fun k => k = g) w' :=
  ⟨h.os.trans h0.os, h.tape.trans h0.tape, h.output.trans h0.output, by rw [h.size]; exact h0.size, fun k hk hn => (h.block k hn).trans (h0.block k hk), fun _ h => .inl h⟩
theorem Onl.row {g : Nat} {w w' : World} (h : Onl g w w') {sz n : Nat} {v : Value} {xs : List Value} (hr : IsRow w sz v n xs) (hf : ∀ p a c, v = .slice (some p) a c → p.block ≠ g) : IsRow w' sz v n xs := by
  refine ⟨hr.1, ?_⟩
  rcases hr.2 with h0 | ⟨b, off, cap, rfl, hlt, hc, hm, hcell⟩
  · exact .inl h0
  · refine .inr ⟨b, off, cap, rfl, by rw [h.size]; exact hlt, hc, hm, fun j u hu => ?_⟩
    have hb : b ≠ g := hf _ _ _ rfl
    have := hcell j u hu
    unfold World.cell? at this ⊢
    dsimp only at this ⊢
    rw [h.block b hb]
    exact this
/-- For whom it waits: for these. -/
def inW (l : List Int) : Nat → Bool := fun i => decide ((i : Int) ∈ l)
theorem inW_nil : inW [] = zW := by funext i; simp [inW, zW]
theorem inW_next {l : List Int} {j : Nat} (h : j < l.length) {k : Nat} (hk : l[j] = (k : Int)) : updW (inW (l.take j)) k true = inW (l.take (j + 1)) := by
  funext i
  unfold updW inW
  rw [List.take_succ_eq_append_getElem h, hk]
  by_cases e : i = k
  · subst e; simp
  · rw [if_neg e]
    have : (i : Int) ≠ (k : Int) := by omega
    simp [this]
theorem anyW_in {l : List Int} (h : NodesP l) : anyW (inW l) = !decide (l = []) := by
  cases l with
  | nil => rfl
  | cons x r =>
    have h0 := h 0 (by simp)
    simp only [List.getElem_cons_zero] at h0
    obtain ⟨k, rfl⟩ : ∃ k : Nat, x = (k : Int) := ⟨x.toNat, by omega⟩
    have hin : inW ((k : Int) :: r) k = true := by simp [inW]
    have h16 : k = 1 ∨ k = 2 ∨ k = 3 ∨ k = 4 ∨ k = 5 ∨ k = 6 ∨ k = 7 ∨ k = 8 ∨ k = 9 ∨ k = 10 ∨ k = 11 ∨ k = 12 ∨ k = 13 ∨ k = 14 ∨ k = 15 := by omega
    unfold anyW
    rcases h16 with rfl | rfl | rfl | rfl | rfl | rfl | rfl | rfl | rfl | rfl | rfl | rfl | rfl | rfl | rfl <;> (rw [hin]; simp)
theorem kp_step {W : World} {g : Nat} {t : Ty} {s : Bool} {f : Nat → Bool} {vo va vc : Value} (h : W.heap[g]? = some (.cells (kpA ⟨t, s, f⟩ vo va vc) 87 (0, 0))) {k : Nat} (hk : k ≤ 15) (b : Bool) : (W.setCell ⟨g, 9 + k, none⟩ (.bool b)).heap[g]? = some (.cells (kpA ⟨t, s, updW f k b⟩ vo va vc) 87 (0, 0)) := by
  rw [heap_setS h, kp_set t s f vo va vc hk b]
theorem z16_heap {W : World} {g : Nat} {t : Ty} {s : Bool} {f : Nat → Bool} {vo va vc : Value} (h : W.heap[g]? = some (.cells (kpA ⟨t, s, f⟩ vo va vc) 87 (0, 0))) : ((((((((((((((((W.setCell ⟨g, 9, none⟩ (.bool false)).setCell ⟨g, 10, none⟩ (.bool false)).setCell ⟨g, 11, none⟩ (.bool false)).setCell ⟨g, 12, none⟩ (.bool false)).setCell ⟨g, 13, none⟩ (.bool false)).setCell ⟨g, 14, none⟩ (.bool false)).setCell ⟨g, 15, none⟩ (.bool false)).setCell ⟨g, 16, none⟩ (.bool false)).setCell ⟨g, 17, none⟩ (.bool false)).setCell ⟨g, 18, none⟩ (.bool false)).setCell ⟨g, 19, none⟩ (.bool false)).setCell ⟨g, 20, none⟩ (.bool false)).setCell ⟨g, 21, none⟩ (.bool false)).setCell ⟨g, 22, none⟩ (.bool false)).setCell ⟨g, 23, none⟩ (.bool false)).setCell ⟨g, 24, none⟩ (.bool false)).heap[g]? = some (.cells (kpA ⟨t, s, zW⟩ vo va vc) 87 (0, 0)) := by
  have h1 := kp_step h (k := 0) (by decide) false
  have h2 := kp_step h1 (k := 1) (by decide) false
  have h3 := kp_step h2 (k := 2) (by decide) false
  have h4 := kp_step h3 (k := 3) (by decide) false
  have h5 := kp_step h4 (k := 4) (by decide) false
  have h6 := kp_step h5 (k := 5) (by decide) false
  have h7 := kp_step h6 (k := 6) (by decide) false
  have h8 := kp_step h7 (k := 7) (by decide) false
  have h9 := kp_step h8 (k := 8) (by decide) false
  have h10 := kp_step h9 (k := 9) (by decide) false
  have h11 := kp_step h10 (k := 10) (by decide) false
  have h12 := kp_step h11 (k := 11) (by decide) false
  have h13 := kp_step h12 (k := 12) (by decide) false
  have h14 := kp_step h13 (k := 13) (by decide) false
  have h15 := kp_step h14 (k := 14) (by decide) false
  have h16 := kp_step h15 (k := 15) (by decide) false
  exact h16
theorem z16_onl (W : World) (g : Nat) : Onl g W ((((((((((((((((W.setCell ⟨g, 9, none⟩ (.bool false)).setCell ⟨g, 10, none⟩ (.bool false)).setCell ⟨g, 11, none⟩ (.bool false)).setCell ⟨g, 12, none⟩ (.bool false)).setCell ⟨g, 13, none⟩ (.bool false)).setCell ⟨g, 14, none⟩ (.bool false)).setCell ⟨g, 15, none⟩ (.bool false)).setCell ⟨g, 16, none⟩ (.bool false)).setCell ⟨g, 17, none⟩ (.bool false)).setCell ⟨g, 18, none⟩ (.bool false)).setCell ⟨g, 19, none⟩ (.bool false)).setCell ⟨g, 20, none⟩ (.bool false)).setCell ⟨g, 21, none⟩ (.bool false)).setCell ⟨g, 22, none⟩ (.bool false)).setCell ⟨g, 23, none⟩ (.bool false)).setCell ⟨g, 24, none⟩ (.bool false)) := ((((((((((((((((Onl.refl g W).set 9 (.bool false)).set 10 (.bool false)).set 11 (.bool false)).set 12 (.bool false)).set 13 (.bool false)).set 14 (.bool false)).set 15 (.bool false)).set 16 (.bool false)).set 17 (.bool false)).set 18 (.bool false)).set 19 (.bool false)).set 20 (.bool false)).set 21 (.bool false)).set 22 (.bool false)).set 23 (.bool false)).set 24 (.bool false)
set_option maxRecDepth 100000 in
set_option maxHeartbeats 4000000 in
theorem begin_new {base : Nat} {w : World} {s m g : Nat} {E : List (ByteArray × Nat)} {X : Nat → Kp} (h : StV base w s m E X) (n : ByteArray) (hn : n.size ≤ 1000000) (hL : lkS E (fldB n) = some g) (v : Value) (l : List Int) (hr : IsRow w 1 v l.length (iCells l)) (hl : l.length ≤ 1000000) (hP : NodesP l) (hfar : l ≠ [] → ∀ p a c, v = .slice (some p) a c → p.block ≠ g) (hT : UT w) :
    Calls Tryz.prog 13 #[stP s, .string n, v] w fun e w' => e = .returned (.tuple #[.bool (decide (l = [])), .int .i64 0]) ∧ StV base w' s m E (upX X g ⟨(X g).t, decide (l = []), inW l⟩) ∧ Stp w (fun k => k = g) (fun k => k = g) w' := by
  obtain ⟨a0, c0, rfl⟩ := hr.form
  have HNo : Hid (∀ W, Below w.heap.size w W → Calls Tryz.prog 40 #[.slice a0 l.length c0] W fun e w' => e = .returned (.bool true) ∧ w' = W) := fun W hb => by
    have := nodes_any _ l W (hr.below hb) hl
    rw [nodesB_true hP] at this
    exact this
  have HFi : Hid (∀ W, Below w.heap.size w W → Calls Tryz.prog 29 #[stP s, .string n] W fun e w' => e = .returned (.pointer (some ⟨g, 0, none⟩)) ∧ Below W.heap.size W w') := fun W hb => by
    have := find_any (h.below hb) n hn (Utf8Tabs_below hT hb)
    rw [hL] at this
    exact this
  obtain ⟨hbg, vo, va, vc, h0, ho⟩ := h.kp _ (lkS_memB hL)
  dsimp only at hbg h0 ho
  obtain ⟨t, s0, f0, hX⟩ : ∃ t s0 f0, X g = ⟨t, s0, f0⟩ := ⟨_, _, _, rfl⟩
  rw [hX] at h0 ho
  have HK : Hid (∀ W, Below w.heap.size w W → W.heap[g]? = some (.cells (kpA ⟨t, s0, f0⟩ vo va vc) 87 (0, 0))) := fun W hb => (hb.block g (Array.getElem?_eq_some_iff.1 h0).1).trans h0
  have HEnd : Hid (∀ W W', Below w.heap.size w W → Onl g W W' → W'.heap[g]? = some (.cells (kpA ⟨t, decide (l = []), inW l⟩ vo va vc) 87 (0, 0)) → StV base W' s m E (upX X g ⟨(X g).t, decide (l = []), inW l⟩) ∧ Stp w (fun k => k = g) (fun k => k = g) W') := fun W W' hb ho' hg' => by
    refine ⟨(h.below hb).upd rfl (vo := vo) (va := va) (vc := vc) (by rw [hX]; exact (hb.block g (Array.getElem?_eq_some_iff.1 h0).1).trans h0) (by rw [hX]; exact ho.below hb) (by rw [hX]; exact hg') fun j hj _ => ho'.block j hj, Onl.stp hb ho'⟩
  have HRw : Hid (∀ W W', Below w.heap.size w W → Onl g W W' → IsRow W' 1 (.slice a0 l.length c0) l.length (iCells l)) := fun W W' hb ho' => by
    by_cases h0 : l = []
    · subst h0
      exact ⟨rfl, .inl ⟨rfl, _, _, rfl⟩⟩
    · exact ho'.row (hr.below hb) (hfar h0)
  have HP : Hid (NodesP l) := hP
  have HA : Hid (∀ W W', W'.heap[g]? = some (.cells (kpA ⟨t, s0, inW l⟩ vo va vc) 87 (0, 0)) → W = W' → Calls Tryz.prog 41 #[.pointer (some ⟨g, 0, none⟩)] W fun e w' => e = .returned (.bool (!decide (l = []))) ∧ w' = W) := fun W W' hg' e => by
    subst e
    have := waitsAll_any W g _ vo va vc hg'
    rw [anyW_in hP] at this
    exact this
  obtain ⟨D, HD⟩ : ∃ D, Hid (decide (l = []) = D) := ⟨_, rfl⟩
  rw [HD.out] at HA HEnd ⊢
  clear h hr hP hfar hT hn hL hbg h0 ho
  go_enter Tryz.func13, Tryz.ntmps13
  go_wp2_with fail
  refine (HNo.out _ (Below.refl _ _)).mono ?_
  rintro e w1 ⟨rfl, rfl⟩
  go_wp2_with fail
  refine (HFi.out _ (Below.refl _ _)).mono ?_
  rintro e w2 ⟨rfl, hb⟩
  have B2 : Hid (Below w1.heap.size w1 w2) := hb
  clear hb
  have hk2 := HK.out w2 B2.out
  have c0 : w2.cell? ⟨g, 9, none⟩ = some (.bool (f0 0)) := by rw [Lib.cell_of_heap hk2]; rfl
  have c1 : w2.cell? ⟨g, 10, none⟩ = some (.bool (f0 1)) := by rw [Lib.cell_of_heap hk2]; rfl
  have c2 : w2.cell? ⟨g, 11, none⟩ = some (.bool (f0 2)) := by rw [Lib.cell_of_heap hk2]; rfl
  have c3 : w2.cell? ⟨g, 12, none⟩ = some (.bool (f0 3)) := by rw [Lib.cell_of_heap hk2]; rfl
  have c4 : w2.cell? ⟨g, 13, none⟩ = some (.bool (f0 4)) := by rw [Lib.cell_of_heap hk2]; rfl
  have c5 : w2.cell? ⟨g, 14, none⟩ = some (.bool (f0 5)) := by rw [Lib.cell_of_heap hk2]; rfl
  have c6 : w2.cell? ⟨g, 15, none⟩ = some (.bool (f0 6)) := by rw [Lib.cell_of_heap hk2]; rfl
  have c7 : w2.cell? ⟨g, 16, none⟩ = some (.bool (f0 7)) := by rw [Lib.cell_of_heap hk2]; rfl
  have c8 : w2.cell? ⟨g, 17, none⟩ = some (.bool (f0 8)) := by rw [Lib.cell_of_heap hk2]; rfl
  have c9 : w2.cell? ⟨g, 18, none⟩ = some (.bool (f0 9)) := by rw [Lib.cell_of_heap hk2]; rfl
  have c10 : w2.cell? ⟨g, 19, none⟩ = some (.bool (f0 10)) := by rw [Lib.cell_of_heap hk2]; rfl
  have c11 : w2.cell? ⟨g, 20, none⟩ = some (.bool (f0 11)) := by rw [Lib.cell_of_heap hk2]; rfl
  have c12 : w2.cell? ⟨g, 21, none⟩ = some (.bool (f0 12)) := by rw [Lib.cell_of_heap hk2]; rfl
  have c13 : w2.cell? ⟨g, 22, none⟩ = some (.bool (f0 13)) := by rw [Lib.cell_of_heap hk2]; rfl
  have c14 : w2.cell? ⟨g, 23, none⟩ = some (.bool (f0 14)) := by rw [Lib.cell_of_heap hk2]; rfl
  have c15 : w2.cell? ⟨g, 24, none⟩ = some (.bool (f0 15)) := by rw [Lib.cell_of_heap hk2]; rfl
  have fz : ∀ j, w2.frozen? ⟨g, j, none⟩ = false := fun j => Lib.frozen_of_heap hk2 j
  obtain ⟨w3, hw3⟩ : ∃ w3, w3 = ((((((((((((((((w2.setCell ⟨g, 9, none⟩ (.bool false)).setCell ⟨g, 10, none⟩ (.bool false)).setCell ⟨g, 11, none⟩ (.bool false)).setCell ⟨g, 12, none⟩ (.bool false)).setCell ⟨g, 13, none⟩ (.bool false)).setCell ⟨g, 14, none⟩ (.bool false)).setCell ⟨g, 15, none⟩ (.bool false)).setCell ⟨g, 16, none⟩ (.bool false)).setCell ⟨g, 17, none⟩ (.bool false)).setCell ⟨g, 18, none⟩ (.bool false)).setCell ⟨g, 19, none⟩ (.bool false)).setCell ⟨g, 20, none⟩ (.bool false)).setCell ⟨g, 21, none⟩ (.bool false)).setCell ⟨g, 22, none⟩ (.bool false)).setCell ⟨g, 23, none⟩ (.bool false)).setCell ⟨g, 24, none⟩ (.bool false)) := ⟨_, rfl⟩
  have O3 : Hid (Onl g w2 w3) := by show Onl _ _ _; rw [hw3]; exact z16_onl _ _
  have K3 : Hid (w3.heap[g]? = some (.cells (kpA ⟨t, s0, zW⟩ vo va vc) 87 (0, 0))) := by show _ = _; rw [hw3]; exact z16_heap hk2
  go_wp2_with fail
  rw [← hw3]
  clear hw3 hk2 fz c0 c1 c2 c3 c4 c5 c6 c7 c8 c9 c10 c11 c12 c13 c14 c15
  have HG0 : Hid (w3.heap[g]? = some (.cells (kpA ⟨t, s0, inW (l.take 0)⟩ vo va vc) 87 (0, 0))) := by show _ = _; rw [List.take_zero, inW_nil]; exact K3.out
  clear K3 HNo HFi HK
  go_loopw [29] (fun i wr => ∃ j : Nat, j ≤ l.length ∧ i = .int .i64 (j : Int) ∧ Hid (Onl g w2 wr) ∧ Hid (wr.heap[g]? = some (.cells (kpA ⟨t, s0, inW (l.take j)⟩ vo va vc) 87 (0, 0)))) (fun i _ => l.length - (intOf i).toNat)
  case atStart => exact ⟨0, Nat.zero_le _, rfl, O3, HG0⟩
  case round =>
    obtain ⟨j, hj, rfl, HO, HG⟩ := hrel
    by_cases hlk : j < l.length
    · have dk : decide ((j : Int) < (l.length : Int)) = true := by simp; omega
      obtain ⟨b, off, rfl, -, hlt, hcap, hc⟩ := iCells_at (HRw.out w2 wr B2.out HO.out) (by omega)
      have ck := hc j hlk
      have hp := HP.out j hlk
      obtain ⟨k, hk⟩ : ∃ k : Nat, l[j] = (k : Int) := ⟨(l[j]).toNat, by omega⟩
      have i1 : 1 ≤ (k : Int) := by rw [← hk]; exact hp.1
      have i2 : (k : Int) ≤ 15 := by rw [← hk]; exact hp.2.1
      have HG2 : Hid ((wr.setCell ⟨g, 9 + k, none⟩ (.bool true)).heap[g]? = some (.cells (kpA ⟨t, s0, inW (l.take (j + 1))⟩ vo va vc) 87 (0, 0))) := by
        show _ = _
        rw [← inW_next hlk hk]
        exact kp_step HG.out (by omega) true
      have HO2 : Hid (Onl g w2 (wr.setCell ⟨g, 9 + k, none⟩ (.bool true))) := HO.out.set _ _
      rw [hk] at ck
      have hcg := kp_cell HG.out (k := k) (by omega)
      have fz : ∀ i, wr.frozen? ⟨g, i, none⟩ = false := fun i => Lib.frozen_of_heap HG.out i
      have d1 : decide ((k : Int) < 0) = false := decide_eq_false (by omega)
      have d2 : decide ((k : Int) < 16) = true := decide_eq_true (by omega)
      have d3 : decide ((16 : Int) ≤ (k : Int)) = false := decide_eq_false (by omega)
      clear hc hp hk HG HO HG0 O3
      go_wp2
      go_roundw
      case rel => exact ⟨j + 1, by omega, by simp, HO2, HG2⟩
      case measure => simp [intOf]; omega
    · have hk' : j = l.length := by omega
      subst hk'
      have dk : decide ((l.length : Int) < (l.length : Int)) = false := by simp
      rw [List.take_length] at HG
      have hA := HA.out wr wr HG.out rfl
      have c8 : wr.cell? ⟨g, 8, none⟩ = some (.bool s0) := by rw [Lib.cell_of_heap HG.out]; rfl
      have fz : ∀ i, wr.frozen? ⟨g, i, none⟩ = false := fun i => Lib.frozen_of_heap HG.out i
      have HE : Hid (∀ D', D' = D → StV base (wr.setCell ⟨g, 8, none⟩ (.bool D')) s m E (upX X g ⟨(X g).t, D, inW l⟩) ∧ Stp w1 (fun k => k = g) (fun k => k = g) (wr.setCell ⟨g, 8, none⟩ (.bool D'))) := fun D' e => by
        subst e
        exact HEnd.out w2 _ B2.out (HO.out.set 8 _) ((heap_setS HG.out 8 (.bool D')).trans rfl)
      clear HA HEnd HRw HP HG HO HG0 O3 HD
      go_wp2_with fail
      refine hA.mono ?_
      rintro e w5 ⟨rfl, rfl⟩
      go_wp2
      refine bodyPost_ret (results_tmp2 rfl _ _ _) rfl ⟨?_, HE.out _ (by simp)⟩
      go_simp
      try rfl
end Go.Proofs.YtlndgepoekllkaaGreatDoor
