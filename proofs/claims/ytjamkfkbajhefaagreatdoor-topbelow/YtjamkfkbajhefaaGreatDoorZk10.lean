/- pred: walks. -/
import Derived.Test.YtjamkfkbajhefaaGreatDoorZk9
namespace Go.Proofs.YtjamkfkbajhefaaGreatDoor.F
open Go.RowKit

/-- A predicate's box. -/
abbrev P3 (g : Nat) (n : ByteArray) (o : Int) (v : Value) (W : World) : Prop := W.cell? ⟨g, 0, none⟩ = some (.string n) ∧ W.cell? ⟨g, 1, none⟩ = some (.int .i64 o) ∧ W.cell? ⟨g, 2, none⟩ = some v ∧ (∀ j, W.frozen? ⟨g, j, none⟩ = false) ∧ W.heap[g]? = some (.cells #[.string n, .int .i64 o, v] 59 (0, 0))
theorem P3.of {g : Nat} {n : ByteArray} {o : Int} {v : Value} {W : World} (h : W.heap[g]? = some (.cells #[.string n, .int .i64 o, v] 59 (0, 0))) : P3 g n o v W :=
  ⟨by rw [Lib.cell_of_heap h]; rfl, by rw [Lib.cell_of_heap h]; rfl, by rw [Lib.cell_of_heap h]; rfl, fun j => Lib.frozen_of_heap h j, h⟩
theorem heap_other {w : World} {g g' : Nat} {o : Obj} (h : w.heap[g]? = some o) (hn : g ≠ g') (j : Nat) (u : Value) : (w.setCell ⟨g', j, none⟩ u).heap[g]? = some o := (Below.heap_setCell _ _ _ _ hn).trans h
theorem F2.other {g : Nat} {x y : Int} {W : World} (h : F2 g x y W) {g' : Nat} (hn : g ≠ g') (j : Nat) (u : Value) : F2 g x y (W.setCell ⟨g', j, none⟩ u) := F2.of (heap_other h.2.2.2 hn j u)
theorem P3.other {g : Nat} {n : ByteArray} {o : Int} {v : Value} {W : World} (h : P3 g n o v W) {g' : Nat} (hn : g ≠ g') (j : Nat) (u : Value) : P3 g n o v (W.setCell ⟨g', j, none⟩ u) := P3.of (heap_other h.2.2.2.2 hn j u)
theorem P3.set0 {g : Nat} {n : ByteArray} {o : Int} {v : Value} {W : World} (h : P3 g n o v W) (n' : ByteArray) : P3 g n' o v (W.setCell ⟨g, 0, none⟩ (.string n')) := P3.of (heap_set h.2.2.2.2 0 _)
theorem P3.set1 {g : Nat} {n : ByteArray} {o : Int} {v : Value} {W : World} (h : P3 g n o v W) (o' : Int) : P3 g n o' v (W.setCell ⟨g, 1, none⟩ (.int .i64 o')) := P3.of (heap_set h.2.2.2.2 1 _)
theorem P3.set2 {g : Nat} {n : ByteArray} {o : Int} {v : Value} {W : World} (h : P3 g n o v W) (v' : Value) : P3 g n o v' (W.setCell ⟨g, 2, none⟩ v') := P3.of (heap_set h.2.2.2.2 2 _)
def PrQ (w0 : World) (R : Nat) (T : List Ft) (z : Int) (n : ByteArray) (o : Int) (r : List It × Int × Int) (w : World) (e : Ending) (w' : World) : Prop := ∃ a c, e = .returned (.tuple #[.agg #[.string n, .int .i64 o, .slice a r.1.length c], ftV r.2.1 r.2.2]) ∧ IsRow w' 3 (.slice a r.1.length c) r.1.length (itCells r.1) ∧ FrA w.heap.size a ∧ Sr R w w' ∧ Rd w0 R T z w'
set_option maxRecDepth 100000 in
set_option maxHeartbeats 4000000 in
theorem pred_ask (w0 : World) (R : Nat) (l : List Ft) (z : Int) (w : World) (h0 : Sr R w0 w) (h : Rd w0 R l z w) (hR : R < w0.heap.size) (x : Pc) (nm : ByteArray) (at_ : Int) (hx : PcOk x) (hh : isW x ⟨#[104, 97, 115]⟩ = false) (hk : askR x = (nm, at_, 0)) (T : List Ft) (o : Int) (r : List It × Int × Int) (hB : ∀ W, Sr R w0 W → Rd w0 R l z W → Calls Tryz.prog 99 #[.pointer (some ⟨R, 0, none⟩)] W fun e w' => BnQ w0 R T z o r W e w') (hT : ∀ W, Sr R w0 W → FW W) :
    Calls Tryz.prog 69 #[.pointer (some ⟨R, 0, none⟩), x.v, .bool false] w fun e w' => PrQ w0 R T z nm o r w e w' := by
  have HRl : Hid (R < w.heap.size) := Nat.lt_of_lt_of_le hR h0.size
  have HIs : Hid (∀ W, Sr R w0 W → Calls Tryz.prog 67 #[x.v, .string ⟨#[104, 97, 115]⟩] W fun e w' => e = .returned (.bool false) ∧ Below W.heap.size W w') := fun W a => by
    have := isWord_any x ⟨#[104, 97, 115]⟩ W hx (by decide) (hT W a).u
    rw [hh] at this
    exact this
  have HAs : Hid (∀ W, Sr R w0 W → Calls Tryz.prog 98 #[x.v] W fun e w' => e = .returned (.tuple #[.string nm, ftV at_ 0]) ∧ Below W.heap.size W w') := fun W a => by
    have := asked_any x W hx (hT W a)
    rw [hk] at this
    exact this
  have HB : Hid (∀ W, Sr R w0 W → Rd w0 R l z W → Calls Tryz.prog 99 #[.pointer (some ⟨R, 0, none⟩)] W fun e w' => BnQ w0 R T z o r W e w') := hB
  have H0 : Hid (Sr R w0 w) := h0
  have HR0 : Hid (Rd w0 R l z w) := h
  clear h0 h hR hx hh hk hB hT
  generalize x.v = xv at *
  obtain ⟨w1, hw1⟩ : ∃ w1, w1 = w.alloc (.cells #[.string ⟨#[]⟩, .int .i64 0, .slice none 0 0] 59) := ⟨_, rfl⟩
  have B1 : Hid (Sr R w w1) := by show Sr _ _ _; rw [hw1]; exact Sr.of (al_f _ _)
  have hn1 : w1.heap[w.heap.size]? = some (.cells #[.string ⟨#[]⟩, .int .i64 0, .slice none 0 0] 59 (0, 0)) := by rw [hw1]; exact nw_at _ _
  have N1 : Hid (R < w.heap.size) := HRl.out
  have C1 : Hid (∀ W, Sr R w1 W → W.heap[w.heap.size]? = some (.cells #[.string ⟨#[]⟩, .int .i64 0, .slice none 0 0] 59 (0, 0))) := fun W h => h.box hn1 (Nat.ne_of_gt N1.out)
  clear hn1
  obtain ⟨w2, hw2⟩ : ∃ w2, w2 = w1.alloc (.cells #[.int .i64 0, .int .i64 0] 83) := ⟨_, rfl⟩
  have B2 : Hid (Sr R w1 w2) := by show Sr _ _ _; rw [hw2]; exact Sr.of (al_f _ _)
  have hn2 : w2.heap[(w.heap.size + 1)]? = some (.cells #[.int .i64 0, .int .i64 0] 83 (0, 0)) := by rw [hw2]; rw [show w.heap.size + 1 = w1.heap.size by (rw [hw1]; simp)]; exact new_at _ _
  have N2 : Hid (R < (w.heap.size + 1)) := (Nat.lt_of_lt_of_le HRl.out (Nat.le_add_right _ _))
  have C2 : Hid (∀ W, Sr R w2 W → W.heap[(w.heap.size + 1)]? = some (.cells #[.int .i64 0, .int .i64 0] 83 (0, 0))) := fun W h => h.box hn2 (Nat.ne_of_gt N2.out)
  clear hn2
  have HRd2 : Hid (Rd w0 R l z w2) := by show Rd _ _ _ _ _; rw [hw2, hw1]; exact (HR0.out.al _).al _
  have hx2 : Hid (w2.heap.size = w.heap.size + 2) := by show _ = _; rw [hw2, hw1]; simp
  have HRs : Hid (R < w.heap.size + 1) := Nat.lt_succ_of_lt HRl.out
  go_enter Tryz.func69, Tryz.ntmps69
  go_wp2_with fail
  rw [← hw1, ← hw2]
  clear hw1 hw2
  refine (HIs.out _ (H0.out.trans (B1.out.trans B2.out))).mono ?_
  rintro e w3 ⟨rfl, hb⟩
  have HRd3 : Hid (Rd w0 R l z w3) := HRd2.out.below hb
  have B3 : Hid (Sr R w2 w3) := Sr.of hb
  clear hb
  go_wp2_with fail
  refine (HAs.out _ (H0.out.trans ((B1.out.trans B2.out).trans B3.out))).mono ?_
  rintro e w4 ⟨rfl, hb⟩
  have HRd4 : Hid (Rd w0 R l z w4) := HRd3.out.below hb
  have B4 : Hid (Sr R w3 w4) := Sr.of hb
  clear hb
  have HP5 : Hid (P3 w.heap.size ⟨#[]⟩ 0 (.slice none 0 0) w4) := P3.of (C1.out w4 ((B2.out.trans B3.out).trans B4.out))
  have HF5 : Hid (F2 (w.heap.size + 1) 0 0 w4) := F2.of (C2.out w4 (B3.out.trans B4.out))
  obtain ⟨p0, p1, p2, pf, -⟩ := HP5.out
  obtain ⟨f0, f1, ff, -⟩ := HF5.out
  obtain ⟨w5, hw5⟩ : ∃ W, W = (((w4.setCell ⟨w.heap.size, 0, none⟩ (.string nm)).setCell ⟨w.heap.size + 1, 0, none⟩ (.int .i64 at_)).setCell ⟨w.heap.size + 1, 1, none⟩ (.int .i64 0)) := ⟨_, rfl⟩
  have HPx : Hid (P3 w.heap.size nm 0 (.slice none 0 0) w5) := by show P3 _ _ _ _ _; rw [hw5]; exact ((HP5.out.set0 nm).other (Nat.ne_of_lt (Nat.lt_succ_self _)) 0 _).other (Nat.ne_of_lt (Nat.lt_succ_self _)) 1 _
  have HFx : Hid (F2 (w.heap.size + 1) at_ 0 w5) := by show F2 _ _ _ _; rw [hw5]; exact (HF5.out.other (Nat.ne_of_gt (Nat.lt_succ_self _)) 0 _).set at_ 0
  have B5 : Hid (Sr R w w5) := by show Sr _ _ _; rw [hw5]; exact (((((B1.out.trans B2.out).trans B3.out).trans B4.out).set (.inr (Nat.le_refl _)) 0 _).set (.inr (Nat.le_succ _)) 0 _).set (.inr (Nat.le_succ _)) 1 _
  have HRd5 : Hid (Rd w0 R l z w5) := by show Rd _ _ _ _ _; rw [hw5]; exact ((HRd4.out.set HRl.out 0 _).set HRs.out 0 _).set HRs.out 1 _
  have hsz5 : Hid (w5.heap.size = w4.heap.size) := by show _ = _; rw [hw5]; simp [World.setCell]
  go_wp2_with fail
  rw [← hw5]
  clear hw5 p0 p1 p2 pf f0 f1 ff
  refine (HB.out _ (H0.out.trans B5.out) HRd5.out).mono ?_
  rintro e w6 ⟨aa, ca, rfl, hr, hfa, hb, hrd⟩
  have HRw : Hid (IsRow w6 3 (.slice aa r.1.length ca) r.1.length (itCells r.1)) := hr
  have HFa : Hid (∀ d, aa = some d → w.heap.size + 1 < d.block) := fun d hd => by
    have h1 := hfa d hd
    have h2 := hsz5.out
    have h4 := hx2.out
    have h5 := B3.out.size
    have h6 := B4.out.size
    omega
  have HRd6 : Hid (Rd w0 R T z w6) := hrd
  have B6 : Hid (Sr R w5 w6) := hb
  clear hrd hr hfa
  have HP6 : Hid (P3 w.heap.size nm 0 (.slice none 0 0) w6) := P3.of (hb.box HPx.out.2.2.2.2 (Nat.ne_of_gt HRl.out))
  have HF6 : Hid (F2 (w.heap.size + 1) at_ 0 w6) := F2.of (hb.box HFx.out.2.2.2 (Nat.ne_of_gt HRs.out))
  clear hb
  obtain ⟨LL, at2, er⟩ := r
  dsimp only at *
  obtain ⟨p0, p1, p2, pf, -⟩ := HP6.out
  obtain ⟨f0, f1, ff, -⟩ := HF6.out
  obtain ⟨wz, hwz⟩ : ∃ W, W = ((((w6.setCell ⟨w.heap.size, 1, none⟩ (.int .i64 o)).setCell ⟨w.heap.size, 2, none⟩ (.slice aa LL.length ca)).setCell ⟨w.heap.size + 1, 0, none⟩ (.int .i64 at2)).setCell ⟨w.heap.size + 1, 1, none⟩ (.int .i64 er)) := ⟨_, rfl⟩
  have HPz : Hid (P3 w.heap.size nm o (.slice aa LL.length ca) wz) := by show P3 _ _ _ _ _; rw [hwz]; exact (((HP6.out.set1 o).set2 _).other (Nat.ne_of_lt (Nat.lt_succ_self _)) 0 _).other (Nat.ne_of_lt (Nat.lt_succ_self _)) 1 _
  have HFz : Hid (F2 (w.heap.size + 1) at2 er wz) := by show F2 _ _ _ _; rw [hwz]; exact ((HF6.out.other (Nat.ne_of_gt (Nat.lt_succ_self _)) 1 _).other (Nat.ne_of_gt (Nat.lt_succ_self _)) 2 _).set at2 er
  have hn1 : ∀ d, aa = some d → d.block ≠ w.heap.size := fun d hd => by have := HFa.out d hd; omega
  have hn2 : ∀ d, aa = some d → d.block ≠ w.heap.size + 1 := fun d hd => by have := HFa.out d hd; omega
  have HRwz : Hid (IsRow wz 3 (.slice aa LL.length ca) LL.length (itCells LL)) := by show IsRow _ _ _ _ _; rw [hwz]; exact row_set (row_set (row_set (row_set HRw.out hn1 1 _) hn1 2 _) hn2 0 _) hn2 1 _
  have HSz : Hid (Sr R w wz) := by show Sr _ _ _; rw [hwz]; exact ((((B5.out.trans B6.out).set (.inr (Nat.le_refl _)) 1 _).set (.inr (Nat.le_refl _)) 2 _).set (.inr (Nat.le_succ _)) 0 _).set (.inr (Nat.le_succ _)) 1 _
  have HRdz : Hid (Rd w0 R T z wz) := by show Rd _ _ _ _ _; rw [hwz]; exact (((HRd6.out.set HRl.out 1 _).set HRl.out 2 _).set HRs.out 0 _).set HRs.out 1 _
  go_wp2_with fail
  rw [← hwz]
  clear hwz p0 p1 p2 pf f0 f1 ff
  have HE : Hid (∀ wd : World, wd = wz.drew → PrQ w0 R T z nm o (LL, at2, er) w (.returned (.tuple #[.agg #[.string nm, .int .i64 o, .slice aa LL.length ca], ftV at2 er])) (((((wd.setCell ⟨w.heap.size, 0, none⟩ (.string nm)).setCell ⟨w.heap.size, 1, none⟩ (.int .i64 o)).setCell ⟨w.heap.size, 2, none⟩ (.slice aa LL.length ca)).setCell ⟨w.heap.size + 1, 0, none⟩ (.int .i64 at2)).setCell ⟨w.heap.size + 1, 1, none⟩ (.int .i64 er))) := fun wd hd0 => by
    subst hd0
    exact ⟨aa, ca, rfl, row_set (row_set (row_set (row_set (row_set (show IsRow wz.drew _ _ _ _ from HRwz.out) hn1 0 _) hn1 1 _) hn1 2 _) hn2 0 _) hn2 1 _, fun d hd => Nat.le_of_lt (Nat.lt_of_succ_lt (HFa.out d hd)), ((((HSz.out.drew.set (.inr (Nat.le_refl _)) 0 _).set (.inr (Nat.le_refl _)) 1 _).set (.inr (Nat.le_refl _)) 2 _).set (.inr (Nat.le_succ _)) 0 _).set (.inr (Nat.le_succ _)) 1 _, (((((show Rd w0 R T z wz.drew from HRdz.out).set HRl.out 0 _).set HRl.out 1 _).set HRl.out 2 _).set HRs.out 0 _).set HRs.out 1 _⟩
  clear hn1 hn2
  obtain ⟨wd, hwd⟩ : ∃ wd, wd = wz.drew := ⟨_, rfl⟩
  have HFd : Hid (F2 (w.heap.size + 1) at2 er wd) := by show F2 _ _ _ _; rw [hwd]; exact HFz.out
  have HPd : Hid (P3 w.heap.size nm o (.slice aa LL.length ca) wd) := by show P3 _ _ _ _ _; rw [hwd]; exact HPz.out
  have HE2 := HE.out wd hwd
  have HE3 : Hid _ := HE2
  clear HE HE2
  have HPe : Hid (P3 w.heap.size nm o (.slice aa LL.length ca) (((wd.setCell ⟨w.heap.size, 0, none⟩ (.string nm)).setCell ⟨w.heap.size, 1, none⟩ (.int .i64 o)).setCell ⟨w.heap.size, 2, none⟩ (.slice aa LL.length ca))) := ((HPd.out.set0 nm).set1 o).set2 _
  have HFe : Hid (F2 (w.heap.size + 1) at2 er (((wd.setCell ⟨w.heap.size, 0, none⟩ (.string nm)).setCell ⟨w.heap.size, 1, none⟩ (.int .i64 o)).setCell ⟨w.heap.size, 2, none⟩ (.slice aa LL.length ca))) := ((HFd.out.other (Nat.ne_of_gt (Nat.lt_succ_self _)) 0 _).other (Nat.ne_of_gt (Nat.lt_succ_self _)) 1 _).other (Nat.ne_of_gt (Nat.lt_succ_self _)) 2 _
  have HPg : Hid (P3 w.heap.size nm o (.slice aa LL.length ca) (((((wd.setCell ⟨w.heap.size, 0, none⟩ (.string nm)).setCell ⟨w.heap.size, 1, none⟩ (.int .i64 o)).setCell ⟨w.heap.size, 2, none⟩ (.slice aa LL.length ca)).setCell ⟨w.heap.size + 1, 0, none⟩ (.int .i64 at2)).setCell ⟨w.heap.size + 1, 1, none⟩ (.int .i64 er))) := (HPe.out.other (Nat.ne_of_lt (Nat.lt_succ_self _)) 0 _).other (Nat.ne_of_lt (Nat.lt_succ_self _)) 1 _
  have HFg : Hid (F2 (w.heap.size + 1) at2 er (((((wd.setCell ⟨w.heap.size, 0, none⟩ (.string nm)).setCell ⟨w.heap.size, 1, none⟩ (.int .i64 o)).setCell ⟨w.heap.size, 2, none⟩ (.slice aa LL.length ca)).setCell ⟨w.heap.size + 1, 0, none⟩ (.int .i64 at2)).setCell ⟨w.heap.size + 1, 1, none⟩ (.int .i64 er))) := HFe.out.set at2 er
  refine wp_region_held_drew (S := fun W' : World => P3 w.heap.size nm o (.slice aa LL.length ca) W' ∧ F2 (w.heap.size + 1) at2 er W') (by kernel_rfl) (by rw [← hwd]; exact ⟨HPd.out, HFd.out⟩) (fun hHeld => ?_)
  rw [← hwd]
  rw [← hwd] at hHeld
  clear hwd
  refine wpAnyH_take (i := 0) (v := ?_) rfl (by kernel_rfl) (by kernel_rfl) (by kernel_rfl) (fun _ _ _ h => h) (Or.inl ⟨by rfl, ?_⟩) hHeld ?_
  rotate_left 1
  · intro w9 hSw; obtain ⟨⟨s0, s1, s2, s3, s4⟩, s5, s6, s7, s8⟩ := hSw; go_simp; try with_reducible rfl
  change wpAnyH _ _ _ _ _ _ _ (Act.put _ (some 45) _) _
  simp only [Act.put, List.setIfInBounds_toArray, List.set_cons_zero, List.set_cons_succ]
  refine wpAnyH_take (i := 1) (v := ?_) rfl (by kernel_rfl) (by kernel_rfl) (by kernel_rfl) (fun _ _ _ h => h) (Or.inl ⟨by rfl, ?_⟩) hHeld ?_
  rotate_left 1
  · intro w9 hSw; obtain ⟨⟨s0, s1, s2, s3, s4⟩, s5, s6, s7, s8⟩ := hSw; go_simp; try with_reducible rfl
  change wpAnyH _ _ _ _ _ _ _ (Act.put _ (some 46) _) _
  simp only [Act.put, List.setIfInBounds_toArray, List.set_cons_zero, List.set_cons_succ]
  obtain ⟨p0, p1, p2, pf, -⟩ := HPd.out
  obtain ⟨f0, f1, ff, -⟩ := HFd.out
  refine wpAnyH_ready (rs := [2]) (by kernel_rfl) (by simp) ?_
  refine AllReadyH.cons rfl (fun K hK => ?_) AllReadyH.nil
  go_simp
  refine hK.out _ _ (⟨HPe.out, HFe.out⟩) (fun hHeld => ?_)
  clear hK K
  clear p0 p1 p2 pf f0 f1 ff
  obtain ⟨p0, p1, p2, pf, -⟩ := HPe.out
  obtain ⟨f0, f1, ff, -⟩ := HFe.out
  refine wpAnyH_ready (rs := [3]) (by kernel_rfl) (by simp) ?_
  refine AllReadyH.cons rfl (fun K hK => ?_) AllReadyH.nil
  go_simp
  refine hK.out _ _ (⟨HPg.out, HFg.out⟩) (fun hHeld => ?_)
  clear hK K
  refine wpAnyH_done (by kernel_rfl) ?_ _
  clear hHeld p0 p1 p2 pf f0 f1 ff HPe HFe
  generalize (((((wd.setCell ⟨w.heap.size, 0, none⟩ (.string nm)).setCell ⟨w.heap.size, 1, none⟩ (.int .i64 o)).setCell ⟨w.heap.size, 2, none⟩ (.slice aa LL.length ca)).setCell ⟨w.heap.size + 1, 0, none⟩ (.int .i64 at2)).setCell ⟨w.heap.size + 1, 1, none⟩ (.int .i64 er)) = we at *
  obtain ⟨p0, p1, p2, -, -⟩ := HPg.out
  obtain ⟨f0, f1, -, -⟩ := HFg.out
  go_wp2
  refine bodyPost_ret (v := .tuple #[.agg #[.string nm, .int .i64 o, .slice aa LL.length ca], ftV at2 er]) ?_ rfl HE3.out
  rw [results_cc rfl]; go_simp
set_option maxRecDepth 100000 in
set_option maxHeartbeats 4000000 in
theorem pred_has (w0 : World) (R : Nat) (l : List Ft) (z : Int) (w : World) (h0 : Sr R w0 w) (h : Rd w0 R l z w) (hR : R < w0.heap.size) (x : Pc) (nm : ByteArray) (at_ : Int) (hx : PcOk x) (hy : PcOk (pcF l z)) (hh : isW x ⟨#[104, 97, 115]⟩ = true) (hk : askR (pcF l z) = (nm, at_, 0)) (hl : l.length ≤ 1000000) (hT : ∀ W, Sr R w0 W → FW W) :
    Calls Tryz.prog 69 #[.pointer (some ⟨R, 0, none⟩), x.v, .bool false] w fun e w' => PrQ w0 R l.tail z nm 1 ([], at_, 0) w e w' := by
  have HRl : Hid (R < w.heap.size) := Nat.lt_of_lt_of_le hR h0.size
  have HIs : Hid (∀ W, Sr R w0 W → Calls Tryz.prog 67 #[x.v, .string ⟨#[104, 97, 115]⟩] W fun e w' => e = .returned (.bool true) ∧ Below W.heap.size W w') := fun W a => by
    have := isWord_any x ⟨#[104, 97, 115]⟩ W hx (by decide) (hT W a).u
    rw [hh] at this
    exact this
  have HNx : Hid (∀ W, Sr R w0 W → Rd w0 R l z W → Calls Tryz.prog 66 #[.pointer (some ⟨R, 0, none⟩)] W fun e w' => e = .returned (pcF l z).v ∧ Sr R W w' ∧ Rd w0 R l.tail z w') := fun W a b => next_any w0 R l z W a b hl
  have HAs : Hid (∀ W, Sr R w0 W → Calls Tryz.prog 98 #[(pcF l z).v] W fun e w' => e = .returned (.tuple #[.string nm, ftV at_ 0]) ∧ Below W.heap.size W w') := fun W a => by
    have := asked_any (pcF l z) W hy (hT W a)
    rw [hk] at this
    exact this
  have H0 : Hid (Sr R w0 w) := h0
  have HR0 : Hid (Rd w0 R l z w) := h
  clear h0 h hR hx hy hh hk hT hl
  generalize x.v = xv at *
  generalize (pcF l z).v = yv at *
  generalize l.tail = T at *
  obtain ⟨w1, hw1⟩ : ∃ w1, w1 = w.alloc (.cells #[.string ⟨#[]⟩, .int .i64 0, .slice none 0 0] 59) := ⟨_, rfl⟩
  have B1 : Hid (Sr R w w1) := by show Sr _ _ _; rw [hw1]; exact Sr.of (al_f _ _)
  have hn1 : w1.heap[w.heap.size]? = some (.cells #[.string ⟨#[]⟩, .int .i64 0, .slice none 0 0] 59 (0, 0)) := by rw [hw1]; exact nw_at _ _
  have N1 : Hid (R < w.heap.size) := HRl.out
  have C1 : Hid (∀ W, Sr R w1 W → W.heap[w.heap.size]? = some (.cells #[.string ⟨#[]⟩, .int .i64 0, .slice none 0 0] 59 (0, 0))) := fun W h => h.box hn1 (Nat.ne_of_gt N1.out)
  clear hn1
  obtain ⟨w2, hw2⟩ : ∃ w2, w2 = w1.alloc (.cells #[.int .i64 0, .int .i64 0] 83) := ⟨_, rfl⟩
  have B2 : Hid (Sr R w1 w2) := by show Sr _ _ _; rw [hw2]; exact Sr.of (al_f _ _)
  have hn2 : w2.heap[(w.heap.size + 1)]? = some (.cells #[.int .i64 0, .int .i64 0] 83 (0, 0)) := by rw [hw2]; rw [show w.heap.size + 1 = w1.heap.size by (rw [hw1]; simp)]; exact new_at _ _
  have N2 : Hid (R < (w.heap.size + 1)) := (Nat.lt_of_lt_of_le HRl.out (Nat.le_add_right _ _))
  have C2 : Hid (∀ W, Sr R w2 W → W.heap[(w.heap.size + 1)]? = some (.cells #[.int .i64 0, .int .i64 0] 83 (0, 0))) := fun W h => h.box hn2 (Nat.ne_of_gt N2.out)
  clear hn2
  have HRd2 : Hid (Rd w0 R l z w2) := by show Rd _ _ _ _ _; rw [hw2, hw1]; exact (HR0.out.al _).al _
  have hx2 : Hid (w2.heap.size = w.heap.size + 2) := by show _ = _; rw [hw2, hw1]; simp
  have HRs : Hid (R < w.heap.size + 1) := Nat.lt_succ_of_lt HRl.out
  go_enter Tryz.func69, Tryz.ntmps69
  go_wp2_with fail
  rw [← hw1, ← hw2]
  clear hw1 hw2
  refine (HIs.out _ (H0.out.trans (B1.out.trans B2.out))).mono ?_
  rintro e w3 ⟨rfl, hb⟩
  have HRd3 : Hid (Rd w0 R l z w3) := HRd2.out.below hb
  have B3 : Hid (Sr R w2 w3) := Sr.of hb
  clear hb
  go_wp2_with fail
  refine (HNx.out _ (H0.out.trans ((B1.out.trans B2.out).trans B3.out)) HRd3.out).mono ?_
  rintro e w4 ⟨rfl, hb, hrd⟩
  have B4 : Hid (Sr R w3 w4) := hb
  clear hb 
  have HRd4 : Hid (Rd w0 R T z w4) := hrd
  clear hrd HNx
  go_wp2_with fail
  refine (HAs.out _ (H0.out.trans (((B1.out.trans B2.out).trans B3.out).trans B4.out))).mono ?_
  rintro e w5 ⟨rfl, hb⟩
  have HRd5 : Hid (Rd w0 R T z w5) := HRd4.out.below hb
  have B5 : Hid (Sr R w4 w5) := Sr.of hb
  clear hb
  have HP6 : Hid (P3 w.heap.size ⟨#[]⟩ 0 (.slice none 0 0) w5) := P3.of (C1.out w5 (((B2.out.trans B3.out).trans B4.out).trans B5.out))
  have HF6 : Hid (F2 (w.heap.size + 1) 0 0 w5) := F2.of (C2.out w5 ((B3.out.trans B4.out).trans B5.out))
  obtain ⟨p0, p1, p2, pf, -⟩ := HP6.out
  obtain ⟨f0, f1, ff, -⟩ := HF6.out
  obtain ⟨w6, hw6⟩ : ∃ W, W = ((((w5.setCell ⟨w.heap.size, 0, none⟩ (.string nm)).setCell ⟨w.heap.size + 1, 0, none⟩ (.int .i64 at_)).setCell ⟨w.heap.size + 1, 1, none⟩ (.int .i64 0)).setCell ⟨w.heap.size, 1, none⟩ (.int .i64 1)) := ⟨_, rfl⟩
  have HPx : Hid (P3 w.heap.size nm 1 (.slice none 0 0) w6) := by show P3 _ _ _ _ _; rw [hw6]; exact (((HP6.out.set0 nm).other (Nat.ne_of_lt (Nat.lt_succ_self _)) 0 _).other (Nat.ne_of_lt (Nat.lt_succ_self _)) 1 _).set1 1
  have HFx : Hid (F2 (w.heap.size + 1) at_ 0 w6) := by show F2 _ _ _ _; rw [hw6]; exact ((HF6.out.other (Nat.ne_of_gt (Nat.lt_succ_self _)) 0 _).set at_ 0).other (Nat.ne_of_gt (Nat.lt_succ_self _)) 1 _
  have B6 : Hid (Sr R w w6) := by show Sr _ _ _; rw [hw6]; exact (((((((B1.out.trans B2.out).trans B3.out).trans B4.out).trans B5.out).set (.inr (Nat.le_refl _)) 0 _).set (.inr (Nat.le_succ _)) 0 _).set (.inr (Nat.le_succ _)) 1 _).set (.inr (Nat.le_refl _)) 1 _
  have HRd6 : Hid (Rd w0 R T z w6) := by show Rd _ _ _ _ _; rw [hw6]; exact (((HRd5.out.set HRl.out 0 _).set HRs.out 0 _).set HRs.out 1 _).set HRl.out 1 _
  have hsz6 : Hid (w6.heap.size = w5.heap.size) := by show _ = _; rw [hw6]; simp [World.setCell]
  go_wp2_with fail
  rw [← hw6]
  clear hw6 p0 p1 p2 pf f0 f1 ff
  obtain ⟨wz, hwz⟩ : ∃ W, W = w6 := ⟨_, rfl⟩
  rw [← hwz] at HPx HFx HRd6 B6
  rw [← hwz]
  clear hwz
  have HPz : Hid (P3 w.heap.size nm 1 (.slice none 0 0) wz) := HPx.out
  have HFz : Hid (F2 (w.heap.size + 1) at_ 0 wz) := HFx.out
  have HSz : Hid (Sr R w wz) := B6.out
  have HRdz : Hid (Rd w0 R T z wz) := HRd6.out
  have HRwz : Hid (IsRow wz 3 (.slice none 0 0) 0 (itCells [])) := IsRow.nil _ _
  have hn1 : ∀ d, (none : Option Addr) = some d → d.block ≠ w.heap.size := fun d hd => by cases hd
  have hn2 : ∀ d, (none : Option Addr) = some d → d.block ≠ w.heap.size + 1 := fun d hd => by cases hd
  have HFa : Hid (∀ d, (none : Option Addr) = some d → w.heap.size + 1 < d.block) := fun d hd => by cases hd
  have HE : Hid (∀ wd : World, wd = wz.drew → PrQ w0 R T z nm 1 (([] : List It), at_, 0) w (.returned (.tuple #[.agg #[.string nm, .int .i64 1, .slice none 0 0], ftV at_ 0])) (((((wd.setCell ⟨w.heap.size, 0, none⟩ (.string nm)).setCell ⟨w.heap.size, 1, none⟩ (.int .i64 1)).setCell ⟨w.heap.size, 2, none⟩ (.slice none 0 0)).setCell ⟨w.heap.size + 1, 0, none⟩ (.int .i64 at_)).setCell ⟨w.heap.size + 1, 1, none⟩ (.int .i64 0))) := fun wd hd0 => by
    subst hd0
    exact ⟨none, 0, rfl, row_set (row_set (row_set (row_set (row_set (show IsRow wz.drew _ _ _ _ from HRwz.out) hn1 0 _) hn1 1 _) hn1 2 _) hn2 0 _) hn2 1 _, fun d hd => Nat.le_of_lt (Nat.lt_of_succ_lt (HFa.out d hd)), ((((HSz.out.drew.set (.inr (Nat.le_refl _)) 0 _).set (.inr (Nat.le_refl _)) 1 _).set (.inr (Nat.le_refl _)) 2 _).set (.inr (Nat.le_succ _)) 0 _).set (.inr (Nat.le_succ _)) 1 _, (((((show Rd w0 R T z wz.drew from HRdz.out).set HRl.out 0 _).set HRl.out 1 _).set HRl.out 2 _).set HRs.out 0 _).set HRs.out 1 _⟩
  clear hn1 hn2
  obtain ⟨wd, hwd⟩ : ∃ wd, wd = wz.drew := ⟨_, rfl⟩
  have HFd : Hid (F2 (w.heap.size + 1) at_ 0 wd) := by show F2 _ _ _ _; rw [hwd]; exact HFz.out
  have HPd : Hid (P3 w.heap.size nm 1 (.slice none 0 0) wd) := by show P3 _ _ _ _ _; rw [hwd]; exact HPz.out
  have HE2 := HE.out wd hwd
  have HE3 : Hid _ := HE2
  clear HE HE2
  have HPe : Hid (P3 w.heap.size nm 1 (.slice none 0 0) (((wd.setCell ⟨w.heap.size, 0, none⟩ (.string nm)).setCell ⟨w.heap.size, 1, none⟩ (.int .i64 1)).setCell ⟨w.heap.size, 2, none⟩ (.slice none 0 0))) := ((HPd.out.set0 nm).set1 1).set2 _
  have HFe : Hid (F2 (w.heap.size + 1) at_ 0 (((wd.setCell ⟨w.heap.size, 0, none⟩ (.string nm)).setCell ⟨w.heap.size, 1, none⟩ (.int .i64 1)).setCell ⟨w.heap.size, 2, none⟩ (.slice none 0 0))) := ((HFd.out.other (Nat.ne_of_gt (Nat.lt_succ_self _)) 0 _).other (Nat.ne_of_gt (Nat.lt_succ_self _)) 1 _).other (Nat.ne_of_gt (Nat.lt_succ_self _)) 2 _
  have HPg : Hid (P3 w.heap.size nm 1 (.slice none 0 0) (((((wd.setCell ⟨w.heap.size, 0, none⟩ (.string nm)).setCell ⟨w.heap.size, 1, none⟩ (.int .i64 1)).setCell ⟨w.heap.size, 2, none⟩ (.slice none 0 0)).setCell ⟨w.heap.size + 1, 0, none⟩ (.int .i64 at_)).setCell ⟨w.heap.size + 1, 1, none⟩ (.int .i64 0))) := (HPe.out.other (Nat.ne_of_lt (Nat.lt_succ_self _)) 0 _).other (Nat.ne_of_lt (Nat.lt_succ_self _)) 1 _
  have HFg : Hid (F2 (w.heap.size + 1) at_ 0 (((((wd.setCell ⟨w.heap.size, 0, none⟩ (.string nm)).setCell ⟨w.heap.size, 1, none⟩ (.int .i64 1)).setCell ⟨w.heap.size, 2, none⟩ (.slice none 0 0)).setCell ⟨w.heap.size + 1, 0, none⟩ (.int .i64 at_)).setCell ⟨w.heap.size + 1, 1, none⟩ (.int .i64 0))) := HFe.out.set at_ 0
  refine wp_region_held_drew (S := fun W' : World => P3 w.heap.size nm 1 (.slice none 0 0) W' ∧ F2 (w.heap.size + 1) at_ 0 W') (by kernel_rfl) (by rw [← hwd]; exact ⟨HPd.out, HFd.out⟩) (fun hHeld => ?_)
  rw [← hwd]
  rw [← hwd] at hHeld
  clear hwd
  refine wpAnyH_take (i := 0) (v := ?_) rfl (by kernel_rfl) (by kernel_rfl) (by kernel_rfl) (fun _ _ _ h => h) (Or.inl ⟨by rfl, ?_⟩) hHeld ?_
  rotate_left 1
  · intro w9 hSw; obtain ⟨⟨s0, s1, s2, s3, s4⟩, s5, s6, s7, s8⟩ := hSw; go_simp; try with_reducible rfl
  change wpAnyH _ _ _ _ _ _ _ (Act.put _ (some 35) _) _
  simp only [Act.put, List.setIfInBounds_toArray, List.set_cons_zero, List.set_cons_succ]
  refine wpAnyH_take (i := 1) (v := ?_) rfl (by kernel_rfl) (by kernel_rfl) (by kernel_rfl) (fun _ _ _ h => h) (Or.inl ⟨by rfl, ?_⟩) hHeld ?_
  rotate_left 1
  · intro w9 hSw; obtain ⟨⟨s0, s1, s2, s3, s4⟩, s5, s6, s7, s8⟩ := hSw; go_simp; try with_reducible rfl
  change wpAnyH _ _ _ _ _ _ _ (Act.put _ (some 36) _) _
  simp only [Act.put, List.setIfInBounds_toArray, List.set_cons_zero, List.set_cons_succ]
  obtain ⟨p0, p1, p2, pf, -⟩ := HPd.out
  obtain ⟨f0, f1, ff, -⟩ := HFd.out
  refine wpAnyH_ready (rs := [2]) (by kernel_rfl) (by simp) ?_
  refine AllReadyH.cons rfl (fun K hK => ?_) AllReadyH.nil
  go_simp
  refine hK.out _ _ (⟨HPe.out, HFe.out⟩) (fun hHeld => ?_)
  clear hK K
  clear p0 p1 p2 pf f0 f1 ff
  obtain ⟨p0, p1, p2, pf, -⟩ := HPe.out
  obtain ⟨f0, f1, ff, -⟩ := HFe.out
  refine wpAnyH_ready (rs := [3]) (by kernel_rfl) (by simp) ?_
  refine AllReadyH.cons rfl (fun K hK => ?_) AllReadyH.nil
  go_simp
  refine hK.out _ _ (⟨HPg.out, HFg.out⟩) (fun hHeld => ?_)
  clear hK K
  refine wpAnyH_done (by kernel_rfl) ?_ _
  clear hHeld p0 p1 p2 pf f0 f1 ff HPe HFe
  generalize (((((wd.setCell ⟨w.heap.size, 0, none⟩ (.string nm)).setCell ⟨w.heap.size, 1, none⟩ (.int .i64 1)).setCell ⟨w.heap.size, 2, none⟩ (.slice none 0 0)).setCell ⟨w.heap.size + 1, 0, none⟩ (.int .i64 at_)).setCell ⟨w.heap.size + 1, 1, none⟩ (.int .i64 0)) = we at *
  obtain ⟨p0, p1, p2, -, -⟩ := HPg.out
  obtain ⟨f0, f1, -, -⟩ := HFg.out
  go_wp2
  refine bodyPost_ret (v := .tuple #[.agg #[.string nm, .int .i64 1, .slice none 0 0], ftV at_ 0]) ?_ rfl HE3.out
  rw [results_cc rfl]; go_simp
end Go.Proofs.YtjamkfkbajhefaaGreatDoor.F
