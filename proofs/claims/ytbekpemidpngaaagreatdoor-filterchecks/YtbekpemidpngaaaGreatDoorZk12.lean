/- behindName: walks. -/
import Derived.Test.YtbekpemidpngaaaGreatDoorZk11
import Derived.Deep.RegionHeld3
namespace Go.Proofs.YtbekpemidpngaaaGreatDoor
open Go.RowKit

theorem results_ttc {fn : Func} {p q r : Tmp} {ty : TypeId} (h : fn.results = #[.tmp q, .tmp r, .cell p ty]) (tmps : Array Value) (P : Program) (w : World) :
    (results fn tmps).run P w = ((asAddr (tmps.getD p undef)).run P w).andThen fun a w₁ => ((loadVar ty a).run P w₁).andThen fun v w₂ => .ok (.tuple #[tmps.getD q undef, tmps.getD r undef, v]) w₂ := by
  simp only [results, h]
  simp [Sem.run_bind, Result.andThen]
/-- A fault's box. -/
abbrev F2 (g : Nat) (x y : Int) (W : World) : Prop := W.cell? ⟨g, 0, none⟩ = some (.int .i64 x) ∧ W.cell? ⟨g, 1, none⟩ = some (.int .i64 y) ∧ (∀ j, W.frozen? ⟨g, j, none⟩ = false) ∧ W.heap[g]? = some (.cells #[.int .i64 x, .int .i64 y] 90 (0, 0))
theorem F2.of {g : Nat} {x y : Int} {W : World} (h : W.heap[g]? = some (.cells #[.int .i64 x, .int .i64 y] 90 (0, 0))) : F2 g x y W :=
  ⟨by rw [Lib.cell_of_heap h]; rfl, by rw [Lib.cell_of_heap h]; rfl, fun j => Lib.frozen_of_heap h j, h⟩
theorem F2.set {g : Nat} {x y : Int} {W : World} (h : F2 g x y W) (x' y' : Int) : F2 g x' y' ((W.setCell ⟨g, 0, none⟩ (.int .i64 x')).setCell ⟨g, 1, none⟩ (.int .i64 y')) := F2.of (heap_set (heap_set h.2.2.2 0 _) 1 _)
theorem F2.drew {g : Nat} {x y : Int} {W : World} (h : F2 g x y W) : F2 g x y W.drew := h
def BnQ (w0 : World) (R : Nat) (T : List Ft) (z o : Int) (r : List It × Int × Int) (w : World) (e : Ending) (w' : World) : Prop := ∃ a c, e = .returned (.tuple #[.int .i64 o, .slice a r.1.length c, ftV r.2.1 r.2.2]) ∧ IsRow w' 3 (.slice a r.1.length c) r.1.length (itCells r.1) ∧ FrA w.heap.size a ∧ Sr R w w' ∧ Rd w0 R T z w'
set_option maxRecDepth 100000 in
set_option maxHeartbeats 4000000 in
theorem behind_mark (w0 : World) (R : Nat) (l : List Ft) (z : Int) (o : Int) (w : World) (h0 : Sr R w0 w) (h : Rd w0 R l z w) (hR : R < w0.heap.size) (hl : l.length ≤ 1000000) (p : Int) (s : ByteArray) (hp : pcF l z = .mark p s) (ho : opF s = o) (h00 : o ≠ 0) :
    Calls Tryz.prog 108 #[.pointer (some ⟨R, 0, none⟩)] w fun e w' => BnQ w0 R l.tail.tail z o (oneR o (pcF l.tail z)) w e w' := by
  have HRl : Hid (R < w.heap.size) := Nat.lt_of_lt_of_le hR h0.size
  have HR0' : Hid (R < w0.heap.size) := hR
  have tl : l.tail.length ≤ l.length := by simp
  have HNx : Hid (∀ W, Sr R w0 W → Rd w0 R l z W → Calls Tryz.prog 71 #[.pointer (some ⟨R, 0, none⟩)] W fun e w' => e = .returned (.iface 161 (.agg #[.int .i64 p, .string s])) ∧ Sr R W w' ∧ Rd w0 R l.tail z w') := fun W a b => by
    have := next_any w0 R l z W a b hl
    unfold NxP at this
    rw [hp] at this
    exact this
  have HOn : Hid (∀ W, Sr R w0 W → Rd w0 R l.tail z W → Calls Tryz.prog 139 #[.pointer (some ⟨R, 0, none⟩), .int .i64 o] W fun e w' => OneQ w0 R l.tail.tail z (oneR o (pcF l.tail z)) W e w') := fun W a b => one_any w0 R l.tail z o W a b HR0'.out (by omega)
  have do0 : decide (o = 0) = false := decide_eq_false h00
  have do1 : (o == 0) = false := by simp [h00]
  have HOp : Hid (∀ W, Calls Tryz.prog 138 #[.string s] W fun e w' => e = .returned (.int .i64 o) ∧ w' = W) := fun W => by
    have := opOf_any s W
    rw [ho] at this
    exact this
  have ha := ta_mark_word p s
  have hb2 := ta_mark_mark p s
  have H0 : Hid (Sr R w0 w) := h0
  have HR0 : Hid (Rd w0 R l z w) := h
  clear h0 h hl hR tl hp ho h00
  generalize oneR o (pcF l.tail z) = RR at *
  generalize l.tail.tail = T2 at *
  generalize l.tail = T at *
  obtain ⟨w1, hw1⟩ : ∃ w1, w1 = w.alloc (.cells #[.int .i64 0, .int .i64 0] 90) := ⟨_, rfl⟩
  have B1 : Hid (Sr R w w1) := by show Sr _ _ _; rw [hw1]; exact Sr.of (al_f _ _)
  have hn1 : w1.heap[w.heap.size]? = some (.cells #[.int .i64 0, .int .i64 0] 90 (0, 0)) := by rw [hw1]; exact nw_at _ _
  have N1 : Hid (R < w.heap.size) := HRl.out
  have C1 : Hid (∀ W, Sr R w1 W → W.heap[w.heap.size]? = some (.cells #[.int .i64 0, .int .i64 0] 90 (0, 0))) := fun W h => h.box hn1 (Nat.ne_of_gt N1.out)
  clear hn1
  have HR1 : Hid (Rd w0 R l z w1) := by show Rd _ _ _ _ _; rw [hw1]; exact HR0.out.al _
  have hx1 : Hid (w1.heap.size = w.heap.size + 1) := by show _ = _; rw [hw1]; simp
  go_enter Tryz.func108, Tryz.ntmps108
  go_wp2_with fail
  rw [← hw1]
  clear hw1
  refine (HNx.out _ (H0.out.trans B1.out) HR1.out).mono ?_
  rintro e w2 ⟨rfl, hb, hrd⟩
  have B2 : Hid (Sr R w1 w2) := hb
  clear hb 
  have HRd2 : Hid (Rd w0 R T z w2) := hrd
  clear hrd HNx
  obtain ⟨w3, hw3⟩ : ∃ w3, w3 = w2.alloc (.cells #[.int .i64 p, .string s] 161) := ⟨_, rfl⟩
  have B3 : Hid (Sr R w2 w3) := by show Sr _ _ _; rw [hw3]; exact Sr.of (al_f _ _)
  have hn3 : w3.heap[w2.heap.size]? = some (.cells #[.int .i64 p, .string s] 161 (0, 0)) := by rw [hw3]; exact nw_at _ _
  have N3 : Hid (R < w2.heap.size) := (Nat.lt_of_lt_of_le HRl.out (B1.out.trans B2.out).size)
  have C3 : Hid (∀ W, Sr R w3 W → W.heap[w2.heap.size]? = some (.cells #[.int .i64 p, .string s] 161 (0, 0))) := fun W h => h.box hn3 (Nat.ne_of_gt N3.out)
  clear hn3
  have HRd3 : Hid (Rd w0 R T z w3) := by show Rd _ _ _ _ _; rw [hw3]; exact HRd2.out.al _
  have hk := C3.out w3 (Sr.refl _ _)
  have c3_0 : w3.cell? ⟨w2.heap.size, 0, none⟩ = some (.int .i64 p) := by rw [Lib.cell_of_heap hk]; rfl
  have c3_1 : w3.cell? ⟨w2.heap.size, 1, none⟩ = some (.string s) := by rw [Lib.cell_of_heap hk]; rfl
  clear hk
  rw [hw3] at c3_0 c3_1
  go_wp2_with fail
  rw [← hw3]
  clear hw3 c3_0 c3_1
  refine (HOp.out _).mono ?_
  rintro e wx ⟨rfl, hwx⟩
  obtain rfl := hwx.symm
  go_wp2_with fail
  refine (HOn.out _ (H0.out.trans ((B1.out.trans B2.out).trans B3.out)) HRd3.out).mono ?_
  rintro e w4 ⟨aa, ca, rfl, hr, hfa, hb, hrd⟩
  have HRw : Hid (IsRow w4 3 (.slice aa RR.1.length ca) RR.1.length (itCells RR.1)) := hr
  have HFa : Hid (∀ d, aa = some d → w.heap.size < d.block) := fun d hd => by
    have h1 := hfa d hd
    have h2 := (B2.out.trans B3.out).size
    have h3 := hx1.out
    omega
  have HRd4 : Hid (Rd w0 R T2 z w4) := hrd
  have B4 : Hid (Sr R w3 w4) := hb
  clear hb hrd hr hfa
  obtain ⟨LL, at_, er⟩ := RR
  dsimp only at *
  have HF2 : Hid (F2 w.heap.size 0 0 w4) := F2.of (C1.out w4 ((B2.out.trans B3.out).trans B4.out))
  obtain ⟨f0, f1, ff, -⟩ := HF2.out
  go_wp2_with fail
  obtain ⟨wz, hwz⟩ : ∃ wz, wz = ((w4.setCell ⟨w.heap.size, 0, none⟩ (.int .i64 at_)).setCell ⟨w.heap.size, 1, none⟩ (.int .i64 er)) := ⟨_, rfl⟩
  have HFz : Hid (F2 w.heap.size at_ er wz) := by show F2 _ _ _ _; rw [hwz]; exact HF2.out.set _ _
  have hne : ∀ d, aa = some d → d.block ≠ w.heap.size := fun d hd => Nat.ne_of_gt (HFa.out d hd)
  have HRwz : Hid (IsRow wz 3 (.slice aa LL.length ca) LL.length (itCells LL)) := by show IsRow _ _ _ _ _; rw [hwz]; exact row_set (row_set HRw.out hne 0 _) hne 1 _
  have HRdz : Hid (Rd w0 R T2 z wz) := by show Rd _ _ _ _ _; rw [hwz]; exact (HRd4.out.set HRl.out 0 _).set HRl.out 1 _
  have HSz : Hid (Sr R w wz) := by show Sr _ _ _; rw [hwz]; exact ((((B1.out.trans B2.out).trans B3.out).trans B4.out).set (.inr (Nat.le_refl _)) 0 _).set (.inr (Nat.le_refl _)) 1 _
  have HE : Hid (∀ wd : World, wd = wz.drew → BnQ w0 R T2 z o (LL, at_, er) w (.returned (.tuple #[.int .i64 o, .slice aa LL.length ca, ftV at_ er])) ((wd.setCell ⟨w.heap.size, 0, none⟩ (.int .i64 at_)).setCell ⟨w.heap.size, 1, none⟩ (.int .i64 er))) := fun wd hd0 => by
    subst hd0
    exact ⟨aa, ca, rfl, row_set (row_set (show IsRow wz.drew _ _ _ _ from HRwz.out) hne 0 _) hne 1 _, fun d hd => Nat.le_of_lt (HFa.out d hd), (HSz.out.drew.set (.inr (Nat.le_refl _)) 0 _).set (.inr (Nat.le_refl _)) 1 _, ((show Rd w0 R T2 z wz.drew from HRdz.out).set HRl.out 0 _).set HRl.out 1 _⟩
  rw [← hwz]
  clear hwz hne f0 f1 ff
  obtain ⟨wd, hwd⟩ : ∃ wd, wd = wz.drew := ⟨_, rfl⟩
  have HFd : Hid (F2 w.heap.size at_ er wd) := by show F2 _ _ _ _; rw [hwd]; exact HFz.out
  have HE2 := HE.out wd hwd
  have HE3 : Hid _ := HE2
  clear HE HE2
  refine wp_region_held_drew (S := fun W' : World => F2 w.heap.size at_ er W') (by kernel_rfl) (by rw [← hwd]; exact HFd.out) (fun hHeld => ?_)
  rw [← hwd]
  rw [← hwd] at hHeld
  clear hwd
  refine wpAnyH_take (i := 0) (v := ?_) rfl (by kernel_rfl) (by kernel_rfl) (by kernel_rfl) (fun _ _ _ h => h) (Or.inl ⟨by rfl, ?_⟩) hHeld ?_
  rotate_left 1
  · intro w9 hSw; obtain ⟨s0, s1, s2, s3⟩ := hSw; go_simp; try with_reducible rfl
  change wpAnyH _ _ _ _ _ _ _ (Act.put _ (some 44) _) _
  simp only [Act.put, List.setIfInBounds_toArray, List.set_cons_zero, List.set_cons_succ]
  refine wpAnyH_take (i := 1) (v := ?_) rfl (by kernel_rfl) (by kernel_rfl) (by kernel_rfl) (fun _ _ _ h => h) (Or.inl ⟨by rfl, ?_⟩) hHeld ?_
  rotate_left 1
  · intro w9 hSw; obtain ⟨s0, s1, s2, s3⟩ := hSw; go_simp; try with_reducible rfl
  change wpAnyH _ _ _ _ _ _ _ (Act.put _ (some 45) _) _
  simp only [Act.put, List.setIfInBounds_toArray, List.set_cons_zero, List.set_cons_succ]
  refine wpAnyH_take (i := 2) (v := ?_) rfl (by kernel_rfl) (by kernel_rfl) (by kernel_rfl) (fun _ _ _ h => h) (Or.inl ⟨by rfl, ?_⟩) hHeld ?_
  rotate_left 1
  · intro w9 hSw; obtain ⟨s0, s1, s2, s3⟩ := hSw; go_simp; try with_reducible rfl
  change wpAnyH _ _ _ _ _ _ _ (Act.put _ (some 46) _) _
  simp only [Act.put, List.setIfInBounds_toArray, List.set_cons_zero, List.set_cons_succ]
  refine wpAnyH_take (i := 3) (v := ?_) rfl (by kernel_rfl) (by kernel_rfl) (by kernel_rfl) (fun _ _ _ h => h) (Or.inl ⟨by rfl, ?_⟩) hHeld ?_
  rotate_left 1
  · intro w9 hSw; obtain ⟨s0, s1, s2, s3⟩ := hSw; go_simp; try with_reducible rfl
  change wpAnyH _ _ _ _ _ _ _ (Act.put _ (some 2) _) _
  simp only [Act.put, List.setIfInBounds_toArray, List.set_cons_zero, List.set_cons_succ]
  refine wpAnyH_take (i := 4) (v := ?_) rfl (by kernel_rfl) (by kernel_rfl) (by kernel_rfl) (fun _ _ _ h => h) (Or.inl ⟨by rfl, ?_⟩) hHeld ?_
  rotate_left 1
  · intro w9 hSw; obtain ⟨s0, s1, s2, s3⟩ := hSw; go_simp; try with_reducible rfl
  change wpAnyH _ _ _ _ _ _ _ (Act.put _ (some 3) _) _
  simp only [Act.put, List.setIfInBounds_toArray, List.set_cons_zero, List.set_cons_succ]
  obtain ⟨f0, f1, ff, -⟩ := HFd.out
  refine wpAnyH_ready (rs := [5]) (by kernel_rfl) (by simp) ?_
  refine AllReadyH.cons rfl (fun K hK => ?_) AllReadyH.nil
  go_simp
  refine hK.out _ _ (F2.set HFd.out _ _) (fun hHeld => ?_)
  clear hK K
  refine wpAnyH_done (by kernel_rfl) ?_ _
  clear hHeld f0 f1 ff
  have HF3 : Hid (F2 w.heap.size at_ er ((wd.setCell ⟨w.heap.size, 0, none⟩ (.int .i64 at_)).setCell ⟨w.heap.size, 1, none⟩ (.int .i64 er))) := F2.set HFd.out _ _
  generalize ((wd.setCell ⟨w.heap.size, 0, none⟩ (.int .i64 at_)).setCell ⟨w.heap.size, 1, none⟩ (.int .i64 er)) = we at *
  obtain ⟨f0, f1, -, -⟩ := HF3.out
  go_wp2
  refine bodyPost_ret (v := .tuple #[.int .i64 o, .slice aa LL.length ca, ftV at_ er]) ?_ rfl HE3.out
  rw [results_ttc rfl]; go_simp
set_option maxRecDepth 100000 in
set_option maxHeartbeats 4000000 in
theorem behind_word (w0 : World) (R : Nat) (l : List Ft) (z : Int) (o : Int) (w : World) (h0 : Sr R w0 w) (h : Rd w0 R l z w) (hR : R < w0.heap.size) (hl : l.length ≤ 1000000) (p : Int) (s : ByteArray) (hp : pcF l z = .word p s) (hs : s.size ≤ 1000000) (hn : sameL s.data.toList (⟨#[105, 110]⟩ : ByteArray).data.toList = false) (ho : opF (str (foldL s.data.toList)) = o) (h00 : o ≠ 0) (hT : ∀ W, Sr R w0 W → FW W) :
    Calls Tryz.prog 108 #[.pointer (some ⟨R, 0, none⟩)] w fun e w' => BnQ w0 R l.tail.tail z o (oneR o (pcF l.tail z)) w e w' := by
  have HRl : Hid (R < w.heap.size) := Nat.lt_of_lt_of_le hR h0.size
  have HR0' : Hid (R < w0.heap.size) := hR
  have tl : l.tail.length ≤ l.length := by simp
  have HNx : Hid (∀ W, Sr R w0 W → Rd w0 R l z W → Calls Tryz.prog 71 #[.pointer (some ⟨R, 0, none⟩)] W fun e w' => e = .returned (.iface 160 (.agg #[.int .i64 p, .string s])) ∧ Sr R W w' ∧ Rd w0 R l.tail z w') := fun W a b => by
    have := next_any w0 R l z W a b hl
    unfold NxP at this
    rw [hp] at this
    exact this
  have HOn : Hid (∀ W, Sr R w0 W → Rd w0 R l.tail z W → Calls Tryz.prog 139 #[.pointer (some ⟨R, 0, none⟩), .int .i64 o] W fun e w' => OneQ w0 R l.tail.tail z (oneR o (pcF l.tail z)) W e w') := fun W a b => one_any w0 R l.tail z o W a b HR0'.out (by omega)
  have do0 : decide (o = 0) = false := decide_eq_false h00
  have do1 : (o == 0) = false := by simp [h00]
  have HSm : Hid (∀ W, Sr R w0 W → Calls Tryz.prog 43 #[.string s, .string ⟨#[105, 110]⟩] W fun e w' => e = .returned (.bool false) ∧ Below W.heap.size W w') := fun W a => by
    have := same_any s ⟨#[105, 110]⟩ W hs (by decide) (hT W a).u
    rw [hn] at this
    exact this
  have HFo : Hid (∀ W, Sr R w0 W → Calls Tryz.prog 68 #[.string s] W fun e w' => e = .returned (.string (str (foldL s.data.toList))) ∧ Below W.heap.size W w') := fun W a => fold_any s W hs (hT W a).u
  have HOp : Hid (∀ W, Calls Tryz.prog 138 #[.string (str (foldL s.data.toList))] W fun e w' => e = .returned (.int .i64 o) ∧ w' = W) := fun W => by
    have := opOf_any (str (foldL s.data.toList)) W
    rw [ho] at this
    exact this
  generalize str (foldL s.data.toList) = FS at *
  have ha := ta_word_word p s
  have H0 : Hid (Sr R w0 w) := h0
  have HR0 : Hid (Rd w0 R l z w) := h
  clear h0 h hl hR tl hp hs hn ho hT h00
  generalize oneR o (pcF l.tail z) = RR at *
  generalize l.tail.tail = T2 at *
  generalize l.tail = T at *
  obtain ⟨w1, hw1⟩ : ∃ w1, w1 = w.alloc (.cells #[.int .i64 0, .int .i64 0] 90) := ⟨_, rfl⟩
  have B1 : Hid (Sr R w w1) := by show Sr _ _ _; rw [hw1]; exact Sr.of (al_f _ _)
  have hn1 : w1.heap[w.heap.size]? = some (.cells #[.int .i64 0, .int .i64 0] 90 (0, 0)) := by rw [hw1]; exact nw_at _ _
  have N1 : Hid (R < w.heap.size) := HRl.out
  have C1 : Hid (∀ W, Sr R w1 W → W.heap[w.heap.size]? = some (.cells #[.int .i64 0, .int .i64 0] 90 (0, 0))) := fun W h => h.box hn1 (Nat.ne_of_gt N1.out)
  clear hn1
  have HR1 : Hid (Rd w0 R l z w1) := by show Rd _ _ _ _ _; rw [hw1]; exact HR0.out.al _
  have hx1 : Hid (w1.heap.size = w.heap.size + 1) := by show _ = _; rw [hw1]; simp
  go_enter Tryz.func108, Tryz.ntmps108
  go_wp2_with fail
  rw [← hw1]
  clear hw1
  refine (HNx.out _ (H0.out.trans B1.out) HR1.out).mono ?_
  rintro e w2 ⟨rfl, hb, hrd⟩
  have B2 : Hid (Sr R w1 w2) := hb
  clear hb 
  have HRd2 : Hid (Rd w0 R T z w2) := hrd
  clear hrd HNx
  obtain ⟨w3, hw3⟩ : ∃ w3, w3 = w2.alloc (.cells #[.int .i64 p, .string s] 160) := ⟨_, rfl⟩
  have B3 : Hid (Sr R w2 w3) := by show Sr _ _ _; rw [hw3]; exact Sr.of (al_f _ _)
  have hn3 : w3.heap[w2.heap.size]? = some (.cells #[.int .i64 p, .string s] 160 (0, 0)) := by rw [hw3]; exact nw_at _ _
  have N3 : Hid (R < w2.heap.size) := (Nat.lt_of_lt_of_le HRl.out (B1.out.trans B2.out).size)
  have C3 : Hid (∀ W, Sr R w3 W → W.heap[w2.heap.size]? = some (.cells #[.int .i64 p, .string s] 160 (0, 0))) := fun W h => h.box hn3 (Nat.ne_of_gt N3.out)
  clear hn3
  have HRd3 : Hid (Rd w0 R T z w3) := by show Rd _ _ _ _ _; rw [hw3]; exact HRd2.out.al _
  have hk := C3.out w3 (Sr.refl _ _)
  have c3_0 : w3.cell? ⟨w2.heap.size, 0, none⟩ = some (.int .i64 p) := by rw [Lib.cell_of_heap hk]; rfl
  have c3_1 : w3.cell? ⟨w2.heap.size, 1, none⟩ = some (.string s) := by rw [Lib.cell_of_heap hk]; rfl
  clear hk
  rw [hw3] at c3_0 c3_1
  go_wp2_with fail
  rw [← hw3]
  clear hw3 c3_0 c3_1
  refine (HSm.out _ (H0.out.trans ((B1.out.trans B2.out).trans B3.out))).mono ?_
  rintro e w4 ⟨rfl, hb⟩
  have HRd4 : Hid (Rd w0 R T z w4) := HRd3.out.below hb
  have B4 : Hid (Sr R w3 w4) := Sr.of hb
  clear hb 
  have hk := C3.out w4 B4.out
  have c3_0 : w4.cell? ⟨w2.heap.size, 0, none⟩ = some (.int .i64 p) := by rw [Lib.cell_of_heap hk]; rfl
  have c3_1 : w4.cell? ⟨w2.heap.size, 1, none⟩ = some (.string s) := by rw [Lib.cell_of_heap hk]; rfl
  clear hk
  go_wp2_with fail
  clear c3_0 c3_1
  refine (HFo.out _ (H0.out.trans (((B1.out.trans B2.out).trans B3.out).trans B4.out))).mono ?_
  rintro e w5 ⟨rfl, hb⟩
  have HRd5 : Hid (Rd w0 R T z w5) := HRd4.out.below hb
  have B5 : Hid (Sr R w4 w5) := Sr.of hb
  clear hb
  go_wp2_with fail
  refine (HOp.out _).mono ?_
  rintro e wx ⟨rfl, hwx⟩
  obtain rfl := hwx.symm
  go_wp2_with fail
  refine (HOn.out _ (H0.out.trans ((((B1.out.trans B2.out).trans B3.out).trans B4.out).trans B5.out)) HRd5.out).mono ?_
  rintro e w6 ⟨aa, ca, rfl, hr, hfa, hb, hrd⟩
  have HRw : Hid (IsRow w6 3 (.slice aa RR.1.length ca) RR.1.length (itCells RR.1)) := hr
  have HFa : Hid (∀ d, aa = some d → w.heap.size < d.block) := fun d hd => by
    have h1 := hfa d hd
    have h2 := (((B2.out.trans B3.out).trans B4.out).trans B5.out).size
    have h3 := hx1.out
    omega
  have HRd6 : Hid (Rd w0 R T2 z w6) := hrd
  have B6 : Hid (Sr R w5 w6) := hb
  clear hb hrd hr hfa
  obtain ⟨LL, at_, er⟩ := RR
  dsimp only at *
  have HF2 : Hid (F2 w.heap.size 0 0 w6) := F2.of (C1.out w6 ((((B2.out.trans B3.out).trans B4.out).trans B5.out).trans B6.out))
  obtain ⟨f0, f1, ff, -⟩ := HF2.out
  go_wp2_with fail
  obtain ⟨wz, hwz⟩ : ∃ wz, wz = ((w6.setCell ⟨w.heap.size, 0, none⟩ (.int .i64 at_)).setCell ⟨w.heap.size, 1, none⟩ (.int .i64 er)) := ⟨_, rfl⟩
  have HFz : Hid (F2 w.heap.size at_ er wz) := by show F2 _ _ _ _; rw [hwz]; exact HF2.out.set _ _
  have hne : ∀ d, aa = some d → d.block ≠ w.heap.size := fun d hd => Nat.ne_of_gt (HFa.out d hd)
  have HRwz : Hid (IsRow wz 3 (.slice aa LL.length ca) LL.length (itCells LL)) := by show IsRow _ _ _ _ _; rw [hwz]; exact row_set (row_set HRw.out hne 0 _) hne 1 _
  have HRdz : Hid (Rd w0 R T2 z wz) := by show Rd _ _ _ _ _; rw [hwz]; exact (HRd6.out.set HRl.out 0 _).set HRl.out 1 _
  have HSz : Hid (Sr R w wz) := by show Sr _ _ _; rw [hwz]; exact ((((((B1.out.trans B2.out).trans B3.out).trans B4.out).trans B5.out).trans B6.out).set (.inr (Nat.le_refl _)) 0 _).set (.inr (Nat.le_refl _)) 1 _
  have HE : Hid (∀ wd : World, wd = wz.drew → BnQ w0 R T2 z o (LL, at_, er) w (.returned (.tuple #[.int .i64 o, .slice aa LL.length ca, ftV at_ er])) ((wd.setCell ⟨w.heap.size, 0, none⟩ (.int .i64 at_)).setCell ⟨w.heap.size, 1, none⟩ (.int .i64 er))) := fun wd hd0 => by
    subst hd0
    exact ⟨aa, ca, rfl, row_set (row_set (show IsRow wz.drew _ _ _ _ from HRwz.out) hne 0 _) hne 1 _, fun d hd => Nat.le_of_lt (HFa.out d hd), (HSz.out.drew.set (.inr (Nat.le_refl _)) 0 _).set (.inr (Nat.le_refl _)) 1 _, ((show Rd w0 R T2 z wz.drew from HRdz.out).set HRl.out 0 _).set HRl.out 1 _⟩
  rw [← hwz]
  clear hwz hne f0 f1 ff
  obtain ⟨wd, hwd⟩ : ∃ wd, wd = wz.drew := ⟨_, rfl⟩
  have HFd : Hid (F2 w.heap.size at_ er wd) := by show F2 _ _ _ _; rw [hwd]; exact HFz.out
  have HE2 := HE.out wd hwd
  have HE3 : Hid _ := HE2
  clear HE HE2
  refine wp_region_held_drew (S := fun W' : World => F2 w.heap.size at_ er W') (by kernel_rfl) (by rw [← hwd]; exact HFd.out) (fun hHeld => ?_)
  rw [← hwd]
  rw [← hwd] at hHeld
  clear hwd
  refine wpAnyH_take (i := 0) (v := ?_) rfl (by kernel_rfl) (by kernel_rfl) (by kernel_rfl) (fun _ _ _ h => h) (Or.inl ⟨by rfl, ?_⟩) hHeld ?_
  rotate_left 1
  · intro w9 hSw; obtain ⟨s0, s1, s2, s3⟩ := hSw; go_simp; try with_reducible rfl
  change wpAnyH _ _ _ _ _ _ _ (Act.put _ (some 44) _) _
  simp only [Act.put, List.setIfInBounds_toArray, List.set_cons_zero, List.set_cons_succ]
  refine wpAnyH_take (i := 1) (v := ?_) rfl (by kernel_rfl) (by kernel_rfl) (by kernel_rfl) (fun _ _ _ h => h) (Or.inl ⟨by rfl, ?_⟩) hHeld ?_
  rotate_left 1
  · intro w9 hSw; obtain ⟨s0, s1, s2, s3⟩ := hSw; go_simp; try with_reducible rfl
  change wpAnyH _ _ _ _ _ _ _ (Act.put _ (some 45) _) _
  simp only [Act.put, List.setIfInBounds_toArray, List.set_cons_zero, List.set_cons_succ]
  refine wpAnyH_take (i := 2) (v := ?_) rfl (by kernel_rfl) (by kernel_rfl) (by kernel_rfl) (fun _ _ _ h => h) (Or.inl ⟨by rfl, ?_⟩) hHeld ?_
  rotate_left 1
  · intro w9 hSw; obtain ⟨s0, s1, s2, s3⟩ := hSw; go_simp; try with_reducible rfl
  change wpAnyH _ _ _ _ _ _ _ (Act.put _ (some 46) _) _
  simp only [Act.put, List.setIfInBounds_toArray, List.set_cons_zero, List.set_cons_succ]
  refine wpAnyH_take (i := 3) (v := ?_) rfl (by kernel_rfl) (by kernel_rfl) (by kernel_rfl) (fun _ _ _ h => h) (Or.inl ⟨by rfl, ?_⟩) hHeld ?_
  rotate_left 1
  · intro w9 hSw; obtain ⟨s0, s1, s2, s3⟩ := hSw; go_simp; try with_reducible rfl
  change wpAnyH _ _ _ _ _ _ _ (Act.put _ (some 2) _) _
  simp only [Act.put, List.setIfInBounds_toArray, List.set_cons_zero, List.set_cons_succ]
  refine wpAnyH_take (i := 4) (v := ?_) rfl (by kernel_rfl) (by kernel_rfl) (by kernel_rfl) (fun _ _ _ h => h) (Or.inl ⟨by rfl, ?_⟩) hHeld ?_
  rotate_left 1
  · intro w9 hSw; obtain ⟨s0, s1, s2, s3⟩ := hSw; go_simp; try with_reducible rfl
  change wpAnyH _ _ _ _ _ _ _ (Act.put _ (some 3) _) _
  simp only [Act.put, List.setIfInBounds_toArray, List.set_cons_zero, List.set_cons_succ]
  obtain ⟨f0, f1, ff, -⟩ := HFd.out
  refine wpAnyH_ready (rs := [5]) (by kernel_rfl) (by simp) ?_
  refine AllReadyH.cons rfl (fun K hK => ?_) AllReadyH.nil
  go_simp
  refine hK.out _ _ (F2.set HFd.out _ _) (fun hHeld => ?_)
  clear hK K
  refine wpAnyH_done (by kernel_rfl) ?_ _
  clear hHeld f0 f1 ff
  have HF3 : Hid (F2 w.heap.size at_ er ((wd.setCell ⟨w.heap.size, 0, none⟩ (.int .i64 at_)).setCell ⟨w.heap.size, 1, none⟩ (.int .i64 er))) := F2.set HFd.out _ _
  generalize ((wd.setCell ⟨w.heap.size, 0, none⟩ (.int .i64 at_)).setCell ⟨w.heap.size, 1, none⟩ (.int .i64 er)) = we at *
  obtain ⟨f0, f1, -, -⟩ := HF3.out
  go_wp2
  refine bodyPost_ret (v := .tuple #[.int .i64 o, .slice aa LL.length ca, ftV at_ er]) ?_ rfl HE3.out
  rw [results_ttc rfl]; go_simp
set_option maxRecDepth 100000 in
set_option maxHeartbeats 4000000 in
theorem behind_in (w0 : World) (R : Nat) (l : List Ft) (z : Int) (w : World) (h0 : Sr R w0 w) (h : Rd w0 R l z w) (hR : R < w0.heap.size) (hl : l.length ≤ 1000000) (p : Int) (s : ByteArray) (hp : pcF l z = .word p s) (hs : s.size ≤ 1000000) (hn : sameL s.data.toList (⟨#[105, 110]⟩ : ByteArray).data.toList = true) (D : List It) (T : List Ft) (hS : ∀ W, Sr R w0 W → Rd w0 R l.tail z W → Calls Tryz.prog 137 #[.pointer (some ⟨R, 0, none⟩)] W fun e w' => SetQ w0 R T z D W e w') (hT : ∀ W, Sr R w0 W → FW W) :
    Calls Tryz.prog 108 #[.pointer (some ⟨R, 0, none⟩)] w fun e w' => BnQ w0 R T z 9 (D, 0, 0) w e w' := by
  have HRl : Hid (R < w.heap.size) := Nat.lt_of_lt_of_le hR h0.size
  have HR0' : Hid (R < w0.heap.size) := hR
  have tl : l.tail.length ≤ l.length := by simp
  have HNx : Hid (∀ W, Sr R w0 W → Rd w0 R l z W → Calls Tryz.prog 71 #[.pointer (some ⟨R, 0, none⟩)] W fun e w' => e = .returned (.iface 160 (.agg #[.int .i64 p, .string s])) ∧ Sr R W w' ∧ Rd w0 R l.tail z w') := fun W a b => by
    have := next_any w0 R l z W a b hl
    unfold NxP at this
    rw [hp] at this
    exact this
  have HS : Hid (∀ W, Sr R w0 W → Rd w0 R l.tail z W → Calls Tryz.prog 137 #[.pointer (some ⟨R, 0, none⟩)] W fun e w' => SetQ w0 R T z D W e w') := hS
  have HSm : Hid (∀ W, Sr R w0 W → Calls Tryz.prog 43 #[.string s, .string ⟨#[105, 110]⟩] W fun e w' => e = .returned (.bool true) ∧ Below W.heap.size W w') := fun W a => by
    have := same_any s ⟨#[105, 110]⟩ W hs (by decide) (hT W a).u
    rw [hn] at this
    exact this
  have ha := ta_word_word p s
  have H0 : Hid (Sr R w0 w) := h0
  have HR0 : Hid (Rd w0 R l z w) := h
  clear h0 h hl hR tl hp hs hn hS hT
  generalize l.tail = T1 at *
  obtain ⟨w1, hw1⟩ : ∃ w1, w1 = w.alloc (.cells #[.int .i64 0, .int .i64 0] 90) := ⟨_, rfl⟩
  have B1 : Hid (Sr R w w1) := by show Sr _ _ _; rw [hw1]; exact Sr.of (al_f _ _)
  have hn1 : w1.heap[w.heap.size]? = some (.cells #[.int .i64 0, .int .i64 0] 90 (0, 0)) := by rw [hw1]; exact nw_at _ _
  have N1 : Hid (R < w.heap.size) := HRl.out
  have C1 : Hid (∀ W, Sr R w1 W → W.heap[w.heap.size]? = some (.cells #[.int .i64 0, .int .i64 0] 90 (0, 0))) := fun W h => h.box hn1 (Nat.ne_of_gt N1.out)
  clear hn1
  have HR1 : Hid (Rd w0 R l z w1) := by show Rd _ _ _ _ _; rw [hw1]; exact HR0.out.al _
  have hx1 : Hid (w1.heap.size = w.heap.size + 1) := by show _ = _; rw [hw1]; simp
  go_enter Tryz.func108, Tryz.ntmps108
  go_wp2_with fail
  rw [← hw1]
  clear hw1
  refine (HNx.out _ (H0.out.trans B1.out) HR1.out).mono ?_
  rintro e w2 ⟨rfl, hb, hrd⟩
  have B2 : Hid (Sr R w1 w2) := hb
  clear hb 
  have HRd2 : Hid (Rd w0 R T1 z w2) := hrd
  clear hrd HNx
  obtain ⟨w3, hw3⟩ : ∃ w3, w3 = w2.alloc (.cells #[.int .i64 p, .string s] 160) := ⟨_, rfl⟩
  have B3 : Hid (Sr R w2 w3) := by show Sr _ _ _; rw [hw3]; exact Sr.of (al_f _ _)
  have hn3 : w3.heap[w2.heap.size]? = some (.cells #[.int .i64 p, .string s] 160 (0, 0)) := by rw [hw3]; exact nw_at _ _
  have N3 : Hid (R < w2.heap.size) := (Nat.lt_of_lt_of_le HRl.out (B1.out.trans B2.out).size)
  have C3 : Hid (∀ W, Sr R w3 W → W.heap[w2.heap.size]? = some (.cells #[.int .i64 p, .string s] 160 (0, 0))) := fun W h => h.box hn3 (Nat.ne_of_gt N3.out)
  clear hn3
  have HRd3 : Hid (Rd w0 R T1 z w3) := by show Rd _ _ _ _ _; rw [hw3]; exact HRd2.out.al _
  have hk := C3.out w3 (Sr.refl _ _)
  have c3_0 : w3.cell? ⟨w2.heap.size, 0, none⟩ = some (.int .i64 p) := by rw [Lib.cell_of_heap hk]; rfl
  have c3_1 : w3.cell? ⟨w2.heap.size, 1, none⟩ = some (.string s) := by rw [Lib.cell_of_heap hk]; rfl
  clear hk
  rw [hw3] at c3_0 c3_1
  go_wp2_with fail
  rw [← hw3]
  clear hw3 c3_0 c3_1
  refine (HSm.out _ (H0.out.trans ((B1.out.trans B2.out).trans B3.out))).mono ?_
  rintro e w4 ⟨rfl, hb⟩
  have HRd4 : Hid (Rd w0 R T1 z w4) := HRd3.out.below hb
  have B4 : Hid (Sr R w3 w4) := Sr.of hb
  clear hb 
  go_wp2_with fail
  refine (HS.out _ (H0.out.trans (((B1.out.trans B2.out).trans B3.out).trans B4.out)) HRd4.out).mono ?_
  rintro e w5 ⟨aa, ca, rfl, hr, hfa, hb, hrd⟩
  have HRw : Hid (IsRow w5 3 (.slice aa D.length ca) D.length (itCells D)) := hr
  have HFa : Hid (∀ d, aa = some d → w.heap.size < d.block) := fun d hd => by
    have h1 := hfa d hd
    have h2 := ((B2.out.trans B3.out).trans B4.out).size
    have h3 := hx1.out
    omega
  have HRd5 : Hid (Rd w0 R T z w5) := hrd
  have B5 : Hid (Sr R w4 w5) := hb
  clear hb hrd hr hfa
  have HF2 : Hid (F2 w.heap.size 0 0 w5) := F2.of (C1.out w5 (((B2.out.trans B3.out).trans B4.out).trans B5.out))
  obtain ⟨f0, f1, ff, -⟩ := HF2.out
  go_wp2_with fail
  obtain ⟨wz, hwz⟩ : ∃ wz, wz = ((w5.setCell ⟨w.heap.size, 0, none⟩ (.int .i64 0)).setCell ⟨w.heap.size, 1, none⟩ (.int .i64 0)) := ⟨_, rfl⟩
  have HFz : Hid (F2 w.heap.size 0 0 wz) := by show F2 _ _ _ _; rw [hwz]; exact HF2.out.set _ _
  have hne : ∀ d, aa = some d → d.block ≠ w.heap.size := fun d hd => Nat.ne_of_gt (HFa.out d hd)
  have HRwz : Hid (IsRow wz 3 (.slice aa D.length ca) D.length (itCells D)) := by show IsRow _ _ _ _ _; rw [hwz]; exact row_set (row_set HRw.out hne 0 _) hne 1 _
  have HRdz : Hid (Rd w0 R T z wz) := by show Rd _ _ _ _ _; rw [hwz]; exact (HRd5.out.set HRl.out 0 _).set HRl.out 1 _
  have HSz : Hid (Sr R w wz) := by show Sr _ _ _; rw [hwz]; exact (((((B1.out.trans B2.out).trans B3.out).trans B4.out).trans B5.out).set (.inr (Nat.le_refl _)) 0 _).set (.inr (Nat.le_refl _)) 1 _
  have HE : Hid (∀ wd : World, wd = wz.drew → BnQ w0 R T z 9 (D, 0, 0) w (.returned (.tuple #[.int .i64 9, .slice aa D.length ca, ftV 0 0])) ((wd.setCell ⟨w.heap.size, 0, none⟩ (.int .i64 0)).setCell ⟨w.heap.size, 1, none⟩ (.int .i64 0))) := fun wd hd0 => by
    subst hd0
    exact ⟨aa, ca, rfl, row_set (row_set (show IsRow wz.drew _ _ _ _ from HRwz.out) hne 0 _) hne 1 _, fun d hd => Nat.le_of_lt (HFa.out d hd), (HSz.out.drew.set (.inr (Nat.le_refl _)) 0 _).set (.inr (Nat.le_refl _)) 1 _, ((show Rd w0 R T z wz.drew from HRdz.out).set HRl.out 0 _).set HRl.out 1 _⟩
  rw [← hwz]
  clear hwz hne f0 f1 ff
  obtain ⟨wd, hwd⟩ : ∃ wd, wd = wz.drew := ⟨_, rfl⟩
  have HFd : Hid (F2 w.heap.size 0 0 wd) := by show F2 _ _ _ _; rw [hwd]; exact HFz.out
  have HE2 := HE.out wd hwd
  have HE3 : Hid _ := HE2
  clear HE HE2
  refine wp_region_held_drew (S := fun W' : World => F2 w.heap.size 0 0 W') (by kernel_rfl) (by rw [← hwd]; exact HFd.out) (fun hHeld => ?_)
  rw [← hwd]
  rw [← hwd] at hHeld
  clear hwd
  refine wpAnyH_take (i := 0) (v := ?_) rfl (by kernel_rfl) (by kernel_rfl) (by kernel_rfl) (fun _ _ _ h => h) (Or.inl ⟨by rfl, ?_⟩) hHeld ?_
  rotate_left 1
  · intro w9 hSw; obtain ⟨s0, s1, s2, s3⟩ := hSw; go_simp; try with_reducible rfl
  change wpAnyH _ _ _ _ _ _ _ (Act.put _ (some 22) _) _
  simp only [Act.put, List.setIfInBounds_toArray, List.set_cons_zero, List.set_cons_succ]
  refine wpAnyH_take (i := 1) (v := ?_) rfl (by kernel_rfl) (by kernel_rfl) (by kernel_rfl) (fun _ _ _ h => h) (Or.inl ⟨by rfl, ?_⟩) hHeld ?_
  rotate_left 1
  · intro w9 hSw; obtain ⟨s0, s1, s2, s3⟩ := hSw; go_simp; try with_reducible rfl
  change wpAnyH _ _ _ _ _ _ _ (Act.put _ (some 23) _) _
  simp only [Act.put, List.setIfInBounds_toArray, List.set_cons_zero, List.set_cons_succ]
  refine wpAnyH_take (i := 2) (v := ?_) rfl (by kernel_rfl) (by kernel_rfl) (by kernel_rfl) (fun _ _ _ h => h) (Or.inl ⟨by rfl, ?_⟩) hHeld ?_
  rotate_left 1
  · intro w9 hSw; obtain ⟨s0, s1, s2, s3⟩ := hSw; go_simp; try with_reducible rfl
  change wpAnyH _ _ _ _ _ _ _ (Act.put _ (some 2) _) _
  simp only [Act.put, List.setIfInBounds_toArray, List.set_cons_zero, List.set_cons_succ]
  refine wpAnyH_take (i := 3) (v := ?_) rfl (by kernel_rfl) (by kernel_rfl) (by kernel_rfl) (fun _ _ _ h => h) (Or.inl ⟨by rfl, ?_⟩) hHeld ?_
  rotate_left 1
  · intro w9 hSw; obtain ⟨s0, s1, s2, s3⟩ := hSw; go_simp; try with_reducible rfl
  change wpAnyH _ _ _ _ _ _ _ (Act.put _ (some 3) _) _
  simp only [Act.put, List.setIfInBounds_toArray, List.set_cons_zero, List.set_cons_succ]
  obtain ⟨f0, f1, ff, -⟩ := HFd.out
  refine wpAnyH_ready (rs := [4]) (by kernel_rfl) (by simp) ?_
  refine AllReadyH.cons rfl (fun K hK => ?_) AllReadyH.nil
  go_simp
  refine hK.out _ _ (F2.set HFd.out _ _) (fun hHeld => ?_)
  clear hK K
  refine wpAnyH_done (by kernel_rfl) ?_ _
  clear hHeld f0 f1 ff
  have HF3 : Hid (F2 w.heap.size 0 0 ((wd.setCell ⟨w.heap.size, 0, none⟩ (.int .i64 0)).setCell ⟨w.heap.size, 1, none⟩ (.int .i64 0))) := F2.set HFd.out _ _
  generalize ((wd.setCell ⟨w.heap.size, 0, none⟩ (.int .i64 0)).setCell ⟨w.heap.size, 1, none⟩ (.int .i64 0)) = we at *
  obtain ⟨f0, f1, -, -⟩ := HF3.out
  go_wp2
  refine bodyPost_ret (v := .tuple #[.int .i64 9, .slice aa D.length ca, ftV 0 0]) ?_ rfl HE3.out
  rw [results_ttc rfl]; go_simp
end Go.Proofs.YtbekpemidpngaaaGreatDoor
