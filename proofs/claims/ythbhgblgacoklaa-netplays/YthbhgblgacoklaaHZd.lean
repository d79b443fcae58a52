/- The law's do on an empty reference, for acts that are none of Send, Take and Twice: its walk. -/
import Derived.Test.YthbhgblgacoklaaHZc
import Derived.Deep.RegionHeld3
namespace Go.Proofs.Ythbhgblgacoklaa
open Go.RowKit

abbrev nB (v u : Value) : Obj := .cells #[v, u] 28
/-- What stays of the boxes. -/
abbrev SDo (b5 b14 b4 : Nat) (x : Ac) (v u : Value) (w : World) : Prop := w.heap[b5]? = some (acB x) ∧ w.heap[b14]? = some (nB v u) ∧ w.heap[b4]? = some nlB
theorem NQ.trio {w W : World} {R : Nat → List Pk} {A : Nat → Bool} {g b5 b14 b4 : Nat} {o q : Nat × Obj} {x : Ac} {v u : Value} {K : List (Nat × Obj)} (h : NQ w R A g (q :: (b14, nB v u) :: (b5, acB x) :: (b4, nlB) :: o :: K) W) : SDo b5 b14 b4 x v u W := ⟨h.blk (b5, acB x) (by simp), h.blk (b14, nB v u) (by simp), h.blk (b4, nlB) (by simp)⟩
abbrev SDc (b5 b14 b4 : Nat) (x : Ac) (v u : Value) (w : World) : Prop := w.cell? ⟨b5, 8, none⟩ = some (.int .i64 x.f) ∧ w.cell? ⟨b5, 9, none⟩ = some (.int .i64 x.t) ∧ w.cell? ⟨b5, 10, none⟩ = some (.int .i64 x.i) ∧ w.cell? ⟨b5, 11, none⟩ = some (.bool x.on) ∧ w.cell? ⟨b14, 0, none⟩ = some v ∧ w.cell? ⟨b14, 1, none⟩ = some u ∧ w.cell? ⟨b4, 0, none⟩ = some (.slice none 0 0)
theorem SDc_of {b5 b14 b4 : Nat} {x : Ac} {v u : Value} {w : World} (h : SDo b5 b14 b4 x v u w) : SDc b5 b14 b4 x v u w := by
  obtain ⟨t0, t1, t2, t3, t4, t5, t6, t7, t8, t9, t10, t11, -⟩ := ac_at h.1
  obtain ⟨r0, r1, -, -⟩ := two_at h.2.1
  obtain ⟨r2, -, -, -⟩ := two_at h.2.2
  exact ⟨t8, t9, t10, t11, r0, r1, r2⟩
theorem SDc_drew {b5 b14 b4 : Nat} {x : Ac} {v u : Value} {w : World} (h : SDc b5 b14 b4 x v u w) : SDc b5 b14 b4 x v u w.drew := h
/-- The result's box is written. -/
theorem NQ.res {w W : World} {R : Nat → List Pk} {A : Nat → Bool} {g b6 : Nat} {K : List (Nat × Obj)} (h : NQ w R A g ((b6, nlB) :: K) W) (v u : Value) : NQ w R A g ((b6, nB v u) :: K) ((W.setCell ⟨b6, 0, none⟩ v).setCell ⟨b6, 1, none⟩ u) := by
  have := (h.set 0 v).set 1 u
  simpa using this
set_option maxRecDepth 100000 in
set_option maxHeartbeats 4000000 in
theorem do2_any {w W : World} {R : Nat → List Pk} {A : Nat → Bool} {g : Nat} {K : List (Nat × Obj)} (h : NQ w R A g K W) (hc : cntN R 256 ≤ 1000) (p : Pk) (f t i : Int) (on : Bool) :
    Calls Try.prog 10 #[nP g, nlV, acV ⟨2, p, f, t, i, on⟩] W fun e w' => DoP w g K (loseR R f t i) A e w' := by
  have HM : Hid (NQ w R A g ((W.heap.size + 1 + 1, nlB) :: (W.heap.size + 1, acB ⟨2, p, f, t, i, on⟩) :: (W.heap.size, nlB) :: (W.heap.size + 1 + 1 + 1, .cells #[.int .i64 f, .int .i64 t] 40) :: K) (doW W ⟨2, p, f, t, i, on⟩)) := h.boxes _
  have HRf : Hid (∀ w, Calls Try.prog 29 #[nlV, hV f t, .int .i64 i] w fun e w' => e = .returned (.tuple #[nlV, .int .i64 (thI [] f t i)]) ∧ Below w.heap.size w w') := refLose_nil f t i
  have HCl : Hid (∀ K' W', NQ w R A g K' W' → Calls Try.prog 24 #[nP g, hV f t, .int .i64 i] W' fun e w' => e = .returned (.int .i64 (lookI R f t i)) ∧ NQ w (loseR R f t i) A g K' w') := fun K' W' h' => h'.call fun V hv => lose_any f t i hv hc
  obtain ⟨p0, p1, p2, p3, p4, p5, p6⟩ := p
  clear h
  dsimp only [doW, acB, acA, acV] at *
  go_enter Try.func10, Try.ntmps10
  go_wp2_with fail
  refine (HRf.out _).mono ?_
  rintro e w1 ⟨rfl, hb1⟩
  have M1 := HM.out.below hb1
  have M2 := (M1.alloc (nB (.slice none 0 0) (.slice none 0 0))).perm (List.Perm.swap _ _ _)
  have hS : SDc (W.heap.size + 1) w1.heap.size W.heap.size ⟨2, ⟨p0, p1, p2, p3, p4, p5, p6⟩, f, t, i, on⟩ (.slice none 0 0) (.slice none 0 0) (w1.alloc (nB (.slice none 0 0) (.slice none 0 0))) := SDc_of (NQ.trio M2)
  have HM3 : Hid (NQ w R A g ((W.heap.size + 1 + 1, nlB) :: (w1.heap.size, nB (.slice none 0 0) (.slice none 0 0)) :: (W.heap.size + 1, acB ⟨2, ⟨p0, p1, p2, p3, p4, p5, p6⟩, f, t, i, on⟩) :: (W.heap.size, nlB) :: (W.heap.size + 1 + 1 + 1, .cells #[.int .i64 f, .int .i64 t] 40) :: K) (w1.alloc (nB (.slice none 0 0) (.slice none 0 0))).drew) := M2.below (below_drw _)
  clear M1 M2 hb1 HM HRf

  go_wp2_with fail
  generalize w1.alloc (nB (.slice none 0 0) (.slice none 0 0)) = W3 at *
  generalize w1.heap.size = b14 at *
  go_region_held3 (fun w' => SDc (W.heap.size + 1) b14 W.heap.size ⟨2, ⟨p0, p1, p2, p3, p4, p5, p6⟩, f, t, i, on⟩ (.slice none 0 0) (.slice none 0 0) w')
    (first | with_reducible assumption | with_reducible exact SDc_of (NQ.trio (by with_reducible assumption)) | with_reducible exact SDc_of (NQ.trio (NQ.res (by with_reducible assumption) _ _)) | with_reducible exact SDc_drew (by with_reducible assumption))
    ((go_at_call 24; refine (HCl.out _ _ HM3.out).mono ?_; rintro e w5 ⟨rfl, M5⟩; obtain ⟨z0, z1, z2, z3⟩ := two_at (M5.blk (W.heap.size + 1 + 1, nlB) (List.mem_cons_self ..))))
  have M6 := NQ.res M5 (.slice none 0 0) (.slice none 0 0)
  have HF : Hid (NQ w (loseR R f t i) A g K ((w5.setCell ⟨W.heap.size + 1 + 1, 0, none⟩ (.slice none 0 0)).setCell ⟨W.heap.size + 1 + 1, 1, none⟩ (.slice none 0 0))) := M6.sub (by repeat (first | exact List.Sublist.refl _ | refine List.Sublist.cons _ ?_))
  obtain ⟨y0, y1, y2, y3⟩ := two_at (M6.blk (W.heap.size + 1 + 1, nB (.slice none 0 0) (.slice none 0 0)) (List.mem_cons_self ..))
  rename_i hH9
  clear hH9 M5 M6 hS HM3 z0 z1 z2 z3
  generalize (w5.setCell ⟨W.heap.size + 1 + 1, 0, none⟩ (.slice none 0 0)).setCell ⟨W.heap.size + 1 + 1, 1, none⟩ (.slice none 0 0) = Z at *
  go_wp2_with fail
  try simp only [Exit.inBlock, Exit.then]
  refine bodyPost_ret (v := .tuple #[.agg #[(.slice none 0 0), (.slice none 0 0)], .bool (lookI R f t i == thI [] f t i)]) ?_ rfl ⟨_, rfl, HF.out⟩
  rw [results_cs rfl]; go_simp
set_option maxRecDepth 100000 in
set_option maxHeartbeats 4000000 in
theorem do4_any {w W : World} {R : Nat → List Pk} {A : Nat → Bool} {g : Nat} {K : List (Nat × Obj)} (h : NQ w R A g K W) (p : Pk) (f t i : Int) (on : Bool) :
    Calls Try.prog 10 #[nP g, nlV, acV ⟨4, p, f, t, i, on⟩] W fun e w' => DoP w g K R (apartA A f t on) e w' := by
  have HM : Hid (NQ w R A g ((W.heap.size + 1 + 1, nlB) :: (W.heap.size + 1, acB ⟨4, p, f, t, i, on⟩) :: (W.heap.size, nlB) :: (W.heap.size + 1 + 1 + 1, .cells #[.int .i64 f, .int .i64 t] 40) :: K) (doW W ⟨4, p, f, t, i, on⟩)) := h.boxes _
  have HRf : Hid (∀ w, Calls Try.prog 31 #[nlV, hV f t, .bool on] w fun e w' => PtPost (prtR [] f t on) (.slice none 0 0) (.slice none 0 0) w e w') := fun w => part_any none 0 0 (.slice none 0 0) [] f t on w (IsRow.nil _ _) (by simp)
  have HCl : Hid (∀ K' W', NQ w R A g K' W' → Calls Try.prog 25 #[nP g, .int .i64 f, .int .i64 t, .bool on] W' fun e w' => e = .returned (.int .i64 (apartE f t)) ∧ NQ w R (apartA A f t on) g K' w') := fun K' W' h' => h'.call fun V hv => apart_any f t on hv
  obtain ⟨p0, p1, p2, p3, p4, p5, p6⟩ := p
  clear h
  dsimp only [doW, acB, acA, acV] at *
  go_enter Try.func10, Try.ntmps10
  go_wp2_with fail
  refine (HRf.out _).mono ?_
  rintro e w1 ⟨u, rfl, hur, hb1, -⟩
  obtain ⟨ua, uc, rfl⟩ := hur.form
  clear hur
  generalize (prtR [] f t on).1.length = un at *
  generalize (prtR [] f t on).2 = pe at *
  have M1 := HM.out.below hb1
  have M2 := (M1.alloc (nB (.slice none 0 0) (.slice ua un uc))).perm (List.Perm.swap _ _ _)
  have hS : SDc (W.heap.size + 1) w1.heap.size W.heap.size ⟨4, ⟨p0, p1, p2, p3, p4, p5, p6⟩, f, t, i, on⟩ (.slice none 0 0) (.slice ua un uc) (w1.alloc (nB (.slice none 0 0) (.slice ua un uc))) := SDc_of (NQ.trio M2)
  have HM3 : Hid (NQ w R A g ((W.heap.size + 1 + 1, nlB) :: (w1.heap.size, nB (.slice none 0 0) (.slice ua un uc)) :: (W.heap.size + 1, acB ⟨4, ⟨p0, p1, p2, p3, p4, p5, p6⟩, f, t, i, on⟩) :: (W.heap.size, nlB) :: (W.heap.size + 1 + 1 + 1, .cells #[.int .i64 f, .int .i64 t] 40) :: K) (w1.alloc (nB (.slice none 0 0) (.slice ua un uc))).drew) := M2.below (below_drw _)
  clear M1 M2 hb1 HM HRf

  go_wp2_with fail
  generalize w1.alloc (nB (.slice none 0 0) (.slice ua un uc)) = W3 at *
  generalize w1.heap.size = b14 at *
  go_region_held3 (fun w' => SDc (W.heap.size + 1) b14 W.heap.size ⟨4, ⟨p0, p1, p2, p3, p4, p5, p6⟩, f, t, i, on⟩ (.slice none 0 0) (.slice ua un uc) w')
    (first | with_reducible assumption | with_reducible exact SDc_of (NQ.trio (by with_reducible assumption)) | with_reducible exact SDc_of (NQ.trio (NQ.res (by with_reducible assumption) _ _)) | with_reducible exact SDc_drew (by with_reducible assumption))
    ((go_at_call 25; refine (HCl.out _ _ HM3.out).mono ?_; rintro e w5 ⟨rfl, M5⟩; obtain ⟨z0, z1, z2, z3⟩ := two_at (M5.blk (W.heap.size + 1 + 1, nlB) (List.mem_cons_self ..))))
  have M6 := NQ.res M5 (.slice none 0 0) (.slice ua un uc)
  have HF : Hid (NQ w R (apartA A f t on) g K ((w5.setCell ⟨W.heap.size + 1 + 1, 0, none⟩ (.slice none 0 0)).setCell ⟨W.heap.size + 1 + 1, 1, none⟩ (.slice ua un uc))) := M6.sub (by repeat (first | exact List.Sublist.refl _ | refine List.Sublist.cons _ ?_))
  obtain ⟨y0, y1, y2, y3⟩ := two_at (M6.blk (W.heap.size + 1 + 1, nB (.slice none 0 0) (.slice ua un uc)) (List.mem_cons_self ..))
  rename_i hH9
  clear hH9 M5 M6 hS HM3 z0 z1 z2 z3
  generalize (w5.setCell ⟨W.heap.size + 1 + 1, 0, none⟩ (.slice none 0 0)).setCell ⟨W.heap.size + 1 + 1, 1, none⟩ (.slice ua un uc) = Z at *
  go_wp2_with fail
  try simp only [Exit.inBlock, Exit.then]
  refine bodyPost_ret (v := .tuple #[.agg #[(.slice none 0 0), (.slice ua un uc)], .bool (apartE f t == pe)]) ?_ rfl ⟨_, rfl, HF.out⟩
  rw [results_cs rfl]; go_simp
set_option maxRecDepth 100000 in
set_option maxHeartbeats 4000000 in
theorem do5_any {w W : World} {R : Nat → List Pk} {A : Nat → Bool} {g : Nat} {K : List (Nat × Obj)} (h : NQ w R A g K W) (hc : cntN R 256 ≤ 1000) (hW : WFr R) (p : Pk) (f t i : Int) (on : Bool) :
    Calls Try.prog 10 #[nP g, nlV, acV ⟨5, p, f, t, i, on⟩] W fun e w' => DoP w g K (clrR R i) A e w' := by
  have HM : Hid (NQ w R A g ((W.heap.size + 1 + 1, nlB) :: (W.heap.size + 1, acB ⟨5, p, f, t, i, on⟩) :: (W.heap.size, nlB) :: (W.heap.size + 1 + 1 + 1, .cells #[.int .i64 f, .int .i64 t] 40) :: K) (doW W ⟨5, p, f, t, i, on⟩)) := h.boxes _
  have HRf : Hid (∀ w, Calls Try.prog 32 #[nlV, .int .i64 i] w fun e w' => NtPost (flt [] (clP [] i) 0) (.slice none 0 0) w e w') := fun w => clear_ref (.slice none 0 0) none 0 0 [] i w (IsRow.nil _ _) (by simp)
  have HCl : Hid (∀ K' W', NQ w R A g K' W' → Calls Try.prog 22 #[nP g, .int .i64 i] W' fun e w' => ∃ n : Int, e = .returned (.int .i64 n) ∧ NQ w (clrR R i) A g K' w' ∧ cntN (clrR R i) 256 ≤ cntN R 256) := fun K' W' h' => h'.clear hc hW i
  obtain ⟨p0, p1, p2, p3, p4, p5, p6⟩ := p
  clear h
  dsimp only [doW, acB, acA, acV] at *
  go_enter Try.func10, Try.ntmps10
  go_wp2_with fail
  refine (HRf.out _).mono ?_
  rintro e w1 ⟨v, rfl, hvr, hb1, -⟩
  obtain ⟨va, vc, rfl⟩ := hvr.form
  clear hvr
  have e00 : (flt [] (clP [] i) 0).length = 0 := rfl
  rw [e00] at *
  clear e00
  have M1 := HM.out.below hb1
  have M2 := (M1.alloc (nB (.slice va 0 vc) (.slice none 0 0))).perm (List.Perm.swap _ _ _)
  have hS : SDc (W.heap.size + 1) w1.heap.size W.heap.size ⟨5, ⟨p0, p1, p2, p3, p4, p5, p6⟩, f, t, i, on⟩ (.slice va 0 vc) (.slice none 0 0) (w1.alloc (nB (.slice va 0 vc) (.slice none 0 0))) := SDc_of (NQ.trio M2)
  have HM3 : Hid (NQ w R A g ((W.heap.size + 1 + 1, nlB) :: (w1.heap.size, nB (.slice va 0 vc) (.slice none 0 0)) :: (W.heap.size + 1, acB ⟨5, ⟨p0, p1, p2, p3, p4, p5, p6⟩, f, t, i, on⟩) :: (W.heap.size, nlB) :: (W.heap.size + 1 + 1 + 1, .cells #[.int .i64 f, .int .i64 t] 40) :: K) (w1.alloc (nB (.slice va 0 vc) (.slice none 0 0))).drew) := M2.below (below_drw _)
  clear M1 M2 hb1 HM HRf

  go_wp2_with fail
  generalize w1.alloc (nB (.slice va 0 vc) (.slice none 0 0)) = W3 at *
  generalize w1.heap.size = b14 at *
  go_region_held3 (fun w' => SDc (W.heap.size + 1) b14 W.heap.size ⟨5, ⟨p0, p1, p2, p3, p4, p5, p6⟩, f, t, i, on⟩ (.slice va 0 vc) (.slice none 0 0) w')
    (first | with_reducible assumption | with_reducible exact SDc_of (NQ.trio (by with_reducible assumption)) | with_reducible exact SDc_of (NQ.trio (NQ.res (by with_reducible assumption) _ _)) | with_reducible exact SDc_drew (by with_reducible assumption))
    ((go_at_call 22; refine (HCl.out _ _ HM3.out).mono ?_; rintro e w5 ⟨cn, rfl, M5, -⟩; obtain ⟨z0, z1, z2, z3⟩ := two_at (M5.blk (W.heap.size + 1 + 1, nlB) (List.mem_cons_self ..))))
  have M6 := NQ.res M5 (.slice va 0 vc) (.slice none 0 0)
  have HF : Hid (NQ w (clrR R i) A g K ((w5.setCell ⟨W.heap.size + 1 + 1, 0, none⟩ (.slice va 0 vc)).setCell ⟨W.heap.size + 1 + 1, 1, none⟩ (.slice none 0 0))) := M6.sub (by repeat (first | exact List.Sublist.refl _ | refine List.Sublist.cons _ ?_))
  obtain ⟨y0, y1, y2, y3⟩ := two_at (M6.blk (W.heap.size + 1 + 1, nB (.slice va 0 vc) (.slice none 0 0)) (List.mem_cons_self ..))
  rename_i hH9
  clear hH9 M5 M6 hS HM3 z0 z1 z2 z3
  generalize (w5.setCell ⟨W.heap.size + 1 + 1, 0, none⟩ (.slice va 0 vc)).setCell ⟨W.heap.size + 1 + 1, 1, none⟩ (.slice none 0 0) = Z at *
  go_wp2_with fail
  try simp only [Exit.inBlock, Exit.then]
  refine bodyPost_ret (v := .tuple #[.agg #[(.slice va 0 vc), (.slice none 0 0)], .bool (cn == IntKind.i64.wrap 0)]) ?_ rfl ⟨_, rfl, HF.out⟩
  rw [results_cs rfl]; go_simp
set_option maxRecDepth 100000 in
set_option maxHeartbeats 2000000 in
theorem doX_any {w W : World} {R : Nat → List Pk} {A : Nat → Bool} {g : Nat} {K : List (Nat × Obj)} (h : NQ w R A g K W) (k : Int) (hk : k ≠ 0 ∧ k ≠ 1 ∧ k ≠ 2 ∧ k ≠ 3 ∧ k ≠ 4 ∧ k ≠ 5) (p : Pk) (f t i : Int) (on : Bool) :
    Calls Try.prog 10 #[nP g, nlV, acV ⟨k, p, f, t, i, on⟩] W fun e w' => DoP w g K R A e w' := by
  have HM : Hid (NQ w R A g ((W.heap.size + 1 + 1, nlB) :: (W.heap.size + 1, acB ⟨k, p, f, t, i, on⟩) :: (W.heap.size, nlB) :: (W.heap.size + 1 + 1 + 1, .cells #[.int .i64 f, .int .i64 t] 40) :: K) (doW W ⟨k, p, f, t, i, on⟩)) := h.boxes _
  have HF : Hid (NQ w R A g K (doW W ⟨k, p, f, t, i, on⟩)) := HM.out.sub (by repeat (first | exact List.Sublist.refl _ | refine List.Sublist.cons _ ?_))
  have k0 : (k == 0) = false := by simp; omega
  have k1 : (k == 1) = false := by simp; omega
  have k2 : (k == 2) = false := by simp; omega
  have k3 : (k == 3) = false := by simp; omega
  have k4 : (k == 4) = false := by simp; omega
  have k5 : (k == 5) = false := by simp; omega
  obtain ⟨p0, p1, p2, p3, p4, p5, p6⟩ := p
  clear h hk HM
  dsimp only [doW, acB, acA, acV] at *
  go_enter Try.func10, Try.ntmps10
  go_wp2_with fail
  try simp only [Exit.inBlock, Exit.then]
  refine bodyPost_ret (v := .tuple #[nlV, .bool true]) ?_ rfl ⟨_, rfl, HF.out⟩
  rw [results_cs rfl]; go_simp
/-- Any act that is none of Send, Take and Twice. -/
theorem do_other {w W : World} {R : Nat → List Pk} {A : Nat → Bool} {g : Nat} {K : List (Nat × Obj)} (h : NQ w R A g K W) (hc : cntN R 256 ≤ 1000) (hW : WFr R) (x : Ac) (hk : x.k ≠ 0 ∧ x.k ≠ 1 ∧ x.k ≠ 3) :
    Calls Try.prog 10 #[nP g, nlV, acV x] W fun e w' => DoP w g K (doR R x) (doA A x) e w' := by
  obtain ⟨k, p, f, t, i, on⟩ := x
  dsimp only at hk
  by_cases h2 : k = 2
  · subst h2
    have e1 : doR R ⟨2, p, f, t, i, on⟩ = loseR R f t i := by unfold doR; rw [if_pos rfl]
    have e2 : doA A ⟨2, p, f, t, i, on⟩ = A := by unfold doA; rw [if_neg (by simp)]
    rw [e1, e2]
    exact do2_any h hc p f t i on
  by_cases h4 : k = 4
  · subst h4
    have e1 : doR R ⟨4, p, f, t, i, on⟩ = R := by unfold doR; rw [if_neg (by simp), if_neg (by simp)]
    have e2 : doA A ⟨4, p, f, t, i, on⟩ = apartA A f t on := by unfold doA; rw [if_pos rfl]
    rw [e1, e2]
    exact do4_any h p f t i on
  by_cases h5 : k = 5
  · subst h5
    have e1 : doR R ⟨5, p, f, t, i, on⟩ = clrR R i := by unfold doR; rw [if_neg (by simp), if_pos rfl]
    have e2 : doA A ⟨5, p, f, t, i, on⟩ = A := by unfold doA; rw [if_neg (by simp)]
    rw [e1, e2]
    exact do5_any h hc hW p f t i on
  · have e1 : doR R ⟨k, p, f, t, i, on⟩ = R := by unfold doR; rw [if_neg h2, if_neg h5]
    have e2 : doA A ⟨k, p, f, t, i, on⟩ = A := by unfold doA; rw [if_neg h4]
    rw [e1, e2]
    exact doX_any h k ⟨hk.1, hk.2.1, h2, hk.2.2, h4, h5⟩ p f t i on
end Go.Proofs.Ythbhgblgacoklaa
