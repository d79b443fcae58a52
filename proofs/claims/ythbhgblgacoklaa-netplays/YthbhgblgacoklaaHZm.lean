/- The law's do on any reference: walks (Clear, none, Take). -/
import Derived.Test.YthbhgblgacoklaaHZl
namespace Go.Proofs.Ythbhgblgacoklaa
open Go.RowKit

set_option maxRecDepth 100000 in
set_option maxHeartbeats 4000000 in
theorem dg5_any {w W : World} {R : Nat → List Pk} {A : Nat → Bool} {g : Nat} {KL KA K : List (Nat × Obj)} {a0 au : Option Addr} {cap0 cu : Nat} {L : List Pk} {B : List (Int × Int)} (h : NQ w R A g (KL ++ (KA ++ K)) W) (hL : RowS KL 7 (.slice a0 L.length cap0) L.length (pCells L)) (hA : RowS KA 2 (.slice au B.length cu) B.length (h2V B)) (hrel : Rel R A L B) (hl : L.length ≤ 400) (p : Pk) (f t i : Int) (on : Bool) :
    Calls Try.prog 10 #[nP g, .agg #[(.slice a0 L.length cap0), (.slice au B.length cu)], acV ⟨5, p, f, t, i, on⟩] W fun e w' => DoQ w g K B.length e w' := by
  obtain ⟨p0, p1, p2, p3, p4, p5, p6⟩ := p
  have hcn : cntN R 256 ≤ 1000 := by rw [hrel.cnt]; omega
  have HM : Hid (NQ w R A g ([(W.heap.size + 1 + 1, nlB), (W.heap.size + 1, acB ⟨5, ⟨p0, p1, p2, p3, p4, p5, p6⟩, f, t, i, on⟩), (W.heap.size, nB (.slice a0 L.length cap0) (.slice au B.length cu)), (W.heap.size + 1 + 1 + 1, hB f t)] ++ (KL ++ (KA ++ K))) (doV W (.slice a0 L.length cap0) (.slice au B.length cu) ⟨5, ⟨p0, p1, p2, p3, p4, p5, p6⟩, f, t, i, on⟩)) := h.boxesG _ _ _
  have hrow : IsRow (doV W (.slice a0 L.length cap0) (.slice au B.length cu) ⟨5, ⟨p0, p1, p2, p3, p4, p5, p6⟩, f, t, i, on⟩) 7 (.slice a0 L.length cap0) L.length (pCells L) := hL _ fun q hq => HM.out.blk q (by simp [hq])
  have hrel2 := hrel.clear i
  have hlen2 : (flt L (clP L i) L.length).length ≤ L.length := flt_len _ _ _
  have HRf : Hid (Calls Try.prog 32 #[.agg #[(.slice a0 L.length cap0), (.slice au B.length cu)], .int .i64 i] (doV W (.slice a0 L.length cap0) (.slice au B.length cu) ⟨5, ⟨p0, p1, p2, p3, p4, p5, p6⟩, f, t, i, on⟩) fun e w' => NtPost (flt L (clP L i) L.length) (.slice au B.length cu) (doV W (.slice a0 L.length cap0) (.slice au B.length cu) ⟨5, ⟨p0, p1, p2, p3, p4, p5, p6⟩, f, t, i, on⟩) e w') := clear_ref _ au B.length cu L i _ hrow (by omega)
  generalize flt L (clP L i) L.length = L2 at *
  have HCl : Hid (∀ K' W', NQ w R A g K' W' → Calls Try.prog 22 #[nP g, .int .i64 i] W' fun e w' => e = .returned (.int .i64 ((L.length : Int) - (L2.length : Int))) ∧ NQ w (clrR R i) A g K' w') := fun K' W' h' => (h'.clearN hcn hrel.wf i).mono (by
    rintro e w' ⟨n, rfl, q1, q2⟩
    rw [hrel2.cnt, hrel.cnt] at q2
    exact ⟨by have : (n : Int) = (L.length : Int) - (L2.length : Int) := by omega
              rw [this], q1⟩)
  have HR2 : Hid (Rel (clrR R i) A L2 B) := hrel2
  have wz : IntKind.i64.wrap ((L.length : Int) - (L2.length : Int)) = (L.length : Int) - (L2.length : Int) := by
    simp only [IntKind.wrap, IntKind.signed, IntKind.bits]; simp; omega
  clear hrel2 hrow h hrel
  generalize clrR R i = R2 at *
  dsimp only [doV, acB, acA, acV] at *
  go_enter Try.func10, Try.ntmps10
  go_wp2_with fail
  refine HRf.out.mono ?_
  rintro e w1 ⟨v2, rfl, hr2, hb2, hf2⟩
  obtain ⟨va, vc, rfl⟩ := hr2.form
  obtain ⟨K1, M1', hL1⟩ := NQ.freshB (X := [(W.heap.size + 1 + 1, nlB), (W.heap.size + 1, acB ⟨5, ⟨p0, p1, p2, p3, p4, p5, p6⟩, f, t, i, on⟩), (W.heap.size, nB (.slice a0 L.length cap0) (.slice au B.length cu)), (W.heap.size + 1 + 1 + 1, hB f t)]) (K0 := KL) (K := KA ++ K) HM.out hL hb2 hr2 (.inr hf2)
  have HRow : Hid (RowS K1 7 (.slice va L2.length vc) L2.length (pCells L2)) := hL1
  have M2 := (M1'.alloc (nB (.slice va L2.length vc) (.slice au B.length cu))).perm (List.Perm.swap _ _ _)
  have hS : SDg (W.heap.size + 1) w1.heap.size W.heap.size ⟨5, ⟨p0, p1, p2, p3, p4, p5, p6⟩, f, t, i, on⟩ (.slice va L2.length vc) (.slice au B.length cu) (.slice a0 L.length cap0) (w1.alloc (nB (.slice va L2.length vc) (.slice au B.length cu))) := NQ.trioG M2
  have HM3 : Hid (NQ w R A g ((W.heap.size + 1 + 1, nlB) :: (w1.heap.size, nB (.slice va L2.length vc) (.slice au B.length cu)) :: (W.heap.size + 1, acB ⟨5, ⟨p0, p1, p2, p3, p4, p5, p6⟩, f, t, i, on⟩) :: (W.heap.size, nB (.slice a0 L.length cap0) (.slice au B.length cu)) :: (W.heap.size + 1 + 1 + 1, hB f t) :: (K1 ++ (KA ++ K))) (w1.alloc (nB (.slice va L2.length vc) (.slice au B.length cu))).drew) := M2.below (below_drw _)
  clear M1' M2 hb2 hf2 hr2 HM HRf hL1
  go_wp2_with fail
  generalize w1.alloc (nB (.slice va L2.length vc) (.slice au B.length cu)) = W3 at *
  generalize w1.heap.size = b14 at *
  go_region_held3 (fun w' => SDg (W.heap.size + 1) b14 W.heap.size ⟨5, ⟨p0, p1, p2, p3, p4, p5, p6⟩, f, t, i, on⟩ (.slice va L2.length vc) (.slice au B.length cu) (.slice a0 L.length cap0) w')
    (first | with_reducible assumption | with_reducible exact NQ.trioG (by with_reducible assumption) | with_reducible exact NQ.trioG (NQ.res (by with_reducible assumption) _ _) | with_reducible exact SDg_drew (by with_reducible assumption))
    ((go_at_call 22; refine (HCl.out _ _ HM3.out).mono ?_; rintro e w5 ⟨rfl, M5⟩; obtain ⟨z0, z1, z2, z3⟩ := two_at (M5.blk (W.heap.size + 1 + 1, nlB) (List.mem_cons_self ..))))
  have M6 := NQ.res M5 (.slice va L2.length vc) (.slice au B.length cu)
  have HF : Hid (RS w g K ((w5.setCell ⟨W.heap.size + 1 + 1, 0, none⟩ (.slice va L2.length vc)).setCell ⟨W.heap.size + 1 + 1, 1, none⟩ (.slice au B.length cu)) R2 A (.slice va L2.length vc) (.slice au B.length cu) L2 B) := ⟨K1, KA, M6.sub (by repeat (first | exact List.Sublist.refl _ | refine List.Sublist.cons _ ?_)), HRow.out, hA⟩
  obtain ⟨y0, y1, y2, y3⟩ := two_at (M6.blk (W.heap.size + 1 + 1, nB (.slice va L2.length vc) (.slice au B.length cu)) (List.mem_cons_self ..))
  rename_i hH9
  clear hH9 M5 M6 hS HM3 z0 z1 z2 z3
  generalize (w5.setCell ⟨W.heap.size + 1 + 1, 0, none⟩ (.slice va L2.length vc)).setCell ⟨W.heap.size + 1 + 1, 1, none⟩ (.slice au B.length cu) = Z at *
  go_wp2_with fail
  try simp only [Exit.inBlock, Exit.then]
  refine bodyPost_ret (v := .tuple #[.agg #[(.slice va L2.length vc), (.slice au B.length cu)], .bool true]) ?_ rfl ⟨_, _, _, _, _, _, rfl, HF.out, HR2.out, Nat.le_trans hlen2 hl, Nat.le_succ _⟩
  rw [results_cs rfl]; go_simp
set_option maxRecDepth 100000 in
set_option maxHeartbeats 4000000 in
theorem dgX_any {w W : World} {R : Nat → List Pk} {A : Nat → Bool} {g : Nat} {KL KA K : List (Nat × Obj)} {a0 au : Option Addr} {cap0 cu : Nat} {L : List Pk} {B : List (Int × Int)} (h : NQ w R A g (KL ++ (KA ++ K)) W) (hL : RowS KL 7 (.slice a0 L.length cap0) L.length (pCells L)) (hA : RowS KA 2 (.slice au B.length cu) B.length (h2V B)) (hrel : Rel R A L B) (hl : L.length ≤ 400) (k : Int) (hk : k ≠ 0 ∧ k ≠ 1 ∧ k ≠ 2 ∧ k ≠ 3 ∧ k ≠ 4 ∧ k ≠ 5) (p : Pk) (f t i : Int) (on : Bool) :
    Calls Try.prog 10 #[nP g, .agg #[(.slice a0 L.length cap0), (.slice au B.length cu)], acV ⟨k, p, f, t, i, on⟩] W fun e w' => DoQ w g K B.length e w' := by
  obtain ⟨p0, p1, p2, p3, p4, p5, p6⟩ := p
  have HM : Hid (NQ w R A g ([(W.heap.size + 1 + 1, nlB), (W.heap.size + 1, acB ⟨k, ⟨p0, p1, p2, p3, p4, p5, p6⟩, f, t, i, on⟩), (W.heap.size, nB (.slice a0 L.length cap0) (.slice au B.length cu)), (W.heap.size + 1 + 1 + 1, hB f t)] ++ (KL ++ (KA ++ K))) (doV W (.slice a0 L.length cap0) (.slice au B.length cu) ⟨k, ⟨p0, p1, p2, p3, p4, p5, p6⟩, f, t, i, on⟩)) := h.boxesG _ _ _
  have k0 : (k == 0) = false := by simp; omega
  have k1 : (k == 1) = false := by simp; omega
  have k2 : (k == 2) = false := by simp; omega
  have k3 : (k == 3) = false := by simp; omega
  have k4 : (k == 4) = false := by simp; omega
  have k5 : (k == 5) = false := by simp; omega
  have M6 := (((h.alloc (nB (.slice a0 L.length cap0) (.slice au B.length cu))).alloc (acB ⟨k, ⟨p0, p1, p2, p3, p4, p5, p6⟩, f, t, i, on⟩)).alloc (nB (.slice a0 L.length cap0) (.slice au B.length cu))).alloc (hB f t)
  have HF : Hid (RS w g K ((((W.alloc (nB (.slice a0 L.length cap0) (.slice au B.length cu))).alloc (acB ⟨k, ⟨p0, p1, p2, p3, p4, p5, p6⟩, f, t, i, on⟩)).alloc (nB (.slice a0 L.length cap0) (.slice au B.length cu))).alloc (hB f t)) R A (.slice a0 L.length cap0) (.slice au B.length cu) L B) := ⟨KL, KA, M6.sub (by repeat (first | exact List.Sublist.refl _ | refine List.Sublist.cons _ ?_)), hL, hA⟩
  clear h hk HM M6
  dsimp only [doV, acB, acA, acV] at *
  go_enter Try.func10, Try.ntmps10
  go_wp2_with fail
  try simp only [Exit.inBlock, Exit.then]
  refine bodyPost_ret (v := .tuple #[.agg #[(.slice a0 L.length cap0), (.slice au B.length cu)], .bool true]) ?_ rfl ⟨_, _, _, _, _, _, rfl, HF.out, hrel, hl, Nat.le_succ _⟩
  rw [results_cs rfl]; go_simp
abbrev SD1 (b11 b12 : Nat) (v u : Value) (P0 P1 P2 P3 P4 P5 : Int) (P6 : ByteArray) (E2 : Int) (w : World) : Prop := (w.cell? ⟨b11, 0, none⟩ = some v ∧ w.cell? ⟨b11, 1, none⟩ = some u ∧ w.cell? ⟨b11, 2, none⟩ = some (.int .i64 P0) ∧ w.cell? ⟨b11, 3, none⟩ = some (.int .i64 P1) ∧ w.cell? ⟨b11, 4, none⟩ = some (.int .i64 P2) ∧ w.cell? ⟨b11, 5, none⟩ = some (.int .i64 P3) ∧ w.cell? ⟨b11, 6, none⟩ = some (.int .i64 P4) ∧ w.cell? ⟨b11, 7, none⟩ = some (.int .i64 P5) ∧ w.cell? ⟨b11, 8, none⟩ = some (.string P6) ∧ w.cell? ⟨b11, 9, none⟩ = some (.int .i64 E2)) ∧ (w.cell? ⟨b12, 0, none⟩ = some (.int .i64 P0) ∧ w.cell? ⟨b12, 1, none⟩ = some (.int .i64 P1) ∧ w.cell? ⟨b12, 2, none⟩ = some (.int .i64 P2) ∧ w.cell? ⟨b12, 3, none⟩ = some (.int .i64 P3) ∧ w.cell? ⟨b12, 4, none⟩ = some (.int .i64 P4) ∧ w.cell? ⟨b12, 5, none⟩ = some (.int .i64 P5) ∧ w.cell? ⟨b12, 6, none⟩ = some (.string P6))
theorem NQ.sd1 {w W : World} {R : Nat → List Pk} {A : Nat → Bool} {g b11 b12 : Nat} {v u : Value} {P0 P1 P2 P3 P4 P5 : Int} {P6 : ByteArray} {E2 : Int} {K : List (Nat × Obj)} (h : NQ w R A g K W) (h1 : (b11, Obj.cells #[v, u, .int .i64 P0, .int .i64 P1, .int .i64 P2, .int .i64 P3, .int .i64 P4, .int .i64 P5, .string P6, .int .i64 E2] 73 (0, 0)) ∈ K) (h2 : (b12, Obj.cells (pA ⟨P0, P1, P2, P3, P4, P5, P6⟩) 31 (0, 0)) ∈ K) : SD1 b11 b12 v u P0 P1 P2 P3 P4 P5 P6 E2 W := by
  obtain ⟨c0, c1, c2, c3, c4, c5, c6, c7, c8, c9, -⟩ := ten_at (h.blk _ h1)
  obtain ⟨d0, d1, d2, d3, d4, d5, d6⟩ := seven_at (h.blk _ h2)
  exact ⟨⟨c0, c1, c2, c3, c4, c5, c6, c7, c8, c9⟩, d0, d1, d2, d3, d4, d5, d6⟩
set_option maxRecDepth 100000 in
set_option maxHeartbeats 4000000 in
theorem dg1_any {w W : World} {R : Nat → List Pk} {A : Nat → Bool} {g : Nat} {KL KA K : List (Nat × Obj)} {a0 au : Option Addr} {cap0 cu : Nat} {L : List Pk} {B : List (Int × Int)} (h : NQ w R A g (KL ++ (KA ++ K)) W) (hL : RowS KL 7 (.slice a0 L.length cap0) L.length (pCells L)) (hA : RowS KA 2 (.slice au B.length cu) B.length (h2V B)) (hrel : Rel R A L B) (hl : L.length ≤ 400) (hbl : B.length ≤ 1000) (p : Pk) (f t i : Int) (on : Bool) :
    Calls Try.prog 10 #[nP g, .agg #[(.slice a0 L.length cap0), (.slice au B.length cu)], acV ⟨1, p, f, t, i, on⟩] W fun e w' => DoQ w g K B.length e w' := by
  obtain ⟨p0, p1, p2, p3, p4, p5, p6⟩ := p
  have hcn : cntN R 256 ≤ 1000 := by rw [hrel.cnt]; omega
  have HM : Hid (NQ w R A g ([(W.heap.size + 1 + 1, nlB), (W.heap.size + 1, acB ⟨1, ⟨p0, p1, p2, p3, p4, p5, p6⟩, f, t, i, on⟩), (W.heap.size, nB (.slice a0 L.length cap0) (.slice au B.length cu)), (W.heap.size + 1 + 1 + 1, hB f t)] ++ (KL ++ (KA ++ K))) (doV W (.slice a0 L.length cap0) (.slice au B.length cu) ⟨1, ⟨p0, p1, p2, p3, p4, p5, p6⟩, f, t, i, on⟩)) := h.boxesG _ _ _
  have hrow : IsRow (doV W (.slice a0 L.length cap0) (.slice au B.length cu) ⟨1, ⟨p0, p1, p2, p3, p4, p5, p6⟩, f, t, i, on⟩) 7 (.slice a0 L.length cap0) L.length (pCells L) := hL _ fun q hq => HM.out.blk q (by simp [hq])
  have hrou : IsRow (doV W (.slice a0 L.length cap0) (.slice au B.length cu) ⟨1, ⟨p0, p1, p2, p3, p4, p5, p6⟩, f, t, i, on⟩) 2 (.slice au B.length cu) B.length (h2V B) := hA _ fun q hq => HM.out.blk q (by simp [hq])
  obtain ⟨e1, hrel2⟩ := hrel.take f t i
  have e2 := hrel.tkE f t i
  have hlen2 := tk_len B f t i hl
  have HRf : Hid (Calls Try.prog 28 #[.agg #[(.slice a0 L.length cap0), (.slice au B.length cu)], hV f t, .int .i64 i] (doV W (.slice a0 L.length cap0) (.slice au B.length cu) ⟨1, ⟨p0, p1, p2, p3, p4, p5, p6⟩, f, t, i, on⟩) fun e w' => TkPost (tkL L B f t i) (tkP L B f t i) (tkE L B f t i) (.slice a0 L.length cap0) (.slice au B.length cu) (doV W (.slice a0 L.length cap0) (.slice au B.length cu) ⟨1, ⟨p0, p1, p2, p3, p4, p5, p6⟩, f, t, i, on⟩) e w') := refTake_any _ au cu L B f t i _ hrow (by omega) hrou (by omega)
  have HCl : Hid (∀ K' W', NQ w R A g K' W' → Calls Try.prog 19 #[nP g, hV f t, .int .i64 i] W' fun e w' => e = .returned (.tuple #[pV (tkP L B f t i), .int .i64 (tkE L B f t i)]) ∧ NQ w (takeR R A f t i) A g K' w') := fun K' W' h' => by rw [e1, e2]; exact h'.call fun V hv => take_any f t i hv hcn
  clear e1 e2
  generalize tkL L B f t i = L2 at *
  generalize tkP L B f t i = P at *
  generalize tkE L B f t i = E2 at *
  obtain ⟨P0, P1, P2, P3, P4, P5, P6⟩ := P
  have HR2 : Hid (Rel (takeR R A f t i) A L2 B) := hrel2
  clear hrel2 hrow hrou h hrel
  generalize takeR R A f t i = R2 at *
  dsimp only [doV, acB, acA, acV] at *
  go_enter Try.func10, Try.ntmps10
  go_wp2_with fail
  refine HRf.out.mono ?_
  rintro e w1 ⟨v2, rfl, hr2, hb2, hf2⟩
  obtain ⟨va, vc, rfl⟩ := hr2.form
  obtain ⟨K1, M1', hL1⟩ := NQ.freshB (X := [(W.heap.size + 1 + 1, nlB), (W.heap.size + 1, acB ⟨1, ⟨p0, p1, p2, p3, p4, p5, p6⟩, f, t, i, on⟩), (W.heap.size, nB (.slice a0 L.length cap0) (.slice au B.length cu)), (W.heap.size + 1 + 1 + 1, hB f t)]) (K0 := KL) (K := KA ++ K) HM.out hL hb2 hr2 hf2
  have HRow : Hid (RowS K1 7 (.slice va L2.length vc) L2.length (pCells L2)) := hL1
  have M2 := (M1'.alloc (.cells #[.slice va L2.length vc, .slice au B.length cu, .int .i64 P0, .int .i64 P1, .int .i64 P2, .int .i64 P3, .int .i64 P4, .int .i64 P5, .string P6, .int .i64 E2] 73)).perm (List.Perm.swap _ _ _)
  obtain ⟨-, -, -, -, -, -, -, -, t8, t9, t10, -, -⟩ := ac_at (M2.blk (W.heap.size + 1, acB ⟨1, ⟨p0, p1, p2, p3, p4, p5, p6⟩, f, t, i, on⟩) (by simp))
  have HC3 : Hid (Calls Try.prog 19 #[nP g, hV f t, .int .i64 i] (w1.alloc (.cells #[.slice va L2.length vc, .slice au B.length cu, .int .i64 P0, .int .i64 P1, .int .i64 P2, .int .i64 P3, .int .i64 P4, .int .i64 P5, .string P6, .int .i64 E2] 73)) fun e w' => e = .returned (.tuple #[pV ⟨P0, P1, P2, P3, P4, P5, P6⟩, .int .i64 E2]) ∧ NQ w R2 A g ((W.heap.size + 1 + 1, nlB) :: (w1.heap.size, .cells #[.slice va L2.length vc, .slice au B.length cu, .int .i64 P0, .int .i64 P1, .int .i64 P2, .int .i64 P3, .int .i64 P4, .int .i64 P5, .string P6, .int .i64 E2] 73) :: (W.heap.size + 1, acB ⟨1, ⟨p0, p1, p2, p3, p4, p5, p6⟩, f, t, i, on⟩) :: (W.heap.size, nB (.slice a0 L.length cap0) (.slice au B.length cu)) :: (W.heap.size + 1 + 1 + 1, hB f t) :: (K1 ++ (KA ++ K))) w') := HCl.out _ _ M2
  clear M1' M2 hb2 hf2 hr2 HM HRf hL1 HCl
  dsimp only [pV] at *
  go_wp2_with fail
  refine HC3.out.mono ?_
  rintro e w5 ⟨rfl, M5⟩
  clear HC3 t8 t9 t10
  generalize w1.heap.size = b11 at *
  have M7 := (M5.alloc (.cells #[.int .i64 P0, .int .i64 P1, .int .i64 P2, .int .i64 P3, .int .i64 P4, .int .i64 P5, .string P6] 31)).perm (List.Perm.swap _ _ _)
  have hS : SD1 b11 w5.heap.size (.slice va L2.length vc) (.slice au B.length cu) P0 P1 P2 P3 P4 P5 P6 E2 (w5.alloc (.cells #[.int .i64 P0, .int .i64 P1, .int .i64 P2, .int .i64 P3, .int .i64 P4, .int .i64 P5, .string P6] 31)) := M7.sd1 (by simp) (by simp)
  have HM8 : Hid (NQ w R2 A g ((W.heap.size + 1 + 1, nlB) :: (w5.heap.size, .cells #[.int .i64 P0, .int .i64 P1, .int .i64 P2, .int .i64 P3, .int .i64 P4, .int .i64 P5, .string P6] 31) :: (b11, .cells #[.slice va L2.length vc, .slice au B.length cu, .int .i64 P0, .int .i64 P1, .int .i64 P2, .int .i64 P3, .int .i64 P4, .int .i64 P5, .string P6, .int .i64 E2] 73) :: (W.heap.size + 1, acB ⟨1, ⟨p0, p1, p2, p3, p4, p5, p6⟩, f, t, i, on⟩) :: (W.heap.size, nB (.slice a0 L.length cap0) (.slice au B.length cu)) :: (W.heap.size + 1 + 1 + 1, hB f t) :: (K1 ++ (KA ++ K))) (w5.alloc (.cells #[.int .i64 P0, .int .i64 P1, .int .i64 P2, .int .i64 P3, .int .i64 P4, .int .i64 P5, .string P6] 31)).drew) := M7.below (below_drw _)
  clear M5 M7
  go_wp2_with fail
  generalize w5.alloc (.cells #[.int .i64 P0, .int .i64 P1, .int .i64 P2, .int .i64 P3, .int .i64 P4, .int .i64 P5, .string P6] 31) = W8 at *
  generalize w5.heap.size = b12 at *
  refine wp_region_held_drew (S := fun w' => SD1 b11 b12 (.slice va L2.length vc) (.slice au B.length cu) P0 P1 P2 P3 P4 P5 P6 E2 w') (by kernel_rfl) hS (fun hHeld => ?_)
  generalize W8.drew = W9 at *
  refine wpAnyH_take (i := 0) (v := ?_) rfl (by kernel_rfl) (by kernel_rfl) (by kernel_rfl) (fun _ _ _ h => h) (Or.inl ⟨by rfl, ?_⟩) hHeld ?_
  rotate_left 1
  · intro w9 hSw; obtain ⟨⟨c0, c1, c2, c3, c4, c5, c6, c7, c8, c9⟩, d0, d1, d2, d3, d4, d5, d6⟩ := hSw; go_simp; try with_reducible rfl
  change wpAnyH _ _ _ _ _ _ _ (Act.put _ (some 57) _) _
  simp only [Act.put, List.setIfInBounds_toArray, List.set_cons_zero, List.set_cons_succ]
  refine wpAnyH_take (i := 1) (v := ?_) rfl (by kernel_rfl) (by kernel_rfl) (by kernel_rfl) (fun _ _ _ h => h) (Or.inl ⟨by rfl, ?_⟩) hHeld ?_
  rotate_left 1
  · intro w9 hSw; obtain ⟨⟨c0, c1, c2, c3, c4, c5, c6, c7, c8, c9⟩, d0, d1, d2, d3, d4, d5, d6⟩ := hSw; go_simp; try with_reducible rfl
  change wpAnyH _ _ _ _ _ _ _ (Act.put _ (some 58) _) _
  simp only [Act.put, List.setIfInBounds_toArray, List.set_cons_zero, List.set_cons_succ]
  refine wpAnyH_take (i := 2) (v := ?_) rfl (by kernel_rfl) (by kernel_rfl) (by kernel_rfl) (fun _ _ _ h => h) (Or.inl ⟨by rfl, ?_⟩) hHeld ?_
  rotate_left 1
  · intro w9 hSw; obtain ⟨⟨c0, c1, c2, c3, c4, c5, c6, c7, c8, c9⟩, d0, d1, d2, d3, d4, d5, d6⟩ := hSw; go_simp; try with_reducible rfl
  change wpAnyH _ _ _ _ _ _ _ (Act.put _ (some 59) _) _
  simp only [Act.put, List.setIfInBounds_toArray, List.set_cons_zero, List.set_cons_succ]
  refine wpAnyH_take (i := 3) (v := ?_) rfl (by kernel_rfl) (by kernel_rfl) (by kernel_rfl) (fun _ _ _ h => h) (Or.inl ⟨by rfl, ?_⟩) hHeld ?_
  rotate_left 1
  · intro w9 hSw; obtain ⟨⟨c0, c1, c2, c3, c4, c5, c6, c7, c8, c9⟩, d0, d1, d2, d3, d4, d5, d6⟩ := hSw; go_simp; try with_reducible rfl
  change wpAnyH _ _ _ _ _ _ _ (Act.put _ (some 60) _) _
  simp only [Act.put, List.setIfInBounds_toArray, List.set_cons_zero, List.set_cons_succ]
  refine wpAnyH_take (i := 4) (v := ?_) rfl (by kernel_rfl) (by kernel_rfl) (by kernel_rfl) (fun _ _ _ h => h) (Or.inl ⟨by rfl, ?_⟩) hHeld ?_
  rotate_left 1
  · intro w9 hSw; obtain ⟨⟨c0, c1, c2, c3, c4, c5, c6, c7, c8, c9⟩, d0, d1, d2, d3, d4, d5, d6⟩ := hSw; go_simp; try with_reducible rfl
  change wpAnyH _ _ _ _ _ _ _ (Act.put _ (some 61) _) _
  simp only [Act.put, List.setIfInBounds_toArray, List.set_cons_zero, List.set_cons_succ]
  refine wpAnyH_take (i := 5) (v := ?_) rfl (by kernel_rfl) (by kernel_rfl) (by kernel_rfl) (fun _ _ _ h => h) (Or.inl ⟨by rfl, ?_⟩) hHeld ?_
  rotate_left 1
  · intro w9 hSw; obtain ⟨⟨c0, c1, c2, c3, c4, c5, c6, c7, c8, c9⟩, d0, d1, d2, d3, d4, d5, d6⟩ := hSw; go_simp; try with_reducible rfl
  change wpAnyH _ _ _ _ _ _ _ (Act.put _ (some 62) _) _
  simp only [Act.put, List.setIfInBounds_toArray, List.set_cons_zero, List.set_cons_succ]
  refine wpAnyH_take (i := 6) (v := ?_) rfl (by kernel_rfl) (by kernel_rfl) (by kernel_rfl) (fun _ _ _ h => h) (Or.inl ⟨by rfl, ?_⟩) hHeld ?_
  rotate_left 1
  · intro w9 hSw; obtain ⟨⟨c0, c1, c2, c3, c4, c5, c6, c7, c8, c9⟩, d0, d1, d2, d3, d4, d5, d6⟩ := hSw; go_simp; try with_reducible rfl
  change wpAnyH _ _ _ _ _ _ _ (Act.put _ (some 63) _) _
  simp only [Act.put, List.setIfInBounds_toArray, List.set_cons_zero, List.set_cons_succ]
  refine wpAnyH_take (i := 7) (v := ?_) rfl (by kernel_rfl) (by kernel_rfl) (by kernel_rfl) (fun _ _ _ h => h) (Or.inl ⟨by rfl, ?_⟩) hHeld ?_
  rotate_left 1
  · intro w9 hSw; obtain ⟨⟨c0, c1, c2, c3, c4, c5, c6, c7, c8, c9⟩, d0, d1, d2, d3, d4, d5, d6⟩ := hSw; go_simp; try with_reducible rfl
  change wpAnyH _ _ _ _ _ _ _ (Act.put _ (some 64) _) _
  simp only [Act.put, List.setIfInBounds_toArray, List.set_cons_zero, List.set_cons_succ]
  refine wpAnyH_take (i := 8) (v := ?_) rfl (by kernel_rfl) (by kernel_rfl) (by kernel_rfl) (fun _ _ _ h => h) (Or.inl ⟨by rfl, ?_⟩) hHeld ?_
  rotate_left 1
  · intro w9 hSw; obtain ⟨⟨c0, c1, c2, c3, c4, c5, c6, c7, c8, c9⟩, d0, d1, d2, d3, d4, d5, d6⟩ := hSw; go_simp; try with_reducible rfl
  change wpAnyH _ _ _ _ _ _ _ (Act.put _ (some 65) _) _
  simp only [Act.put, List.setIfInBounds_toArray, List.set_cons_zero, List.set_cons_succ]
  refine wpAnyH_take (i := 9) (v := ?_) rfl (by kernel_rfl) (by kernel_rfl) (by kernel_rfl) (fun _ _ _ h => h) (Or.inl ⟨by rfl, ?_⟩) hHeld ?_
  rotate_left 1
  · intro w9 hSw; obtain ⟨⟨c0, c1, c2, c3, c4, c5, c6, c7, c8, c9⟩, d0, d1, d2, d3, d4, d5, d6⟩ := hSw; go_simp; try with_reducible rfl
  change wpAnyH _ _ _ _ _ _ _ (Act.put _ (some 66) _) _
  simp only [Act.put, List.setIfInBounds_toArray, List.set_cons_zero, List.set_cons_succ]
  refine wpAnyH_take (i := 10) (v := ?_) rfl (by kernel_rfl) (by kernel_rfl) (by kernel_rfl) (fun _ _ _ h => h) (Or.inl ⟨by rfl, ?_⟩) hHeld ?_
  rotate_left 1
  · intro w9 hSw; obtain ⟨⟨c0, c1, c2, c3, c4, c5, c6, c7, c8, c9⟩, d0, d1, d2, d3, d4, d5, d6⟩ := hSw; go_simp; try with_reducible rfl
  change wpAnyH _ _ _ _ _ _ _ (Act.put _ (some 67) _) _
  simp only [Act.put, List.setIfInBounds_toArray, List.set_cons_zero, List.set_cons_succ]
  refine wpAnyH_take (i := 11) (v := ?_) rfl (by kernel_rfl) (by kernel_rfl) (by kernel_rfl) (fun _ _ _ h => h) (Or.inl ⟨by rfl, ?_⟩) hHeld ?_
  rotate_left 1
  · intro w9 hSw; obtain ⟨⟨c0, c1, c2, c3, c4, c5, c6, c7, c8, c9⟩, d0, d1, d2, d3, d4, d5, d6⟩ := hSw; go_simp; try with_reducible rfl
  change wpAnyH _ _ _ _ _ _ _ (Act.put _ (some 68) _) _
  simp only [Act.put, List.setIfInBounds_toArray, List.set_cons_zero, List.set_cons_succ]
  obtain ⟨z0, z1, z2, z3⟩ := two_at (HM8.out.blk (W.heap.size + 1 + 1, nlB) (List.mem_cons_self ..))
  have M9 := NQ.res HM8.out (.slice va L2.length vc) (.slice au B.length cu)
  refine wpAnyH_ready (rs := [12]) (by kernel_rfl) (by simp) ?_
  refine AllReadyH.cons rfl (fun K hK => ?_) AllReadyH.nil
  go_simp
  refine hK.out _ _ (NQ.sd1 M9 (by simp) (by simp)) (fun hHeld => ?_)
  clear hK K
  refine wpAnyH_ready (rs := [13]) (by kernel_rfl) (by simp) ?_
  refine AllReadyH.cons rfl (fun K hK => ?_) AllReadyH.nil
  go_simp
  refine hK.out _ _ (hHeld) (fun hHeld => ?_)
  clear hK K
  refine wpAnyH_done (by kernel_rfl) ?_ _
  have HF : Hid (RS w g K ((W9.setCell ⟨W.heap.size + 1 + 1, 0, none⟩ (.slice va L2.length vc)).setCell ⟨W.heap.size + 1 + 1, 1, none⟩ (.slice au B.length cu)) R2 A (.slice va L2.length vc) (.slice au B.length cu) L2 B) := ⟨K1, KA, M9.sub (by repeat (first | exact List.Sublist.refl _ | refine List.Sublist.cons _ ?_)), HRow.out, hA⟩
  obtain ⟨y0, y1, y2, y3⟩ := two_at (M9.blk (W.heap.size + 1 + 1, nB (.slice va L2.length vc) (.slice au B.length cu)) (List.mem_cons_self ..))
  clear hHeld hS HM8 M9 z0 z1 z2 z3
  generalize (W9.setCell ⟨W.heap.size + 1 + 1, 0, none⟩ (.slice va L2.length vc)).setCell ⟨W.heap.size + 1 + 1, 1, none⟩ (.slice au B.length cu) = Z at *
  go_wp2_with fail
  try simp only [Exit.inBlock, Exit.then]
  refine bodyPost_ret (v := .tuple #[.agg #[(.slice va L2.length vc), (.slice au B.length cu)], .bool true]) ?_ rfl ⟨_, _, _, _, _, _, rfl, HF.out, HR2.out, hlen2, Nat.le_succ _⟩
  rw [results_cs rfl]; go_simp
/-- Any act, on any reference that goes with the net. -/
theorem dg_any {w W : World} {R : Nat → List Pk} {A : Nat → Bool} {g : Nat} {K : List (Nat × Obj)} {v u : Value} {L : List Pk} {B : List (Int × Int)} (h : RS w g K W R A v u L B) (hrel : Rel R A L B) (hl : L.length ≤ 400) (hbl : B.length ≤ 1000) (x : Ac) (hx : x.p.x.size ≤ 2000) :
    Calls Try.prog 10 #[nP g, .agg #[v, u], acV x] W fun e w' => DoQ w g K B.length e w' := by
  obtain ⟨KL, KA, h, hL, hA⟩ := h
  obtain ⟨a0, cap0, rfl⟩ := (hL W fun q hq => h.blk q (by simp [hq])).form
  obtain ⟨au, cu, rfl⟩ := (hA W fun q hq => h.blk q (by simp [hq])).form
  obtain ⟨k, p, f, t, i, on⟩ := x
  by_cases k0 : k = 0
  · subst k0; exact dg0_any h hL hA hrel hl hbl p f t i on hx
  by_cases k1 : k = 1
  · subst k1; exact dg1_any h hL hA hrel hl hbl p f t i on
  by_cases k2 : k = 2
  · subst k2; exact dg2_any h hL hA hrel hl hbl p f t i on
  by_cases k3 : k = 3
  · subst k3; exact dg3_any h hL hA hrel hl hbl p f t i on
  by_cases k4 : k = 4
  · subst k4; exact dg4_any h hL hA hrel hl hbl p f t i on
  by_cases k5 : k = 5
  · subst k5; exact dg5_any h hL hA hrel hl p f t i on
  exact dgX_any h hL hA hrel hl k ⟨k0, k1, k2, k3, k4, k5⟩ p f t i on
end Go.Proofs.Ythbhgblgacoklaa
