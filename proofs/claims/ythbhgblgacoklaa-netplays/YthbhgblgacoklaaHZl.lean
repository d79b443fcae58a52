/- The law's do on any reference: walks (Send, Lose, Twice, Part, Clear, none). -/
import Derived.Test.YthbhgblgacoklaaHZk
namespace Go.Proofs.Ythbhgblgacoklaa
open Go.RowKit

set_option maxRecDepth 100000 in
set_option maxHeartbeats 4000000 in
theorem dg0_any {w W : World} {R : Nat → List Pk} {A : Nat → Bool} {g : Nat} {KL KA K : List (Nat × Obj)} {a0 au : Option Addr} {cap0 cu : Nat} {L : List Pk} {B : List (Int × Int)} (h : NQ w R A g (KL ++ (KA ++ K)) W) (hL : RowS KL 7 (.slice a0 L.length cap0) L.length (pCells L)) (hA : RowS KA 2 (.slice au B.length cu) B.length (h2V B)) (hrel : Rel R A L B) (hl : L.length ≤ 400) (_hbl : B.length ≤ 1000) (p : Pk) (f t i : Int) (on : Bool) (hx : p.x.size ≤ 2000) :
    Calls Try.prog 10 #[nP g, .agg #[(.slice a0 L.length cap0), (.slice au B.length cu)], acV ⟨0, p, f, t, i, on⟩] W fun e w' => DoQ w g K B.length e w' := by
  obtain ⟨p0, p1, p2, p3, p4, p5, p6⟩ := p
  replace hx : p6.size ≤ 2000 := hx
  have hcn : cntN R 256 ≤ 1000 := by rw [hrel.cnt]; omega
  have HM : Hid (NQ w R A g ([(W.heap.size + 1 + 1, nlB), (W.heap.size + 1, acB ⟨0, ⟨p0, p1, p2, p3, p4, p5, p6⟩, f, t, i, on⟩), (W.heap.size, nB (.slice a0 L.length cap0) (.slice au B.length cu)), (W.heap.size + 1 + 1 + 1, hB f t)] ++ (KL ++ (KA ++ K))) (doV W (.slice a0 L.length cap0) (.slice au B.length cu) ⟨0, ⟨p0, p1, p2, p3, p4, p5, p6⟩, f, t, i, on⟩)) := h.boxesG _ _ _
  have hrow : IsRow (doV W (.slice a0 L.length cap0) (.slice au B.length cu) ⟨0, ⟨p0, p1, p2, p3, p4, p5, p6⟩, f, t, i, on⟩) 7 (.slice a0 L.length cap0) L.length (pCells L) := hL _ fun q hq => HM.out.blk q (by simp [hq])
  have hrou : IsRow (doV W (.slice a0 L.length cap0) (.slice au B.length cu) ⟨0, ⟨p0, p1, p2, p3, p4, p5, p6⟩, f, t, i, on⟩) 2 (.slice au B.length cu) B.length (h2V B) := hA _ fun q hq => HM.out.blk q (by simp [hq])
  have hrel2 := hrel.send ⟨p0, p1, p2, p3, p4, p5, p6⟩
  have hlen2 := snd_len ⟨p0, p1, p2, p3, p4, p5, p6⟩ hl
  generalize hpr : sndL L ⟨p0, p1, p2, p3, p4, p5, p6⟩ = SN at *
  obtain ⟨L2, E2⟩ := SN
  dsimp only at hrel2 hlen2
  have HRf : Hid (Calls Try.prog 27 #[.agg #[(.slice a0 L.length cap0), (.slice au B.length cu)], pV ⟨p0, p1, p2, p3, p4, p5, p6⟩] (doV W (.slice a0 L.length cap0) (.slice au B.length cu) ⟨0, ⟨p0, p1, p2, p3, p4, p5, p6⟩, f, t, i, on⟩) fun e w' => SnPost (L2, E2) (.slice a0 L.length cap0) (.slice au B.length cu) (doV W (.slice a0 L.length cap0) (.slice au B.length cu) ⟨0, ⟨p0, p1, p2, p3, p4, p5, p6⟩, f, t, i, on⟩) e w') := by rw [← hpr]; exact refSend_any _ au B.length cu L ⟨p0, p1, p2, p3, p4, p5, p6⟩ _ hrow (by omega)
  have HCl : Hid (∀ K' W', NQ w R A g K' W' → Calls Try.prog 18 #[nP g, pV ⟨p0, p1, p2, p3, p4, p5, p6⟩] W' fun e w' => e = .returned (.int .i64 E2) ∧ NQ w (sendR R ⟨p0, p1, p2, p3, p4, p5, p6⟩) (A) g K' w') := fun K' W' h' => by rw [hrel2.1]; exact h'.call fun V hv => send_any ⟨p0, p1, p2, p3, p4, p5, p6⟩ (by show p6.size ≤ _; omega) hv hcn
  have HR2 : Hid (Rel (sendR R ⟨p0, p1, p2, p3, p4, p5, p6⟩) (A) L2 B) := hrel2.2
  clear hrel2 hrow hrou hpr h hrel
  generalize sendR R ⟨p0, p1, p2, p3, p4, p5, p6⟩ = R2 at *
  dsimp only [doV, acB, acA, acV] at *
  go_enter Try.func10, Try.ntmps10
  go_wp2_with fail
  refine HRf.out.mono ?_
  rintro e w1 ⟨v2, rfl, hr2, hb2, hf2⟩
  obtain ⟨va, vc, rfl⟩ := hr2.form
  obtain ⟨K1, M1', hL1⟩ := NQ.freshB (X := [(W.heap.size + 1 + 1, nlB), (W.heap.size + 1, acB ⟨0, ⟨p0, p1, p2, p3, p4, p5, p6⟩, f, t, i, on⟩), (W.heap.size, nB (.slice a0 L.length cap0) (.slice au B.length cu)), (W.heap.size + 1 + 1 + 1, hB f t)]) (K0 := KL) (K := KA ++ K) HM.out hL hb2 hr2 hf2
  have HRow : Hid (RowS K1 7 (.slice va L2.length vc) L2.length (pCells L2)) := hL1
  have M2 := (M1'.alloc (nB (.slice va L2.length vc) (.slice au B.length cu))).perm (List.Perm.swap _ _ _)
  have hS : SDg (W.heap.size + 1) w1.heap.size W.heap.size ⟨0, ⟨p0, p1, p2, p3, p4, p5, p6⟩, f, t, i, on⟩ (.slice va L2.length vc) (.slice au B.length cu) (.slice a0 L.length cap0) (w1.alloc (nB (.slice va L2.length vc) (.slice au B.length cu))) := NQ.trioG M2
  have HM3 : Hid (NQ w R A g ((W.heap.size + 1 + 1, nlB) :: (w1.heap.size, nB (.slice va L2.length vc) (.slice au B.length cu)) :: (W.heap.size + 1, acB ⟨0, ⟨p0, p1, p2, p3, p4, p5, p6⟩, f, t, i, on⟩) :: (W.heap.size, nB (.slice a0 L.length cap0) (.slice au B.length cu)) :: (W.heap.size + 1 + 1 + 1, hB f t) :: (K1 ++ (KA ++ K))) (w1.alloc (nB (.slice va L2.length vc) (.slice au B.length cu))).drew) := M2.below (below_drw _)
  clear M1' M2 hb2 hf2 hr2 HM HRf hL1
  go_wp2_with fail
  generalize w1.alloc (nB (.slice va L2.length vc) (.slice au B.length cu)) = W3 at *
  generalize w1.heap.size = b14 at *
  go_region_held3 (fun w' => SDg (W.heap.size + 1) b14 W.heap.size ⟨0, ⟨p0, p1, p2, p3, p4, p5, p6⟩, f, t, i, on⟩ (.slice va L2.length vc) (.slice au B.length cu) (.slice a0 L.length cap0) w')
    (first | with_reducible assumption | with_reducible exact NQ.trioG (by with_reducible assumption) | with_reducible exact NQ.trioG (NQ.res (by with_reducible assumption) _ _) | with_reducible exact SDg_drew (by with_reducible assumption))
    ((go_at_call 18; refine (HCl.out _ _ HM3.out).mono ?_; rintro e w5 ⟨rfl, M5⟩; obtain ⟨z0, z1, z2, z3⟩ := two_at (M5.blk (W.heap.size + 1 + 1, nlB) (List.mem_cons_self ..))))
  have M6 := NQ.res M5 (.slice va L2.length vc) (.slice au B.length cu)
  have HF : Hid (RS w g K ((w5.setCell ⟨W.heap.size + 1 + 1, 0, none⟩ (.slice va L2.length vc)).setCell ⟨W.heap.size + 1 + 1, 1, none⟩ (.slice au B.length cu)) R2 A (.slice va L2.length vc) (.slice au B.length cu) L2 B) := ⟨K1, KA, M6.sub (by repeat (first | exact List.Sublist.refl _ | refine List.Sublist.cons _ ?_)), HRow.out, hA⟩
  obtain ⟨y0, y1, y2, y3⟩ := two_at (M6.blk (W.heap.size + 1 + 1, nB (.slice va L2.length vc) (.slice au B.length cu)) (List.mem_cons_self ..))
  rename_i hH9
  clear hH9 M5 M6 hS HM3 z0 z1 z2 z3
  generalize (w5.setCell ⟨W.heap.size + 1 + 1, 0, none⟩ (.slice va L2.length vc)).setCell ⟨W.heap.size + 1 + 1, 1, none⟩ (.slice au B.length cu) = Z at *
  go_wp2_with fail
  try simp only [Exit.inBlock, Exit.then]
  refine bodyPost_ret (v := .tuple #[.agg #[(.slice va L2.length vc), (.slice au B.length cu)], .bool true]) ?_ rfl ⟨_, _, _, _, _, _, rfl, HF.out, HR2.out, hlen2, Nat.le_succ _⟩
  rw [results_cs rfl]; go_simp
set_option maxRecDepth 100000 in
set_option maxHeartbeats 4000000 in
theorem dg2_any {w W : World} {R : Nat → List Pk} {A : Nat → Bool} {g : Nat} {KL KA K : List (Nat × Obj)} {a0 au : Option Addr} {cap0 cu : Nat} {L : List Pk} {B : List (Int × Int)} (h : NQ w R A g (KL ++ (KA ++ K)) W) (hL : RowS KL 7 (.slice a0 L.length cap0) L.length (pCells L)) (hA : RowS KA 2 (.slice au B.length cu) B.length (h2V B)) (hrel : Rel R A L B) (hl : L.length ≤ 400) (_hbl : B.length ≤ 1000) (p : Pk) (f t i : Int) (on : Bool) :
    Calls Try.prog 10 #[nP g, .agg #[(.slice a0 L.length cap0), (.slice au B.length cu)], acV ⟨2, p, f, t, i, on⟩] W fun e w' => DoQ w g K B.length e w' := by
  obtain ⟨p0, p1, p2, p3, p4, p5, p6⟩ := p
  have hcn : cntN R 256 ≤ 1000 := by rw [hrel.cnt]; omega
  have HM : Hid (NQ w R A g ([(W.heap.size + 1 + 1, nlB), (W.heap.size + 1, acB ⟨2, ⟨p0, p1, p2, p3, p4, p5, p6⟩, f, t, i, on⟩), (W.heap.size, nB (.slice a0 L.length cap0) (.slice au B.length cu)), (W.heap.size + 1 + 1 + 1, hB f t)] ++ (KL ++ (KA ++ K))) (doV W (.slice a0 L.length cap0) (.slice au B.length cu) ⟨2, ⟨p0, p1, p2, p3, p4, p5, p6⟩, f, t, i, on⟩)) := h.boxesG _ _ _
  have hrow : IsRow (doV W (.slice a0 L.length cap0) (.slice au B.length cu) ⟨2, ⟨p0, p1, p2, p3, p4, p5, p6⟩, f, t, i, on⟩) 7 (.slice a0 L.length cap0) L.length (pCells L) := hL _ fun q hq => HM.out.blk q (by simp [hq])
  have hrou : IsRow (doV W (.slice a0 L.length cap0) (.slice au B.length cu) ⟨2, ⟨p0, p1, p2, p3, p4, p5, p6⟩, f, t, i, on⟩) 2 (.slice au B.length cu) B.length (h2V B) := hA _ fun q hq => HM.out.blk q (by simp [hq])
  have hrel2 := (show (losL L f t i, thI L f t i).2 = lookI R f t i ∧ Rel (loseR R f t i) A (losL L f t i, thI L f t i).1 B from ⟨hrel.there f t i, hrel.lose f t i⟩)
  have hlen2 := (show (losL L f t i, thI L f t i).1.length ≤ 400 from los_len f t i hl)
  generalize hpr : (losL L f t i, thI L f t i) = SN at *
  obtain ⟨L2, E2⟩ := SN
  dsimp only at hrel2 hlen2
  have HRf : Hid (Calls Try.prog 29 #[.agg #[(.slice a0 L.length cap0), (.slice au B.length cu)], hV f t, .int .i64 i] (doV W (.slice a0 L.length cap0) (.slice au B.length cu) ⟨2, ⟨p0, p1, p2, p3, p4, p5, p6⟩, f, t, i, on⟩) fun e w' => SnPost (L2, E2) (.slice a0 L.length cap0) (.slice au B.length cu) (doV W (.slice a0 L.length cap0) (.slice au B.length cu) ⟨2, ⟨p0, p1, p2, p3, p4, p5, p6⟩, f, t, i, on⟩) e w') := by rw [← hpr]; exact refLose_any _ au B.length cu L f t i _ hrow (by omega)
  have HCl : Hid (∀ K' W', NQ w R A g K' W' → Calls Try.prog 24 #[nP g, hV f t, .int .i64 i] W' fun e w' => e = .returned (.int .i64 E2) ∧ NQ w (loseR R f t i) (A) g K' w') := fun K' W' h' => by rw [hrel2.1]; exact h'.call fun V hv => lose_any f t i hv hcn
  have HR2 : Hid (Rel (loseR R f t i) (A) L2 B) := hrel2.2
  clear hrel2 hrow hrou hpr h hrel
  generalize loseR R f t i = R2 at *
  dsimp only [doV, acB, acA, acV] at *
  go_enter Try.func10, Try.ntmps10
  go_wp2_with fail
  refine HRf.out.mono ?_
  rintro e w1 ⟨v2, rfl, hr2, hb2, hf2⟩
  obtain ⟨va, vc, rfl⟩ := hr2.form
  obtain ⟨K1, M1', hL1⟩ := NQ.freshB (X := [(W.heap.size + 1 + 1, nlB), (W.heap.size + 1, acB ⟨2, ⟨p0, p1, p2, p3, p4, p5, p6⟩, f, t, i, on⟩), (W.heap.size, nB (.slice a0 L.length cap0) (.slice au B.length cu)), (W.heap.size + 1 + 1 + 1, hB f t)]) (K0 := KL) (K := KA ++ K) HM.out hL hb2 hr2 hf2
  have HRow : Hid (RowS K1 7 (.slice va L2.length vc) L2.length (pCells L2)) := hL1
  have M2 := (M1'.alloc (nB (.slice va L2.length vc) (.slice au B.length cu))).perm (List.Perm.swap _ _ _)
  have hS : SDg (W.heap.size + 1) w1.heap.size W.heap.size ⟨2, ⟨p0, p1, p2, p3, p4, p5, p6⟩, f, t, i, on⟩ (.slice va L2.length vc) (.slice au B.length cu) (.slice a0 L.length cap0) (w1.alloc (nB (.slice va L2.length vc) (.slice au B.length cu))) := NQ.trioG M2
  have HM3 : Hid (NQ w R A g ((W.heap.size + 1 + 1, nlB) :: (w1.heap.size, nB (.slice va L2.length vc) (.slice au B.length cu)) :: (W.heap.size + 1, acB ⟨2, ⟨p0, p1, p2, p3, p4, p5, p6⟩, f, t, i, on⟩) :: (W.heap.size, nB (.slice a0 L.length cap0) (.slice au B.length cu)) :: (W.heap.size + 1 + 1 + 1, hB f t) :: (K1 ++ (KA ++ K))) (w1.alloc (nB (.slice va L2.length vc) (.slice au B.length cu))).drew) := M2.below (below_drw _)
  clear M1' M2 hb2 hf2 hr2 HM HRf hL1
  go_wp2_with fail
  generalize w1.alloc (nB (.slice va L2.length vc) (.slice au B.length cu)) = W3 at *
  generalize w1.heap.size = b14 at *
  go_region_held3 (fun w' => SDg (W.heap.size + 1) b14 W.heap.size ⟨2, ⟨p0, p1, p2, p3, p4, p5, p6⟩, f, t, i, on⟩ (.slice va L2.length vc) (.slice au B.length cu) (.slice a0 L.length cap0) w')
    (first | with_reducible assumption | with_reducible exact NQ.trioG (by with_reducible assumption) | with_reducible exact NQ.trioG (NQ.res (by with_reducible assumption) _ _) | with_reducible exact SDg_drew (by with_reducible assumption))
    ((go_at_call 24; refine (HCl.out _ _ HM3.out).mono ?_; rintro e w5 ⟨rfl, M5⟩; obtain ⟨z0, z1, z2, z3⟩ := two_at (M5.blk (W.heap.size + 1 + 1, nlB) (List.mem_cons_self ..))))
  have M6 := NQ.res M5 (.slice va L2.length vc) (.slice au B.length cu)
  have HF : Hid (RS w g K ((w5.setCell ⟨W.heap.size + 1 + 1, 0, none⟩ (.slice va L2.length vc)).setCell ⟨W.heap.size + 1 + 1, 1, none⟩ (.slice au B.length cu)) R2 A (.slice va L2.length vc) (.slice au B.length cu) L2 B) := ⟨K1, KA, M6.sub (by repeat (first | exact List.Sublist.refl _ | refine List.Sublist.cons _ ?_)), HRow.out, hA⟩
  obtain ⟨y0, y1, y2, y3⟩ := two_at (M6.blk (W.heap.size + 1 + 1, nB (.slice va L2.length vc) (.slice au B.length cu)) (List.mem_cons_self ..))
  rename_i hH9
  clear hH9 M5 M6 hS HM3 z0 z1 z2 z3
  generalize (w5.setCell ⟨W.heap.size + 1 + 1, 0, none⟩ (.slice va L2.length vc)).setCell ⟨W.heap.size + 1 + 1, 1, none⟩ (.slice au B.length cu) = Z at *
  go_wp2_with fail
  try simp only [Exit.inBlock, Exit.then]
  refine bodyPost_ret (v := .tuple #[.agg #[(.slice va L2.length vc), (.slice au B.length cu)], .bool true]) ?_ rfl ⟨_, _, _, _, _, _, rfl, HF.out, HR2.out, hlen2, Nat.le_succ _⟩
  rw [results_cs rfl]; go_simp
set_option maxRecDepth 100000 in
set_option maxHeartbeats 4000000 in
theorem dg3_any {w W : World} {R : Nat → List Pk} {A : Nat → Bool} {g : Nat} {KL KA K : List (Nat × Obj)} {a0 au : Option Addr} {cap0 cu : Nat} {L : List Pk} {B : List (Int × Int)} (h : NQ w R A g (KL ++ (KA ++ K)) W) (hL : RowS KL 7 (.slice a0 L.length cap0) L.length (pCells L)) (hA : RowS KA 2 (.slice au B.length cu) B.length (h2V B)) (hrel : Rel R A L B) (hl : L.length ≤ 400) (_hbl : B.length ≤ 1000) (p : Pk) (f t i : Int) (on : Bool) :
    Calls Try.prog 10 #[nP g, .agg #[(.slice a0 L.length cap0), (.slice au B.length cu)], acV ⟨3, p, f, t, i, on⟩] W fun e w' => DoQ w g K B.length e w' := by
  obtain ⟨p0, p1, p2, p3, p4, p5, p6⟩ := p
  have hcn : cntN R 256 ≤ 1000 := by rw [hrel.cnt]; omega
  have HM : Hid (NQ w R A g ([(W.heap.size + 1 + 1, nlB), (W.heap.size + 1, acB ⟨3, ⟨p0, p1, p2, p3, p4, p5, p6⟩, f, t, i, on⟩), (W.heap.size, nB (.slice a0 L.length cap0) (.slice au B.length cu)), (W.heap.size + 1 + 1 + 1, hB f t)] ++ (KL ++ (KA ++ K))) (doV W (.slice a0 L.length cap0) (.slice au B.length cu) ⟨3, ⟨p0, p1, p2, p3, p4, p5, p6⟩, f, t, i, on⟩)) := h.boxesG _ _ _
  have hrow : IsRow (doV W (.slice a0 L.length cap0) (.slice au B.length cu) ⟨3, ⟨p0, p1, p2, p3, p4, p5, p6⟩, f, t, i, on⟩) 7 (.slice a0 L.length cap0) L.length (pCells L) := hL _ fun q hq => HM.out.blk q (by simp [hq])
  have hrou : IsRow (doV W (.slice a0 L.length cap0) (.slice au B.length cu) ⟨3, ⟨p0, p1, p2, p3, p4, p5, p6⟩, f, t, i, on⟩) 2 (.slice au B.length cu) B.length (h2V B) := hA _ fun q hq => HM.out.blk q (by simp [hq])
  have hrel2 := hrel.twice f t i
  have hlen2 := tw_len f t i hl
  generalize hpr : twL L f t i = SN at *
  obtain ⟨L2, E2⟩ := SN
  dsimp only at hrel2 hlen2
  have HRf : Hid (Calls Try.prog 30 #[.agg #[(.slice a0 L.length cap0), (.slice au B.length cu)], hV f t, .int .i64 i] (doV W (.slice a0 L.length cap0) (.slice au B.length cu) ⟨3, ⟨p0, p1, p2, p3, p4, p5, p6⟩, f, t, i, on⟩) fun e w' => SnPost (L2, E2) (.slice a0 L.length cap0) (.slice au B.length cu) (doV W (.slice a0 L.length cap0) (.slice au B.length cu) ⟨3, ⟨p0, p1, p2, p3, p4, p5, p6⟩, f, t, i, on⟩) e w') := by rw [← hpr]; exact refTwice_any _ au B.length cu L f t i _ hrow (by omega)
  have HCl : Hid (∀ K' W', NQ w R A g K' W' → Calls Try.prog 20 #[nP g, hV f t, .int .i64 i] W' fun e w' => e = .returned (.int .i64 E2) ∧ NQ w (twiceR R f t i) (A) g K' w') := fun K' W' h' => by rw [hrel2.1]; exact h'.call fun V hv => twice_any f t i hv hcn
  have HR2 : Hid (Rel (twiceR R f t i) (A) L2 B) := hrel2.2
  clear hrel2 hrow hrou hpr h hrel
  generalize twiceR R f t i = R2 at *
  dsimp only [doV, acB, acA, acV] at *
  go_enter Try.func10, Try.ntmps10
  go_wp2_with fail
  refine HRf.out.mono ?_
  rintro e w1 ⟨v2, rfl, hr2, hb2, hf2⟩
  obtain ⟨va, vc, rfl⟩ := hr2.form
  obtain ⟨K1, M1', hL1⟩ := NQ.freshB (X := [(W.heap.size + 1 + 1, nlB), (W.heap.size + 1, acB ⟨3, ⟨p0, p1, p2, p3, p4, p5, p6⟩, f, t, i, on⟩), (W.heap.size, nB (.slice a0 L.length cap0) (.slice au B.length cu)), (W.heap.size + 1 + 1 + 1, hB f t)]) (K0 := KL) (K := KA ++ K) HM.out hL hb2 hr2 hf2
  have HRow : Hid (RowS K1 7 (.slice va L2.length vc) L2.length (pCells L2)) := hL1
  have M2 := (M1'.alloc (nB (.slice va L2.length vc) (.slice au B.length cu))).perm (List.Perm.swap _ _ _)
  have hS : SDg (W.heap.size + 1) w1.heap.size W.heap.size ⟨3, ⟨p0, p1, p2, p3, p4, p5, p6⟩, f, t, i, on⟩ (.slice va L2.length vc) (.slice au B.length cu) (.slice a0 L.length cap0) (w1.alloc (nB (.slice va L2.length vc) (.slice au B.length cu))) := NQ.trioG M2
  have HM3 : Hid (NQ w R A g ((W.heap.size + 1 + 1, nlB) :: (w1.heap.size, nB (.slice va L2.length vc) (.slice au B.length cu)) :: (W.heap.size + 1, acB ⟨3, ⟨p0, p1, p2, p3, p4, p5, p6⟩, f, t, i, on⟩) :: (W.heap.size, nB (.slice a0 L.length cap0) (.slice au B.length cu)) :: (W.heap.size + 1 + 1 + 1, hB f t) :: (K1 ++ (KA ++ K))) (w1.alloc (nB (.slice va L2.length vc) (.slice au B.length cu))).drew) := M2.below (below_drw _)
  clear M1' M2 hb2 hf2 hr2 HM HRf hL1
  go_wp2_with fail
  generalize w1.alloc (nB (.slice va L2.length vc) (.slice au B.length cu)) = W3 at *
  generalize w1.heap.size = b14 at *
  go_region_held3 (fun w' => SDg (W.heap.size + 1) b14 W.heap.size ⟨3, ⟨p0, p1, p2, p3, p4, p5, p6⟩, f, t, i, on⟩ (.slice va L2.length vc) (.slice au B.length cu) (.slice a0 L.length cap0) w')
    (first | with_reducible assumption | with_reducible exact NQ.trioG (by with_reducible assumption) | with_reducible exact NQ.trioG (NQ.res (by with_reducible assumption) _ _) | with_reducible exact SDg_drew (by with_reducible assumption))
    ((go_at_call 20; refine (HCl.out _ _ HM3.out).mono ?_; rintro e w5 ⟨rfl, M5⟩; obtain ⟨z0, z1, z2, z3⟩ := two_at (M5.blk (W.heap.size + 1 + 1, nlB) (List.mem_cons_self ..))))
  have M6 := NQ.res M5 (.slice va L2.length vc) (.slice au B.length cu)
  have HF : Hid (RS w g K ((w5.setCell ⟨W.heap.size + 1 + 1, 0, none⟩ (.slice va L2.length vc)).setCell ⟨W.heap.size + 1 + 1, 1, none⟩ (.slice au B.length cu)) R2 A (.slice va L2.length vc) (.slice au B.length cu) L2 B) := ⟨K1, KA, M6.sub (by repeat (first | exact List.Sublist.refl _ | refine List.Sublist.cons _ ?_)), HRow.out, hA⟩
  obtain ⟨y0, y1, y2, y3⟩ := two_at (M6.blk (W.heap.size + 1 + 1, nB (.slice va L2.length vc) (.slice au B.length cu)) (List.mem_cons_self ..))
  rename_i hH9
  clear hH9 M5 M6 hS HM3 z0 z1 z2 z3
  generalize (w5.setCell ⟨W.heap.size + 1 + 1, 0, none⟩ (.slice va L2.length vc)).setCell ⟨W.heap.size + 1 + 1, 1, none⟩ (.slice au B.length cu) = Z at *
  go_wp2_with fail
  try simp only [Exit.inBlock, Exit.then]
  refine bodyPost_ret (v := .tuple #[.agg #[(.slice va L2.length vc), (.slice au B.length cu)], .bool true]) ?_ rfl ⟨_, _, _, _, _, _, rfl, HF.out, HR2.out, hlen2, Nat.le_succ _⟩
  rw [results_cs rfl]; go_simp
set_option maxRecDepth 100000 in
set_option maxHeartbeats 4000000 in
theorem dg4_any {w W : World} {R : Nat → List Pk} {A : Nat → Bool} {g : Nat} {KL KA K : List (Nat × Obj)} {a0 au : Option Addr} {cap0 cu : Nat} {L : List Pk} {B : List (Int × Int)} (h : NQ w R A g (KL ++ (KA ++ K)) W) (hL : RowS KL 7 (.slice a0 L.length cap0) L.length (pCells L)) (hA : RowS KA 2 (.slice au B.length cu) B.length (h2V B)) (hrel : Rel R A L B) (hl : L.length ≤ 400) (hbl : B.length ≤ 1000) (p : Pk) (f t i : Int) (on : Bool) :
    Calls Try.prog 10 #[nP g, .agg #[(.slice a0 L.length cap0), (.slice au B.length cu)], acV ⟨4, p, f, t, i, on⟩] W fun e w' => DoQ w g K B.length e w' := by
  obtain ⟨p0, p1, p2, p3, p4, p5, p6⟩ := p
  have hcn : cntN R 256 ≤ 1000 := by rw [hrel.cnt]; omega
  have HM : Hid (NQ w R A g ([(W.heap.size + 1 + 1, nlB), (W.heap.size + 1, acB ⟨4, ⟨p0, p1, p2, p3, p4, p5, p6⟩, f, t, i, on⟩), (W.heap.size, nB (.slice a0 L.length cap0) (.slice au B.length cu)), (W.heap.size + 1 + 1 + 1, hB f t)] ++ (KL ++ (KA ++ K))) (doV W (.slice a0 L.length cap0) (.slice au B.length cu) ⟨4, ⟨p0, p1, p2, p3, p4, p5, p6⟩, f, t, i, on⟩)) := h.boxesG _ _ _
  have hrow : IsRow (doV W (.slice a0 L.length cap0) (.slice au B.length cu) ⟨4, ⟨p0, p1, p2, p3, p4, p5, p6⟩, f, t, i, on⟩) 7 (.slice a0 L.length cap0) L.length (pCells L) := hL _ fun q hq => HM.out.blk q (by simp [hq])
  have hrou : IsRow (doV W (.slice a0 L.length cap0) (.slice au B.length cu) ⟨4, ⟨p0, p1, p2, p3, p4, p5, p6⟩, f, t, i, on⟩) 2 (.slice au B.length cu) B.length (h2V B) := hA _ fun q hq => HM.out.blk q (by simp [hq])
  have hrel2 := hrel.part f t on
  have hlen2 := prt_len (B := B) f t on
  generalize hpr : prtR B f t on = SN at *
  obtain ⟨B2, E2⟩ := SN
  dsimp only at hrel2 hlen2
  have HRf : Hid (Calls Try.prog 31 #[.agg #[(.slice a0 L.length cap0), (.slice au B.length cu)], hV f t, .bool on] (doV W (.slice a0 L.length cap0) (.slice au B.length cu) ⟨4, ⟨p0, p1, p2, p3, p4, p5, p6⟩, f, t, i, on⟩) fun e w' => PtPost (B2, E2) (.slice a0 L.length cap0) (.slice au B.length cu) (doV W (.slice a0 L.length cap0) (.slice au B.length cu) ⟨4, ⟨p0, p1, p2, p3, p4, p5, p6⟩, f, t, i, on⟩) e w') := by rw [← hpr]; exact part_any a0 L.length cap0 _ B f t on _ hrou (by omega)
  have HCl : Hid (∀ K' W', NQ w R A g K' W' → Calls Try.prog 25 #[nP g, .int .i64 f, .int .i64 t, .bool on] W' fun e w' => e = .returned (.int .i64 E2) ∧ NQ w (R) (apartA A f t on) g K' w') := fun K' W' h' => by rw [hrel2.1]; exact h'.call fun V hv => apart_any f t on hv
  have HR2 : Hid (Rel (R) (apartA A f t on) L B2) := hrel2.2
  clear hrel2 hrow hrou hpr h hrel
  generalize apartA A f t on = A2 at *
  dsimp only [doV, acB, acA, acV] at *
  go_enter Try.func10, Try.ntmps10
  go_wp2_with fail
  refine HRf.out.mono ?_
  rintro e w1 ⟨v2, rfl, hr2, hb2, hf2⟩
  obtain ⟨ua, uc, rfl⟩ := hr2.form
  obtain ⟨K1, M1, hA1⟩ := NQ.freshB (X := [(W.heap.size + 1 + 1, nlB), (W.heap.size + 1, acB ⟨4, ⟨p0, p1, p2, p3, p4, p5, p6⟩, f, t, i, on⟩), (W.heap.size, nB (.slice a0 L.length cap0) (.slice au B.length cu)), (W.heap.size + 1 + 1 + 1, hB f t)] ++ KL) (K0 := KA) (K := K) (by rw [List.append_assoc]; exact HM.out) hA hb2 hr2 hf2
  have M1' : NQ w R A g ([(W.heap.size + 1 + 1, nlB), (W.heap.size + 1, acB ⟨4, ⟨p0, p1, p2, p3, p4, p5, p6⟩, f, t, i, on⟩), (W.heap.size, nB (.slice a0 L.length cap0) (.slice au B.length cu)), (W.heap.size + 1 + 1 + 1, hB f t)] ++ (KL ++ (K1 ++ K))) w1 := by rw [← List.append_assoc]; exact M1
  have HRow : Hid (RowS K1 2 (.slice ua B2.length uc) B2.length (h2V B2)) := hA1
  have M2 := (M1'.alloc (nB (.slice a0 L.length cap0) (.slice ua B2.length uc))).perm (List.Perm.swap _ _ _)
  have hS : SDg (W.heap.size + 1) w1.heap.size W.heap.size ⟨4, ⟨p0, p1, p2, p3, p4, p5, p6⟩, f, t, i, on⟩ (.slice a0 L.length cap0) (.slice ua B2.length uc) (.slice a0 L.length cap0) (w1.alloc (nB (.slice a0 L.length cap0) (.slice ua B2.length uc))) := NQ.trioG M2
  have HM3 : Hid (NQ w R A g ((W.heap.size + 1 + 1, nlB) :: (w1.heap.size, nB (.slice a0 L.length cap0) (.slice ua B2.length uc)) :: (W.heap.size + 1, acB ⟨4, ⟨p0, p1, p2, p3, p4, p5, p6⟩, f, t, i, on⟩) :: (W.heap.size, nB (.slice a0 L.length cap0) (.slice au B.length cu)) :: (W.heap.size + 1 + 1 + 1, hB f t) :: (KL ++ (K1 ++ K))) (w1.alloc (nB (.slice a0 L.length cap0) (.slice ua B2.length uc))).drew) := M2.below (below_drw _)
  clear M1' M2 hb2 hf2 hr2 HM HRf M1 hA1
  go_wp2_with fail
  generalize w1.alloc (nB (.slice a0 L.length cap0) (.slice ua B2.length uc)) = W3 at *
  generalize w1.heap.size = b14 at *
  go_region_held3 (fun w' => SDg (W.heap.size + 1) b14 W.heap.size ⟨4, ⟨p0, p1, p2, p3, p4, p5, p6⟩, f, t, i, on⟩ (.slice a0 L.length cap0) (.slice ua B2.length uc) (.slice a0 L.length cap0) w')
    (first | with_reducible assumption | with_reducible exact NQ.trioG (by with_reducible assumption) | with_reducible exact NQ.trioG (NQ.res (by with_reducible assumption) _ _) | with_reducible exact SDg_drew (by with_reducible assumption))
    ((go_at_call 25; refine (HCl.out _ _ HM3.out).mono ?_; rintro e w5 ⟨rfl, M5⟩; obtain ⟨z0, z1, z2, z3⟩ := two_at (M5.blk (W.heap.size + 1 + 1, nlB) (List.mem_cons_self ..))))
  have M6 := NQ.res M5 (.slice a0 L.length cap0) (.slice ua B2.length uc)
  have HF : Hid (RS w g K ((w5.setCell ⟨W.heap.size + 1 + 1, 0, none⟩ (.slice a0 L.length cap0)).setCell ⟨W.heap.size + 1 + 1, 1, none⟩ (.slice ua B2.length uc)) R A2 (.slice a0 L.length cap0) (.slice ua B2.length uc) L B2) := ⟨KL, K1, M6.sub (by repeat (first | exact List.Sublist.refl _ | refine List.Sublist.cons _ ?_)), hL, HRow.out⟩
  obtain ⟨y0, y1, y2, y3⟩ := two_at (M6.blk (W.heap.size + 1 + 1, nB (.slice a0 L.length cap0) (.slice ua B2.length uc)) (List.mem_cons_self ..))
  rename_i hH9
  clear hH9 M5 M6 hS HM3 z0 z1 z2 z3
  generalize (w5.setCell ⟨W.heap.size + 1 + 1, 0, none⟩ (.slice a0 L.length cap0)).setCell ⟨W.heap.size + 1 + 1, 1, none⟩ (.slice ua B2.length uc) = Z at *
  go_wp2_with fail
  try simp only [Exit.inBlock, Exit.then]
  refine bodyPost_ret (v := .tuple #[.agg #[(.slice a0 L.length cap0), (.slice ua B2.length uc)], .bool true]) ?_ rfl ⟨_, _, _, _, _, _, rfl, HF.out, HR2.out, hl, hlen2⟩
  rw [results_cs rfl]; go_simp
end Go.Proofs.Ythbhgblgacoklaa
