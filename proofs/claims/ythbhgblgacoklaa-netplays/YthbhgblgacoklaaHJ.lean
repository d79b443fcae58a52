/- The net's Take where a packet comes: its walk. -/
import Derived.Test.YthbhgblgacoklaaHI
namespace Go.Proofs.Ythbhgblgacoklaa
open Go.RowKit

/-- A world but for one block. -/
structure But (W Z : World) (B : Nat) : Prop where
  os : Z.os = W.os
  tape : Z.tape = W.tape
  output : Z.output = W.output
  size : Z.heap.size = W.heap.size
  block : ∀ k, k ≠ B → Z.heap[k]? = W.heap[k]?
theorem But.refl (W : World) (B : Nat) : But W W B := ⟨rfl, rfl, rfl, rfl, fun _ _ => rfl⟩
theorem But.set {W Z : World} {B : Nat} (h : But W Z B) (o : Nat) (v : Value) : But W (Z.setCell ⟨B, o, none⟩ v) B :=
  ⟨h.os, h.tape, h.output, (by show (Z.heap.modify B _).size = _; rw [Array.size_modify]; exact h.size), fun k hk => (show (Z.heap.modify B _)[k]? = _ by rw [Array.getElem?_modify, if_neg (Ne.symm hk)]; exact h.block k hk)⟩
theorem set7_but (W : World) (B : Nat) (x0 x1 x2 x3 x4 x5 x6 : Value) : But W (((((((W.setCell ⟨B, 0, none⟩ x0).setCell ⟨B, 1, none⟩ x1).setCell ⟨B, 2, none⟩ x2).setCell ⟨B, 3, none⟩ x3).setCell ⟨B, 4, none⟩ x4).setCell ⟨B, 5, none⟩ x5).setCell ⟨B, 6, none⟩ x6) B :=
  (((((((But.refl W B).set 0 x0).set 1 x1).set 2 x2).set 3 x3).set 4 x4).set 5 x5).set 6 x6
/-- A block apart from the net may be written. -/
theorem NetV.but {base : Nat} {w Z : World} {g : Nat} {V : Nat → Value} {R : Nat → List Pk} {A : Nat → Bool} (h : NetV base w g V R A) {B : Nat} (hz : But w Z B) (hB : ¬ Fp g V B) : NetV base Z g V R A :=
  h.keep fun k hk => hz.block k fun e => hB (by rw [← e]; exact hk)
theorem NStep.but {w w1 Z : World} {g : Nat} {V V' : Nat → Value} (h : NStep w g V V' w1) {B : Nat} (hz : But w1 Z B) (hB : w.heap.size ≤ B) : NStep w g V V' Z :=
  ⟨hz.os.trans h.os, hz.tape.trans h.tape, hz.output.trans h.output, by rw [hz.size]; exact h.size, fun k hk hn => (hz.block k (by omega)).trans (h.block k hk hn), h.fp⟩
theorem p_at {w : World} {base : Nat} {v : Value} {l : List Pk} (h : OwnW w base v l) (k : Nat) (hk : k < l.length) :
    ∃ rb cap, v = .slice (some ⟨rb, 0, none⟩) l.length cap ∧ rb < w.heap.size ∧ w.cell? ⟨rb, k * 7, none⟩ = some (.int .i64 l[k].f) ∧ w.cell? ⟨rb, k * 7 + 1, none⟩ = some (.int .i64 l[k].t) ∧ w.cell? ⟨rb, k * 7 + 2, none⟩ = some (.int .i64 l[k].fl) ∧ w.cell? ⟨rb, k * 7 + 3, none⟩ = some (.int .i64 l[k].tl) ∧ w.cell? ⟨rb, k * 7 + 4, none⟩ = some (.int .i64 l[k].sq) ∧ w.cell? ⟨rb, k * 7 + 5, none⟩ = some (.int .i64 l[k].ak) ∧ w.cell? ⟨rb, k * 7 + 6, none⟩ = some (.string l[k].x) := by
  rcases h with ⟨-, rfl⟩ | ⟨rb, cap, cur, rfl, hrb, hrow, hlc, hcm, hcs, htk⟩
  · simp at hk
  have hcell : ∀ j, j < 7 → w.cell? ⟨rb, k * 7 + j, none⟩ = (enP l[k])[j]? := fun j hj => by
    have e := pCells_get l k hk j hj
    rw [cell_of_row w rb _ cur _ (0, 0) hrow]
    rw [← e, ← htk, List.getElem?_take, if_pos (by omega)]
    simp
  exact ⟨rb, cap, rfl, (Array.getElem?_eq_some_iff.1 hrow).1, hcell 0 (by omega), hcell 1 (by omega), hcell 2 (by omega), hcell 3 (by omega), hcell 4 (by omega), hcell 5 (by omega), hcell 6 (by omega)⟩
set_option maxRecDepth 100000 in
set_option maxHeartbeats 4000000 in
theorem take_ok {base : Nat} {w : World} {g : Nat} {V : Nat → Value} {R : Nat → List Pk} {A : Nat → Bool} (f t i : Int) (hv : NetV base w g V R A) (hc : cntN R 256 ≤ 1000) (hl : lookI R f t i = 0) (ha : A (rix f t) = false) :
    Calls Try.prog 19 #[nP g, hV f t, .int .i64 i] w fun e w' => NP base w g V (up R (rix f t) (cutP (R (rix f t)) i.toNat)) A (.tuple #[pV ((R (rix f t))[i.toNat]?.getD zP), .int .i64 0]) e w' := by
  obtain ⟨hh, k, rfl, hk⟩ := look_ok hl
  have HD : Hid (∀ w', Below w.heap.size w w' → Calls Try.prog 39 #[nP g, hV f t, .int .i64 (k : Int)] w' fun e w'' => NP base w' g V (up R (rix f t) (cutP (R (rix f t)) k)) A (.tuple #[]) e w'') := fun w' hb => drop_any f t k (hv.below hb) hc hh hk
  obtain ⟨a, b, rfl, rfl, h1, h2, h3, h4, h5⟩ := hop_nat hh
  rw [rix_nat] at *
  have hB1 : Below w.heap.size w ((w.alloc (.cells #[.int .i64 a, .int .i64 b] 33)).alloc (.cells (pA zP) 31)) := (al_b w _).trans ((al_b _ _).mono (by simp))
  have HB : Hid (Below w.heap.size w ((w.alloc (.cells #[.int .i64 a, .int .i64 b] 33)).alloc (.cells (pA zP) 31))) := hB1
  have HL : Hid (Calls Try.prog 38 #[nP g, hV a b, .int .i64 (k : Int)] ((w.alloc (.cells #[.int .i64 a, .int .i64 b] 33)).alloc (.cells (pA zP) 31)) fun e w' => e = .returned (.int .i64 0) ∧ Below ((w.alloc (.cells #[.int .i64 a, .int .i64 b] 33)).alloc (.cells (pA zP) 31)).heap.size ((w.alloc (.cells #[.int .i64 a, .int .i64 b] 33)).alloc (.cells (pA zP) 31)) w') := by
    have := look_any a b k (hv.below hB1)
    rw [hl] at this
    exact this
  have HZ : Hid (∀ w', Below ((w.alloc (.cells #[.int .i64 a, .int .i64 b] 33)).alloc (.cells (pA zP) 31)).heap.size ((w.alloc (.cells #[.int .i64 a, .int .i64 b] 33)).alloc (.cells (pA zP) 31)) w' → w'.heap[w.heap.size + 1]? = some (.cells (pA zP) 31 (0, 0)) ∧ w'.heap[w.heap.size]? = some (.cells #[.int .i64 a, .int .i64 b] 33 (0, 0))) := fun w' h => ⟨(h.block _ (by simp)).trans (by show ((w.heap.push _).push _)[w.heap.size + 1]? = _; rw [Array.getElem?_push, if_pos (by simp)]), (h.block _ (by simp; omega)).trans (by show ((w.heap.push _).push _)[w.heap.size]? = _; rw [Array.getElem?_push, if_neg (by simp), Array.getElem?_push, if_pos rfl])⟩
  have HE : Hid (∀ w', Below w.heap.size w w' → NetV base w' g V R A) := fun w' hb => hv.below hb
  have HNF : Hid (∀ k, w.heap.size ≤ k → ¬ Fp g V k) := fun k hk hf => by have := (hv.lt hf).2; omega
  have q1 : (0 : Int) ≤ (a : Int) := by omega
  have q2 : (a : Int) < 16 := by omega
  have q3 : (0 : Int) ≤ (b : Int) := by omega
  have q4 : (b : Int) < 16 := by omega
  have q5 : (0 : Int) ≤ (k : Int) := by omega
  have q6 : (k : Int) < ((R (a * 16 + b)).length : Int) := by omega
  have HX : Hid ((R (a * 16 + b))[(k : Int).toNat]?.getD zP = (R (a * 16 + b))[k]) := by show _ = _; rw [Int.toNat_natCast, List.getElem?_eq_getElem hk]; rfl
  rw [HX.out, Int.toNat_natCast]
  have HOw : Hid (∀ w', Below w.heap.size w w' → OwnW w' base (V (a * 16 + b)) (R (a * 16 + b))) := fun w' hb => (hv.below hb).own (a * 16 + b) (by omega)
  have HgC : Hid (∀ w', Below w.heap.size w w' → w'.cell? ⟨g, a * 16 + b, none⟩ = some (V (a * 16 + b)) ∧ w'.cell? ⟨g, 256 + a * 16 + b, none⟩ = some (.bool false)) := fun w' hb => by
    obtain ⟨c1, c2, -⟩ := (hv.below hb).cell (a * 16 + b) (by omega)
    rw [ha, ← Nat.add_assoc] at c2
    exact ⟨c1, c2⟩
  clear hB1 hv hl hh hc HX ha
  generalize hR' : up R (a * 16 + b) (cutP (R (a * 16 + b)) k) = R' at *
  generalize hVl : V (a * 16 + b) = vl at *
  generalize hRl : R (a * 16 + b) = l at *
  dsimp only [pA, zP] at *
  go_enter Try.func19, Try.ntmps19
  go_wp2_with fail
  refine HL.out.mono ?_
  rintro e w1 ⟨rfl, hb⟩
  obtain ⟨hz, hz2⟩ := HZ.out w1 hb
  have HB1 : Hid (Below w.heap.size w w1) := HB.out.trans (hb.mono HB.out.size)
  obtain ⟨cg, ca⟩ := HgC.out w1 HB1.out
  have x0 : w1.cell? ⟨w.heap.size, 0, none⟩ = some (.int .i64 a) := by rw [Lib.cell_of_heap hz2]; rfl
  have x1 : w1.cell? ⟨w.heap.size, 1, none⟩ = some (.int .i64 b) := by rw [Lib.cell_of_heap hz2]; rfl
  clear hb HL
  go_wp2_with fail
  go_quiet (fail)
  have HB2 : Hid (Below w.heap.size w (w1.drewN nq)) := drewN_b HB1.out nq
  have hzz : (w1.drewN nq).heap[w.heap.size + 1]? = some (.cells #[.int .i64 0, .int .i64 0, .int .i64 0, .int .i64 0, .int .i64 0, .int .i64 0, .string ⟨#[]⟩] 31 (0, 0)) := hz
  have hzz2 : (w1.drewN nq).heap[w.heap.size]? = some (.cells #[.int .i64 a, .int .i64 b] 33 (0, 0)) := hz2
  clear hz hz2 x0 x1 cg ca HB1
  generalize w1.drewN nq = W at *
  obtain ⟨cg, -⟩ := HgC.out W HB2.out
  obtain ⟨rb, cap, rfl, hrb, p0, p1, p2, p3, p4, p5, p6⟩ := p_at (HOw.out W HB2.out) k hk
  have x0 : W.cell? ⟨w.heap.size, 0, none⟩ = some (.int .i64 a) := by rw [Lib.cell_of_heap hzz2]; rfl
  have x1 : W.cell? ⟨w.heap.size, 1, none⟩ = some (.int .i64 b) := by rw [Lib.cell_of_heap hzz2]; rfl
  have hgW := World.block_lt_of_cell? W _ cg
  have hwW : w.heap.size + 1 < W.heap.size := (Array.getElem?_eq_some_iff.1 hzz).1
  obtain ⟨p, HP⟩ : ∃ p, Hid (l[k]'hk = p) := ⟨_, rfl⟩
  rw [HP.out] at p0 p1 p2 p3 p4 p5 p6
  obtain ⟨pf, pt, pfl, ptl, psq, pak, px⟩ := p
  dsimp only at *
  go_wp2_with fail
  go_region_held3 (fun w' => w'.cell? ⟨w.heap.size, 0, none⟩ = some (.int .i64 a) ∧ w'.cell? ⟨w.heap.size, 1, none⟩ = some (.int .i64 b) ∧ w'.cell? ⟨g, a * 16 + b, none⟩ = some (.slice (some ⟨rb, 0, none⟩) l.length cap) ∧ w'.cell? ⟨rb, k * 7, none⟩ = some (.int .i64 pf) ∧ w'.cell? ⟨rb, k * 7 + 1, none⟩ = some (.int .i64 pt) ∧ w'.cell? ⟨rb, k * 7 + 2, none⟩ = some (.int .i64 pfl) ∧ w'.cell? ⟨rb, k * 7 + 3, none⟩ = some (.int .i64 ptl) ∧ w'.cell? ⟨rb, k * 7 + 4, none⟩ = some (.int .i64 psq) ∧ w'.cell? ⟨rb, k * 7 + 5, none⟩ = some (.int .i64 pak) ∧ w'.cell? ⟨rb, k * 7 + 6, none⟩ = some (.string px))
    (first | go_keep)
    (fail)
  have hbA := (al_b W (.cells #[.int .i64 pf, .int .i64 pt, .int .i64 pfl, .int .i64 ptl, .int .i64 psq, .int .i64 pak, .string px] 31)).drew
  have HB3 : Hid (Below w.heap.size w (W.alloc (.cells #[.int .i64 pf, .int .i64 pt, .int .i64 pfl, .int .i64 ptl, .int .i64 psq, .int .i64 pak, .string px] 31)).drew) := HB2.out.trans (hbA.mono HB2.out.size)
  have v0 : (W.alloc (.cells #[.int .i64 pf, .int .i64 pt, .int .i64 pfl, .int .i64 ptl, .int .i64 psq, .int .i64 pak, .string px] 31)).drew.heap[W.heap.size]? = some (.cells #[.int .i64 pf, .int .i64 pt, .int .i64 pfl, .int .i64 ptl, .int .i64 psq, .int .i64 pak, .string px] 31 (0, 0)) := heap_alloc_new W _
  have v1 : (W.alloc (.cells #[.int .i64 pf, .int .i64 pt, .int .i64 pfl, .int .i64 ptl, .int .i64 psq, .int .i64 pak, .string px] 31)).drew.heap[w.heap.size + 1]? = some (.cells #[.int .i64 0, .int .i64 0, .int .i64 0, .int .i64 0, .int .i64 0, .int .i64 0, .string ⟨#[]⟩] 31 (0, 0)) := (Below.heap_alloc W _ _ hwW).trans hzz
  have x0 : (W.alloc (.cells #[.int .i64 pf, .int .i64 pt, .int .i64 pfl, .int .i64 ptl, .int .i64 psq, .int .i64 pak, .string px] 31)).drew.cell? ⟨w.heap.size, 0, none⟩ = some (.int .i64 a) := (World.cell?_of_block (a := ⟨w.heap.size, 0, none⟩) (Below.heap_alloc W _ _ (by show w.heap.size < _; omega))).trans x0
  have x1 : (W.alloc (.cells #[.int .i64 pf, .int .i64 pt, .int .i64 pfl, .int .i64 ptl, .int .i64 psq, .int .i64 pak, .string px] 31)).drew.cell? ⟨w.heap.size, 1, none⟩ = some (.int .i64 b) := (World.cell?_of_block (a := ⟨w.heap.size, 1, none⟩) (Below.heap_alloc W _ _ (by show w.heap.size < _; omega))).trans x1
  have hsz : (W.alloc (.cells #[.int .i64 pf, .int .i64 pt, .int .i64 pfl, .int .i64 ptl, .int .i64 psq, .int .i64 pak, .string px] 31)).drew.heap.size = W.heap.size + 1 := by simp
  clear hbA hzz hzz2 p0 p1 p2 p3 p4 p5 p6 cg HB2 hgW hrb
  generalize W.heap.size = H at *
  generalize (W.alloc (.cells #[.int .i64 pf, .int .i64 pt, .int .i64 pfl, .int .i64 ptl, .int .i64 psq, .int .i64 pak, .string px] 31)).drew = W2 at *
  go_wp2_with fail
  refine (HD.out W2 HB3.out).mono ?_
  rintro e w3 ⟨rfl, V', hv3, hs3⟩
  have t0 := (hs3.far (k := H) (by omega) (HNF.out _ (by omega)))
  have t1 := (hs3.far (k := w.heap.size + 1) (by omega) (HNF.out _ (by omega)))
  have u0 : w3.heap[H]? = some (.cells #[.int .i64 pf, .int .i64 pt, .int .i64 pfl, .int .i64 ptl, .int .i64 psq, .int .i64 pak, .string px] 31 (0, 0)) := t0.1.trans v0
  have u1 : w3.heap[w.heap.size + 1]? = some (.cells #[.int .i64 0, .int .i64 0, .int .i64 0, .int .i64 0, .int .i64 0, .int .i64 0, .string ⟨#[]⟩] 31 (0, 0)) := t1.1.trans v1
  have HF : Hid (∀ Z, But w3 Z (w.heap.size + 1) → NetV base Z g V' R' A ∧ NStep w g V V' Z) := fun Z hz => ⟨hv3.but hz t1.2, ((NStep.of g V HB3.out).trans hs3).but hz (by omega)⟩
  have p0 : w3.cell? ⟨H, 0, none⟩ = some (.int .i64 pf) := by rw [Lib.cell_of_heap u0]; rfl
  have p1 : w3.cell? ⟨H, 1, none⟩ = some (.int .i64 pt) := by rw [Lib.cell_of_heap u0]; rfl
  have p2 : w3.cell? ⟨H, 2, none⟩ = some (.int .i64 pfl) := by rw [Lib.cell_of_heap u0]; rfl
  have p3 : w3.cell? ⟨H, 3, none⟩ = some (.int .i64 ptl) := by rw [Lib.cell_of_heap u0]; rfl
  have p4 : w3.cell? ⟨H, 4, none⟩ = some (.int .i64 psq) := by rw [Lib.cell_of_heap u0]; rfl
  have p5 : w3.cell? ⟨H, 5, none⟩ = some (.int .i64 pak) := by rw [Lib.cell_of_heap u0]; rfl
  have p6 : w3.cell? ⟨H, 6, none⟩ = some (.string px) := by rw [Lib.cell_of_heap u0]; rfl
  have y0 : w3.cell? ⟨w.heap.size + 1, 0, none⟩ = some (.int .i64 0) := by rw [Lib.cell_of_heap u1]; rfl
  have y1 : w3.cell? ⟨w.heap.size + 1, 1, none⟩ = some (.int .i64 0) := by rw [Lib.cell_of_heap u1]; rfl
  have y2 : w3.cell? ⟨w.heap.size + 1, 2, none⟩ = some (.int .i64 0) := by rw [Lib.cell_of_heap u1]; rfl
  have y3 : w3.cell? ⟨w.heap.size + 1, 3, none⟩ = some (.int .i64 0) := by rw [Lib.cell_of_heap u1]; rfl
  have y4 : w3.cell? ⟨w.heap.size + 1, 4, none⟩ = some (.int .i64 0) := by rw [Lib.cell_of_heap u1]; rfl
  have y5 : w3.cell? ⟨w.heap.size + 1, 5, none⟩ = some (.int .i64 0) := by rw [Lib.cell_of_heap u1]; rfl
  have y6 : w3.cell? ⟨w.heap.size + 1, 6, none⟩ = some (.string ⟨#[]⟩) := by rw [Lib.cell_of_heap u1]; rfl
  have fr : ∀ o, w3.frozen? ⟨w.heap.size + 1, o, none⟩ = false := fun o => by simp [World.frozen?, u1]
  clear t0 t1 u0 u1 hv3 hs3 x0 x1 v0 v1
  go_wp2
  try simp only [Exit.inBlock, Exit.then]
  refine bodyPost_ret (v := .tuple #[pV ⟨pf, pt, pfl, ptl, psq, pak, px⟩, .int .i64 0]) ?_ rfl ⟨by rw [HP.out], V', HF.out _ (set7_but _ _ _ _ _ _ _ _ _)⟩
  rw [results_cell_tmp rfl]; go_simp
end Go.Proofs.Ythbhgblgacoklaa
