/- The reference's Put where one is kept that was made no later: its walk. -/
import Derived.Test.YtlndgepoekllkaaGreatDoorZk22
import Derived.Test.YtlndgepoekllkaaGreatDoorZk28
import Derived.Test.YtlndgepoekllkaaGreatDoorZk16
import Derived.Test.YtlndgepoekllkaaGreatDoorZk31
import Derived.Test.YtlndgepoekllkaaGreatDoorZk21
import Derived.Deep.RegionHeld3
namespace Go.Proofs.YtlndgepoekllkaaGreatDoor
open Go.RowKit Go.ChangeMaps

set_option maxRecDepth 100000 in
set_option maxHeartbeats 4000000 in
theorem put17_old (v : Value) (M : List KR) (o : LT) (w : World) (hr : IsRow w 10 v M.length (kCells M)) (hl : M.length ≤ 1000) (hN : ∀ k ∈ M, k.y.t.n.size ≤ 200000) (ho : IsTy w o.t o.vo o.va o.vc) (hq : NmQ o.t) (hn : o.t.n.size ≤ 200000) (hP : chkT o.t = true) (i : Nat) (hi : i < M.length) (hF : fndZ M o.t.n = (i : Int)) (hO : or3 (ordI o.t.nd M[i].y.t.nd) (ordI o.t.lf M[i].y.t.lf) (ordI o.t.sq M[i].y.t.sq) ≥ 0) :
    Calls Tryz.prog 16 #[.agg #[v], ltV o] w fun e w' => e = .returned (.agg #[v, .string M[i].y.t.n, .string M[i].y.t.p, M[i].y.vo, M[i].y.va, M[i].y.vc, .int .i64 M[i].y.t.nd, .int .i64 M[i].y.t.lf, .int .i64 M[i].y.t.sq, .int .i64 0]) ∧ Below w.heap.size w w' := by
  obtain ⟨a0, c0, rfl⟩ := hr.form
  have HCh : Hid (∀ W, Below w.heap.size w W → Calls Tryz.prog 44 #[ltV o] W fun e w' => e = .returned (.bool true) ∧ Below W.heap.size W w') := fun W hb => by
    have := refChk_any o W (ho.below hb) hq
    rw [hP] at this
    exact this
  have HFi : Hid (∀ W, Below w.heap.size w W → Calls Tryz.prog 32 #[.agg #[.slice a0 M.length c0], .string o.t.n] W fun e w' => e = .returned (.int .i64 (fndZ M o.t.n)) ∧ Below W.heap.size W w') := fun W hb => find17_any _ M _ W (hr.below hb) hl (fun k hk => by have := hN k hk; omega) (by omega)
  rw [hF] at HFi
  obtain ⟨b, off, rfl, hlt, hcap, hc⟩ := kr_at hr (by omega)
  have hqc := hc i hi
  have HQ : Hid (∀ W, Below w.heap.size w W → W.cell? ⟨b, off + i * 10, none⟩ = some (.string M[i].y.t.n) ∧ W.cell? ⟨b, off + i * 10 + 1, none⟩ = some (.string M[i].y.t.p) ∧ W.cell? ⟨b, off + i * 10 + 2, none⟩ = some (M[i].y.vo) ∧ W.cell? ⟨b, off + i * 10 + 3, none⟩ = some (M[i].y.va) ∧ W.cell? ⟨b, off + i * 10 + 4, none⟩ = some (M[i].y.vc) ∧ W.cell? ⟨b, off + i * 10 + 5, none⟩ = some (.int .i64 M[i].y.t.nd) ∧ W.cell? ⟨b, off + i * 10 + 6, none⟩ = some (.int .i64 M[i].y.t.lf) ∧ W.cell? ⟨b, off + i * 10 + 7, none⟩ = some (.int .i64 M[i].y.t.sq)) := fun W hb => by
    obtain ⟨q0, q1, q2, q3, q4, q5, q6, q7, -, -⟩ := hqc
    exact ⟨(hb.cell (p := ⟨b, _, none⟩) hlt).trans q0, (hb.cell (p := ⟨b, _, none⟩) hlt).trans q1, (hb.cell (p := ⟨b, _, none⟩) hlt).trans q2, (hb.cell (p := ⟨b, _, none⟩) hlt).trans q3, (hb.cell (p := ⟨b, _, none⟩) hlt).trans q4, (hb.cell (p := ⟨b, _, none⟩) hlt).trans q5, (hb.cell (p := ⟨b, _, none⟩) hlt).trans q6, (hb.cell (p := ⟨b, _, none⟩) hlt).trans q7⟩
  have Hlt : Hid (b < w.heap.size) := hlt
  clear hqc hc
  generalize M[i]'hi = y at *
  obtain ⟨⟨⟨yn, yp, yown, yall, ych, ynd, ylf, ysq⟩, bo, do', ba, da, bc, dc⟩, ys, yl, bw, dw⟩ := y
  clear hr hN hn ho hq hP hF
  obtain ⟨⟨tn, tp, town, tall, tch, tnd, tlf, tsq⟩, ao, co, aa, ca, ac, cc⟩ := o
  dsimp only at *
  have HOr : Hid (∀ W, Calls Tryz.prog 45 #[idV tnd tlf tsq, idV ynd ylf ysq] W fun e w' => e = .returned (.int .i64 (or3 (ordI tnd ynd) (ordI tlf ylf) (ordI tsq ysq))) ∧ Below W.heap.size W w') := fun W => refOrder_any _ _ _ _ _ _ W
  generalize or3 (ordI tnd ynd) (ordI tlf ylf) (ordI tsq ysq) = Z at *
  obtain ⟨w1, hw1⟩ : ∃ w1, w1 = w.alloc (.cells #[.slice (some ⟨b, off, none⟩) M.length c0] 27) := ⟨_, rfl⟩
  have B1 : Hid (Below w.heap.size w w1) := by show Below _ _ _; rw [hw1]; exact al_b _ _
  have hn1 : w1.heap[w.heap.size]? = some (.cells #[.slice (some ⟨b, off, none⟩) M.length c0] 27 (0, 0)) := by rw [hw1]; exact new_at _ _
  have C1 : Hid (∀ W, Below w1.heap.size w1 W → W.heap[w.heap.size]? = some (.cells #[.slice (some ⟨b, off, none⟩) M.length c0] 27 (0, 0))) := fun W h => (h.block _ (Array.getElem?_eq_some_iff.1 hn1).1).trans hn1
  clear hn1
  obtain ⟨w2, hw2⟩ : ∃ w2, w2 = w1.alloc (.cells #[.string tn, .string tp, .slice ao town.length co, .slice aa tall.length ca, .slice ac tch.length cc, .int .i64 tnd, .int .i64 tlf, .int .i64 tsq] 63) := ⟨_, rfl⟩
  have B2 : Hid (Below w1.heap.size w1 w2) := by show Below _ _ _; rw [hw2]; exact al_b _ _
  have hn2 : w2.heap[(w.heap.size + 1)]? = some (.cells #[.string tn, .string tp, .slice ao town.length co, .slice aa tall.length ca, .slice ac tch.length cc, .int .i64 tnd, .int .i64 tlf, .int .i64 tsq] 63 (0, 0)) := by rw [hw2]; rw [show w.heap.size + 1 = w1.heap.size by (rw [hw1]; simp)]; exact new_at _ _
  have C2 : Hid (∀ W, Below w2.heap.size w2 W → W.heap[(w.heap.size + 1)]? = some (.cells #[.string tn, .string tp, .slice ao town.length co, .slice aa tall.length ca, .slice ac tch.length cc, .int .i64 tnd, .int .i64 tlf, .int .i64 tsq] 63 (0, 0))) := fun W h => (h.block _ (Array.getElem?_eq_some_iff.1 hn2).1).trans hn2
  clear hn2
  obtain ⟨w3, hw3⟩ : ∃ w3, w3 = w2.alloc (.cells #[.slice none 0 0, .string ⟨#[]⟩, .string ⟨#[]⟩, .slice none 0 0, .slice none 0 0, .slice none 0 0, .int .i64 0, .int .i64 0, .int .i64 0, .int .i64 0] 65) := ⟨_, rfl⟩
  have B3 : Hid (Below w2.heap.size w2 w3) := by show Below _ _ _; rw [hw3]; exact al_b _ _
  have hn3 : w3.heap[(w.heap.size + 2)]? = some (.cells #[.slice none 0 0, .string ⟨#[]⟩, .string ⟨#[]⟩, .slice none 0 0, .slice none 0 0, .slice none 0 0, .int .i64 0, .int .i64 0, .int .i64 0, .int .i64 0] 65 (0, 0)) := by rw [hw3]; rw [show w.heap.size + 2 = w2.heap.size by (rw [hw2, hw1]; simp)]; exact new_at _ _
  have C3 : Hid (∀ W, Below w3.heap.size w3 W → W.heap[(w.heap.size + 2)]? = some (.cells #[.slice none 0 0, .string ⟨#[]⟩, .string ⟨#[]⟩, .slice none 0 0, .slice none 0 0, .slice none 0 0, .int .i64 0, .int .i64 0, .int .i64 0, .int .i64 0] 65 (0, 0))) := fun W h => (h.block _ (Array.getElem?_eq_some_iff.1 hn3).1).trans hn3
  clear hn3
  have Hzq : Hid (w3.heap.size = w.heap.size + 3) := by show _ = _; rw [hw3, hw2, hw1]; simp
  have Btq : Hid (Below w1.heap.size w1 w3) := B2.out.trans (B3.out.mono B2.out.size)
  have HBw0 : Hid (Below w.heap.size w w3) := B1.out.trans (Btq.out.mono B1.out.size)
  have HCA : Hid (∀ W, Below w3.heap.size w3 W → W.cell? ⟨w.heap.size, 0, none⟩ = some (.slice (some ⟨b, off, none⟩) M.length c0) ∧ W.cell? ⟨w.heap.size + 1, 0, none⟩ = some (.string tn) ∧ W.cell? ⟨w.heap.size + 1, 1, none⟩ = some (.string tp) ∧ W.cell? ⟨w.heap.size + 1, 2, none⟩ = some (.slice ao town.length co) ∧ W.cell? ⟨w.heap.size + 1, 3, none⟩ = some (.slice aa tall.length ca) ∧ W.cell? ⟨w.heap.size + 1, 4, none⟩ = some (.slice ac tch.length cc) ∧ W.cell? ⟨w.heap.size + 1, 5, none⟩ = some (.int .i64 tnd) ∧ W.cell? ⟨w.heap.size + 1, 6, none⟩ = some (.int .i64 tlf) ∧ W.cell? ⟨w.heap.size + 1, 7, none⟩ = some (.int .i64 tsq)  ∧ W.cell? ⟨w.heap.size + 2, 0, none⟩ = some (.slice none 0 0) ∧ W.cell? ⟨w.heap.size + 2, 1, none⟩ = some (.string ⟨#[]⟩) ∧ W.cell? ⟨w.heap.size + 2, 2, none⟩ = some (.string ⟨#[]⟩) ∧ W.cell? ⟨w.heap.size + 2, 3, none⟩ = some (.slice none 0 0) ∧ W.cell? ⟨w.heap.size + 2, 4, none⟩ = some (.slice none 0 0) ∧ W.cell? ⟨w.heap.size + 2, 5, none⟩ = some (.slice none 0 0) ∧ W.cell? ⟨w.heap.size + 2, 6, none⟩ = some (.int .i64 0) ∧ W.cell? ⟨w.heap.size + 2, 7, none⟩ = some (.int .i64 0) ∧ W.cell? ⟨w.heap.size + 2, 8, none⟩ = some (.int .i64 0) ∧ W.cell? ⟨w.heap.size + 2, 9, none⟩ = some (.int .i64 0) ∧ ∀ j, W.frozen? ⟨w.heap.size + 2, j, none⟩ = false) := fun W hb => by
    have h1 := C1.out W (Btq.out.trans (hb.mono Btq.out.size))
    have h2 := C2.out W (B3.out.trans (hb.mono B3.out.size))
    have h3 := C3.out W hb
    have c : ∀ j, W.cell? ⟨w.heap.size + 1, j, none⟩ = (#[.string tn, .string tp, .slice ao town.length co, .slice aa tall.length ca, .slice ac tch.length cc, .int .i64 tnd, .int .i64 tlf, .int .i64 tsq] : Array Value)[j]? := fun j => by rw [Lib.cell_of_heap h2]
    have d : ∀ j, W.cell? ⟨w.heap.size + 2, j, none⟩ = (#[.slice none 0 0, .string ⟨#[]⟩, .string ⟨#[]⟩, .slice none 0 0, .slice none 0 0, .slice none 0 0, .int .i64 0, .int .i64 0, .int .i64 0, .int .i64 0] : Array Value)[j]? := fun j => by rw [Lib.cell_of_heap h3]
    exact ⟨by rw [Lib.cell_of_heap h1]; rfl, c 0, c 1, c 2, c 3, c 4, c 5, c 6, c 7, d 0, d 1, d 2, d 3, d 4, d 5, d 6, d 7, d 8, d 9, fun j => Lib.frozen_of_heap h3 j⟩
  obtain ⟨cb, t0, t1, t2, t3, t4, t5, t6, t7, r0, r1, r2, r3, r4, r5, r6, r7, r8, r9, fz⟩ := HCA.out w3 (Below.refl _ _)
  rw [hw3, hw2, hw1] at cb t0 t1 t2 t3 t4 t5 t6 t7 r0 r1 r2 r3 r4 r5 r6 r7 r8 r9 fz
  go_enter Tryz.func16, Tryz.ntmps16
  go_wp2_with fail
  rw [← hw1, ← hw2, ← hw3]
  clear hw1 hw2 hw3 cb t0 t1 t2 t3 t4 t5 t6 t7 r0 r1 r2 r3 r4 r5 r6 r7 r8 r9 fz
  refine (HCh.out _ HBw0.out).mono ?_
  rintro e w5 ⟨rfl, hb⟩
  have B5 : Hid (Below w3.heap.size w3 w5) := hb
  clear hb
  obtain ⟨cb, t0, t1, t2, t3, t4, t5, t6, t7, r0, r1, r2, r3, r4, r5, r6, r7, r8, r9, fz⟩ := HCA.out _ B5.out
  have H5 : Hid (Below w.heap.size w w5) := HBw0.out.trans (B5.out.mono HBw0.out.size)
  go_wp2_with fail
  refine (HFi.out _ H5.out).mono ?_
  rintro e w6 ⟨rfl, hb⟩
  have B6 : Hid (Below w3.heap.size w3 w6) := B5.out.trans (hb.mono B5.out.size)
  clear hb cb t0 t1 t2 t3 t4 t5 t6 t7 r0 r1 r2 r3 r4 r5 r6 r7 r8 r9 fz
  have dz : decide (0 ≤ Z) = true := decide_eq_true (by omega)
  have di : decide ((0 : Int) ≤ (i : Int)) = true := decide_eq_true (by omega)
  have dj : decide ((i : Int) < 0) = false := decide_eq_false (by omega)
  have p1 : (0 : Int) ≤ (i : Int) := by omega
  have p2 : (i : Int) < (M.length : Int) := by omega
  go_wp2_with fail
  refine wp_region_quiet (C := fun w' => Below w6.heap.size w6 w') (by kernel_rfl) (by kernel_rfl) ((Below.refl _ _).drew) ?_
  dsimp only
  repeat (first
    | go_big_quiet_skip
    | (go_big_quiet_want
       apply Exists.intro
       refine ⟨fun W' hW' => ?_, ?_⟩
       · have hw : Below w6.heap.size w6 W' := hW'
         obtain ⟨cb, -, -, -, -, -, t5, t6, t7, -⟩ := HCA.out W' (B6.out.trans (hw.mono B6.out.size))
         obtain ⟨q0, q1, q2, q3, q4, q5, q6, q7⟩ := HQ.out W' (HBw0.out.trans ((B6.out.trans (hw.mono B6.out.size)).mono HBw0.out.size))
         go_simp
         first
           | done
           | rfl
           | (go_at_call 45; (with_reducible refine Calls.mono (HOr.out W') ?_); rintro e w'' ⟨rfl, hb⟩; exact ⟨rfl, hw.trans (hb.mono hw.size)⟩)
       go_big_quiet_on
       try simp only [Act.put, List.setIfInBounds_toArray, List.set_cons_zero, List.set_cons_succ]))
  refine wpQuiet_nil ?_
  intro w7 hb7
  have B7 : Hid (Below w3.heap.size w3 w7) := B6.out.trans (Below.mono hb7 B6.out.size)
  clear hb7
  obtain ⟨cb, t0, t1, t2, t3, t4, t5, t6, t7, r0, r1, r2, r3, r4, r5, r6, r7, r8, r9, fz⟩ := HCA.out _ B7.out
  have H7 : Hid (Below w.heap.size w w7) := HBw0.out.trans (B7.out.mono HBw0.out.size)
  go_wp2_with fail
  have HDk : Hid (Below w7.heap.size w7 w7.drew) := (Below.refl _ _).drew
  have HS : Hid (∀ W, Below w7.heap.size w7 W → (W.cell? ⟨w.heap.size, 0, none⟩ = some (.slice (some ⟨b, off, none⟩) M.length c0) ∧ W.cell? ⟨b, off + i * 10, none⟩ = some (.string yn) ∧ W.cell? ⟨b, off + i * 10 + 1, none⟩ = some (.string yp) ∧ W.cell? ⟨b, off + i * 10 + 2, none⟩ = some (.slice bo yown.length do') ∧ W.cell? ⟨b, off + i * 10 + 3, none⟩ = some (.slice ba yall.length da) ∧ W.cell? ⟨b, off + i * 10 + 4, none⟩ = some (.slice bc ych.length dc) ∧ W.cell? ⟨b, off + i * 10 + 5, none⟩ = some (.int .i64 ynd) ∧ W.cell? ⟨b, off + i * 10 + 6, none⟩ = some (.int .i64 ylf) ∧ W.cell? ⟨b, off + i * 10 + 7, none⟩ = some (.int .i64 ysq))) := fun W hb => by
    obtain ⟨cb, -⟩ := HCA.out W (B7.out.trans (hb.mono B7.out.size))
    exact ⟨cb, HQ.out W (H7.out.trans (hb.mono H7.out.size))⟩
  have HS3 : Hid (∀ W, (W.cell? ⟨w.heap.size, 0, none⟩ = some (.slice (some ⟨b, off, none⟩) M.length c0) ∧ W.cell? ⟨b, off + i * 10, none⟩ = some (.string yn) ∧ W.cell? ⟨b, off + i * 10 + 1, none⟩ = some (.string yp) ∧ W.cell? ⟨b, off + i * 10 + 2, none⟩ = some (.slice bo yown.length do') ∧ W.cell? ⟨b, off + i * 10 + 3, none⟩ = some (.slice ba yall.length da) ∧ W.cell? ⟨b, off + i * 10 + 4, none⟩ = some (.slice bc ych.length dc) ∧ W.cell? ⟨b, off + i * 10 + 5, none⟩ = some (.int .i64 ynd) ∧ W.cell? ⟨b, off + i * 10 + 6, none⟩ = some (.int .i64 ylf) ∧ W.cell? ⟨b, off + i * 10 + 7, none⟩ = some (.int .i64 ysq)) → ∀ u0 u1 u2 u3 u4 u5 u6 u7 u8 u9, ((st10 W (w.heap.size + 2) u0 u1 u2 u3 u4 u5 u6 u7 u8 u9).cell? ⟨w.heap.size, 0, none⟩ = some (.slice (some ⟨b, off, none⟩) M.length c0) ∧ (st10 W (w.heap.size + 2) u0 u1 u2 u3 u4 u5 u6 u7 u8 u9).cell? ⟨b, off + i * 10, none⟩ = some (.string yn) ∧ (st10 W (w.heap.size + 2) u0 u1 u2 u3 u4 u5 u6 u7 u8 u9).cell? ⟨b, off + i * 10 + 1, none⟩ = some (.string yp) ∧ (st10 W (w.heap.size + 2) u0 u1 u2 u3 u4 u5 u6 u7 u8 u9).cell? ⟨b, off + i * 10 + 2, none⟩ = some (.slice bo yown.length do') ∧ (st10 W (w.heap.size + 2) u0 u1 u2 u3 u4 u5 u6 u7 u8 u9).cell? ⟨b, off + i * 10 + 3, none⟩ = some (.slice ba yall.length da) ∧ (st10 W (w.heap.size + 2) u0 u1 u2 u3 u4 u5 u6 u7 u8 u9).cell? ⟨b, off + i * 10 + 4, none⟩ = some (.slice bc ych.length dc) ∧ (st10 W (w.heap.size + 2) u0 u1 u2 u3 u4 u5 u6 u7 u8 u9).cell? ⟨b, off + i * 10 + 5, none⟩ = some (.int .i64 ynd) ∧ (st10 W (w.heap.size + 2) u0 u1 u2 u3 u4 u5 u6 u7 u8 u9).cell? ⟨b, off + i * 10 + 6, none⟩ = some (.int .i64 ylf) ∧ (st10 W (w.heap.size + 2) u0 u1 u2 u3 u4 u5 u6 u7 u8 u9).cell? ⟨b, off + i * 10 + 7, none⟩ = some (.int .i64 ysq))) := fun W h u0 u1 u2 u3 u4 u5 u6 u7 u8 u9 => by
    have hbl := Hlt.out
    obtain ⟨a, b0, b1, b2, b3, b4, b5, b6, b7⟩ := h
    exact ⟨(st10_cell (by omega) ..).trans a, (st10_cell (by omega) ..).trans b0, (st10_cell (by omega) ..).trans b1, (st10_cell (by omega) ..).trans b2, (st10_cell (by omega) ..).trans b3, (st10_cell (by omega) ..).trans b4, (st10_cell (by omega) ..).trans b5, (st10_cell (by omega) ..).trans b6, (st10_cell (by omega) ..).trans b7⟩
  have HCq : Hid (∀ W, Below w7.heap.size w7 W → W.heap[w.heap.size + 2]? = some (.cells #[.slice none 0 0, .string ⟨#[]⟩, .string ⟨#[]⟩, .slice none 0 0, .slice none 0 0, .slice none 0 0, .int .i64 0, .int .i64 0, .int .i64 0, .int .i64 0] 65 (0, 0))) := fun W hb => C3.out W (B7.out.trans (hb.mono B7.out.size))
  have Hz : Hid (w.heap.size + 3 ≤ w7.heap.size) := by
    have h1 := B7.out.size
    have h2 := Hzq.out
    show _ ≤ _
    omega
  clear cb t0 t1 t2 t3 t4 t5 t6 t7 r0 r1 r2 r3 r4 r5 r6 r7 r8 r9 fz HCh HFi HCA C1 C2 C3
  refine wp_region_held_drew (S := (fun W' : World => W'.cell? ⟨w.heap.size, 0, none⟩ = some (.slice (some ⟨b, off, none⟩) M.length c0) ∧ W'.cell? ⟨b, off + i * 10, none⟩ = some (.string yn) ∧ W'.cell? ⟨b, off + i * 10 + 1, none⟩ = some (.string yp) ∧ W'.cell? ⟨b, off + i * 10 + 2, none⟩ = some (.slice bo yown.length do') ∧ W'.cell? ⟨b, off + i * 10 + 3, none⟩ = some (.slice ba yall.length da) ∧ W'.cell? ⟨b, off + i * 10 + 4, none⟩ = some (.slice bc ych.length dc) ∧ W'.cell? ⟨b, off + i * 10 + 5, none⟩ = some (.int .i64 ynd) ∧ W'.cell? ⟨b, off + i * 10 + 6, none⟩ = some (.int .i64 ylf) ∧ W'.cell? ⟨b, off + i * 10 + 7, none⟩ = some (.int .i64 ysq))) (by kernel_rfl) (HS.out _ HDk.out) (fun hHeld => ?_)
  generalize w7.drew = wd at *
  refine wpAnyH_take (i := 0) (v := ?_) rfl (by kernel_rfl) (by kernel_rfl) (by kernel_rfl) (fun _ _ _ h => h) (Or.inl ⟨by rfl, ?_⟩) hHeld ?_
  rotate_left 1
  · intro w9 hSw; obtain ⟨s0, g0, g1, g2, g3, g4, g5, g6, g7⟩ := hSw; go_simp; try with_reducible rfl
  change wpAnyH _ _ _ _ _ _ _ (Act.put _ (some 30) _) _
  simp only [Act.put, List.setIfInBounds_toArray, List.set_cons_zero, List.set_cons_succ]
  refine wpAnyH_take (i := 1) (v := ?_) rfl (by kernel_rfl) (by kernel_rfl) (by kernel_rfl) (fun _ _ _ h => h) (Or.inl ⟨by rfl, ?_⟩) hHeld ?_
  rotate_left 1
  · intro w9 hSw; obtain ⟨s0, g0, g1, g2, g3, g4, g5, g6, g7⟩ := hSw; go_simp; try with_reducible rfl
  change wpAnyH _ _ _ _ _ _ _ (Act.put _ (some 31) _) _
  simp only [Act.put, List.setIfInBounds_toArray, List.set_cons_zero, List.set_cons_succ]
  refine wpAnyH_take (i := 2) (v := ?_) rfl (by kernel_rfl) (by kernel_rfl) (by kernel_rfl) (fun _ _ _ h => h) (Or.inl ⟨by rfl, ?_⟩) hHeld ?_
  rotate_left 1
  · intro w9 hSw; obtain ⟨s0, g0, g1, g2, g3, g4, g5, g6, g7⟩ := hSw; go_simp; try with_reducible rfl
  change wpAnyH _ _ _ _ _ _ _ (Act.put _ (some 32) _) _
  simp only [Act.put, List.setIfInBounds_toArray, List.set_cons_zero, List.set_cons_succ]
  refine wpAnyH_take (i := 3) (v := ?_) rfl (by kernel_rfl) (by kernel_rfl) (by kernel_rfl) (fun _ _ _ h => h) (Or.inl ⟨by rfl, ?_⟩) hHeld ?_
  rotate_left 1
  · intro w9 hSw; obtain ⟨s0, g0, g1, g2, g3, g4, g5, g6, g7⟩ := hSw; go_simp; try with_reducible rfl
  change wpAnyH _ _ _ _ _ _ _ (Act.put _ (some 33) _) _
  simp only [Act.put, List.setIfInBounds_toArray, List.set_cons_zero, List.set_cons_succ]
  refine wpAnyH_take (i := 4) (v := ?_) rfl (by kernel_rfl) (by kernel_rfl) (by kernel_rfl) (fun _ _ _ h => h) (Or.inl ⟨by rfl, ?_⟩) hHeld ?_
  rotate_left 1
  · intro w9 hSw; obtain ⟨s0, g0, g1, g2, g3, g4, g5, g6, g7⟩ := hSw; go_simp; try with_reducible rfl
  change wpAnyH _ _ _ _ _ _ _ (Act.put _ (some 34) _) _
  simp only [Act.put, List.setIfInBounds_toArray, List.set_cons_zero, List.set_cons_succ]
  refine wpAnyH_take (i := 5) (v := ?_) rfl (by kernel_rfl) (by kernel_rfl) (by kernel_rfl) (fun _ _ _ h => h) (Or.inl ⟨by rfl, ?_⟩) hHeld ?_
  rotate_left 1
  · intro w9 hSw; obtain ⟨s0, g0, g1, g2, g3, g4, g5, g6, g7⟩ := hSw; go_simp; try with_reducible rfl
  change wpAnyH _ _ _ _ _ _ _ (Act.put _ (some 35) _) _
  simp only [Act.put, List.setIfInBounds_toArray, List.set_cons_zero, List.set_cons_succ]
  refine wpAnyH_take (i := 6) (v := ?_) rfl (by kernel_rfl) (by kernel_rfl) (by kernel_rfl) (fun _ _ _ h => h) (Or.inl ⟨by rfl, ?_⟩) hHeld ?_
  rotate_left 1
  · intro w9 hSw; obtain ⟨s0, g0, g1, g2, g3, g4, g5, g6, g7⟩ := hSw; go_simp; try with_reducible rfl
  change wpAnyH _ _ _ _ _ _ _ (Act.put _ (some 36) _) _
  simp only [Act.put, List.setIfInBounds_toArray, List.set_cons_zero, List.set_cons_succ]
  refine wpAnyH_take (i := 7) (v := ?_) rfl (by kernel_rfl) (by kernel_rfl) (by kernel_rfl) (fun _ _ _ h => h) (Or.inl ⟨by rfl, ?_⟩) hHeld ?_
  rotate_left 1
  · intro w9 hSw; obtain ⟨s0, g0, g1, g2, g3, g4, g5, g6, g7⟩ := hSw; go_simp; try with_reducible rfl
  change wpAnyH _ _ _ _ _ _ _ (Act.put _ (some 37) _) _
  simp only [Act.put, List.setIfInBounds_toArray, List.set_cons_zero, List.set_cons_succ]
  have hq := HCq.out wd HDk.out
  have r0 : wd.cell? ⟨w.heap.size + 2, 0, none⟩ = some (.slice none 0 0) := by rw [Lib.cell_of_heap hq]; rfl
  have r1 : wd.cell? ⟨w.heap.size + 2, 1, none⟩ = some (.string ⟨#[]⟩) := by rw [Lib.cell_of_heap hq]; rfl
  have r2 : wd.cell? ⟨w.heap.size + 2, 2, none⟩ = some (.string ⟨#[]⟩) := by rw [Lib.cell_of_heap hq]; rfl
  have r3 : wd.cell? ⟨w.heap.size + 2, 3, none⟩ = some (.slice none 0 0) := by rw [Lib.cell_of_heap hq]; rfl
  have r4 : wd.cell? ⟨w.heap.size + 2, 4, none⟩ = some (.slice none 0 0) := by rw [Lib.cell_of_heap hq]; rfl
  have r5 : wd.cell? ⟨w.heap.size + 2, 5, none⟩ = some (.slice none 0 0) := by rw [Lib.cell_of_heap hq]; rfl
  have r6 : wd.cell? ⟨w.heap.size + 2, 6, none⟩ = some (.int .i64 0) := by rw [Lib.cell_of_heap hq]; rfl
  have r7 : wd.cell? ⟨w.heap.size + 2, 7, none⟩ = some (.int .i64 0) := by rw [Lib.cell_of_heap hq]; rfl
  have r8 : wd.cell? ⟨w.heap.size + 2, 8, none⟩ = some (.int .i64 0) := by rw [Lib.cell_of_heap hq]; rfl
  have r9 : wd.cell? ⟨w.heap.size + 2, 9, none⟩ = some (.int .i64 0) := by rw [Lib.cell_of_heap hq]; rfl
  have fz : ∀ j, wd.frozen? ⟨w.heap.size + 2, j, none⟩ = false := fun j => Lib.frozen_of_heap hq j
  clear hq
  refine wpAnyH_ready (rs := [8]) (by kernel_rfl) (by simp) ?_
  refine AllReadyH.cons rfl (fun K hK => ?_) AllReadyH.nil
  go_simp
  refine hK.out _ _ (HS3.out _ (HS.out _ HDk.out) _ _ _ _ _ _ _ _ _ _) (fun hHeld => ?_)
  clear hK K
  refine wpAnyH_done (by kernel_rfl) ?_ _
  clear hHeld
  have HE : Hid (∀ u0 u1 u2 u3 u4 u5 u6 u7 u8 u9, Below w.heap.size w (st10 wd (w.heap.size + 2) u0 u1 u2 u3 u4 u5 u6 u7 u8 u9)) := fun u0 u1 u2 u3 u4 u5 u6 u7 u8 u9 => below10 (H7.out.trans (HDk.out.mono H7.out.size)) (Nat.le_add_right _ 2) u0 u1 u2 u3 u4 u5 u6 u7 u8 u9
  clear HS HS3 HDk
  go_wp2_with fail
  try simp only [Exit.inBlock, Exit.then]
  refine bodyPost_ret (v := .agg #[.slice (some ⟨b, off, none⟩) M.length c0, .string yn, .string yp, .slice bo yown.length do', .slice ba yall.length da, .slice bc ych.length dc, .int .i64 ynd, .int .i64 ylf, .int .i64 ysq, .int .i64 0]) ?_ rfl ⟨rfl, HE.out _ _ _ _ _ _ _ _ _ _⟩
  rw [results_c1 rfl]; go_simp
  first | done | exact ⟨rfl, rfl, rfl, rfl, rfl⟩ | skip
end Go.Proofs.YtlndgepoekllkaaGreatDoor
/- The reference's Put over one that was made later: its walk. -/
namespace Go.Proofs.YtlndgepoekllkaaGreatDoor
open Go.RowKit Go.ChangeMaps

set_option maxRecDepth 100000 in
set_option maxHeartbeats 4000000 in
theorem put17_over (v : Value) (M : List KR) (o : LT) (w : World) (hr : IsRow w 10 v M.length (kCells M)) (hl : M.length ≤ 1000) (hN : ∀ k ∈ M, k.y.t.n.size ≤ 200000) (ho : IsTy w o.t o.vo o.va o.vc) (hq : NmQ o.t) (hn : o.t.n.size ≤ 200000) (hP : chkT o.t = true) (i : Nat) (hi : i < M.length) (hF : fndZ M o.t.n = (i : Int)) (hO : or3 (ordI o.t.nd M[i].y.t.nd) (ordI o.t.lf M[i].y.t.lf) (ordI o.t.sq M[i].y.t.sq) < 0) :
    Calls Tryz.prog 16 #[.agg #[v], ltV o] w fun e w' => DdP (wthR M i ⟨o, false, [], none, 0⟩) o w e w' := by
  obtain ⟨a0, c0, rfl⟩ := hr.form
  have HCh : Hid (∀ W, Below w.heap.size w W → Calls Tryz.prog 44 #[ltV o] W fun e w' => e = .returned (.bool true) ∧ Below W.heap.size W w') := fun W hb => by
    have := refChk_any o W (ho.below hb) hq
    rw [hP] at this
    exact this
  have HFi : Hid (∀ W, Below w.heap.size w W → Calls Tryz.prog 32 #[.agg #[.slice a0 M.length c0], .string o.t.n] W fun e w' => e = .returned (.int .i64 (fndZ M o.t.n)) ∧ Below W.heap.size W w') := fun W hb => find17_any _ M _ W (hr.below hb) hl (fun k hk => by have := hN k hk; omega) (by omega)
  have HWi : Hid (∀ W, Below w.heap.size w W → Calls Tryz.prog 46 #[.agg #[.slice a0 M.length c0], .int .i64 (fndZ M o.t.n), .agg (krA ⟨o, false, [], none, 0⟩)] W fun e w' => KsP (wthR M (fndZ M o.t.n) ⟨o, false, [], none, 0⟩) W e w') := fun W hb => with17_any _ M _ _ W (hr.below hb) hl hN (by exact hn)
  rw [hF] at HFi HWi
  generalize wthR M i ⟨o, false, [], none, 0⟩ = RES at *
  obtain ⟨b, off, rfl, hlt, hcap, hc⟩ := kr_at hr (by omega)
  have hqc := hc i hi
  have HQ : Hid (∀ W, Below w.heap.size w W → W.cell? ⟨b, off + i * 10 + 5, none⟩ = some (.int .i64 M[i].y.t.nd) ∧ W.cell? ⟨b, off + i * 10 + 6, none⟩ = some (.int .i64 M[i].y.t.lf) ∧ W.cell? ⟨b, off + i * 10 + 7, none⟩ = some (.int .i64 M[i].y.t.sq)) := fun W hb => ⟨(hb.cell (p := ⟨b, _, none⟩) hlt).trans hqc.2.2.2.2.2.1, (hb.cell (p := ⟨b, _, none⟩) hlt).trans hqc.2.2.2.2.2.2.1, (hb.cell (p := ⟨b, _, none⟩) hlt).trans hqc.2.2.2.2.2.2.2.1⟩
  clear hqc hc
  generalize M[i]'hi = y at *
  obtain ⟨⟨⟨yn, yp, yown, yall, ych, ynd, ylf, ysq⟩, bo, do', ba, da, bc, dc⟩, ys, yl, bw, dw⟩ := y
  clear hr hN hn ho hq hP hF
  obtain ⟨⟨tn, tp, town, tall, tch, tnd, tlf, tsq⟩, ao, co, aa, ca, ac, cc⟩ := o
  dsimp only at *
  have HOr : Hid (∀ W, Calls Tryz.prog 45 #[idV tnd tlf tsq, idV ynd ylf ysq] W fun e w' => e = .returned (.int .i64 (or3 (ordI tnd ynd) (ordI tlf ylf) (ordI tsq ysq))) ∧ Below W.heap.size W w') := fun W => refOrder_any _ _ _ _ _ _ W
  generalize or3 (ordI tnd ynd) (ordI tlf ylf) (ordI tsq ysq) = Z at *
  obtain ⟨w1, hw1⟩ : ∃ w1, w1 = w.alloc (.cells #[.slice (some ⟨b, off, none⟩) M.length c0] 27) := ⟨_, rfl⟩
  have B1 : Hid (Below w.heap.size w w1) := by show Below _ _ _; rw [hw1]; exact al_b _ _
  have hn1 : w1.heap[w.heap.size]? = some (.cells #[.slice (some ⟨b, off, none⟩) M.length c0] 27 (0, 0)) := by rw [hw1]; exact new_at _ _
  have C1 : Hid (∀ W, Below w1.heap.size w1 W → W.heap[w.heap.size]? = some (.cells #[.slice (some ⟨b, off, none⟩) M.length c0] 27 (0, 0))) := fun W h => (h.block _ (Array.getElem?_eq_some_iff.1 hn1).1).trans hn1
  clear hn1
  obtain ⟨w2, hw2⟩ : ∃ w2, w2 = w1.alloc (.cells #[.string tn, .string tp, .slice ao town.length co, .slice aa tall.length ca, .slice ac tch.length cc, .int .i64 tnd, .int .i64 tlf, .int .i64 tsq] 63) := ⟨_, rfl⟩
  have B2 : Hid (Below w1.heap.size w1 w2) := by show Below _ _ _; rw [hw2]; exact al_b _ _
  have hn2 : w2.heap[(w.heap.size + 1)]? = some (.cells #[.string tn, .string tp, .slice ao town.length co, .slice aa tall.length ca, .slice ac tch.length cc, .int .i64 tnd, .int .i64 tlf, .int .i64 tsq] 63 (0, 0)) := by rw [hw2]; rw [show w.heap.size + 1 = w1.heap.size by (rw [hw1]; simp)]; exact new_at _ _
  have C2 : Hid (∀ W, Below w2.heap.size w2 W → W.heap[(w.heap.size + 1)]? = some (.cells #[.string tn, .string tp, .slice ao town.length co, .slice aa tall.length ca, .slice ac tch.length cc, .int .i64 tnd, .int .i64 tlf, .int .i64 tsq] 63 (0, 0))) := fun W h => (h.block _ (Array.getElem?_eq_some_iff.1 hn2).1).trans hn2
  clear hn2
  obtain ⟨w3, hw3⟩ : ∃ w3, w3 = w2.alloc (.cells #[.slice none 0 0, .string ⟨#[]⟩, .string ⟨#[]⟩, .slice none 0 0, .slice none 0 0, .slice none 0 0, .int .i64 0, .int .i64 0, .int .i64 0, .int .i64 0] 65) := ⟨_, rfl⟩
  have B3 : Hid (Below w2.heap.size w2 w3) := by show Below _ _ _; rw [hw3]; exact al_b _ _
  have hn3 : w3.heap[(w.heap.size + 2)]? = some (.cells #[.slice none 0 0, .string ⟨#[]⟩, .string ⟨#[]⟩, .slice none 0 0, .slice none 0 0, .slice none 0 0, .int .i64 0, .int .i64 0, .int .i64 0, .int .i64 0] 65 (0, 0)) := by rw [hw3]; rw [show w.heap.size + 2 = w2.heap.size by (rw [hw2, hw1]; simp)]; exact new_at _ _
  have C3 : Hid (∀ W, Below w3.heap.size w3 W → W.heap[(w.heap.size + 2)]? = some (.cells #[.slice none 0 0, .string ⟨#[]⟩, .string ⟨#[]⟩, .slice none 0 0, .slice none 0 0, .slice none 0 0, .int .i64 0, .int .i64 0, .int .i64 0, .int .i64 0] 65 (0, 0))) := fun W h => (h.block _ (Array.getElem?_eq_some_iff.1 hn3).1).trans hn3
  clear hn3
  have Hzq : Hid (w3.heap.size = w.heap.size + 3) := by show _ = _; rw [hw3, hw2, hw1]; simp
  have Btq : Hid (Below w1.heap.size w1 w3) := B2.out.trans (B3.out.mono B2.out.size)
  have HBw0 : Hid (Below w.heap.size w w3) := B1.out.trans (Btq.out.mono B1.out.size)
  have HCA : Hid (∀ W, Below w3.heap.size w3 W → W.cell? ⟨w.heap.size, 0, none⟩ = some (.slice (some ⟨b, off, none⟩) M.length c0) ∧ W.cell? ⟨w.heap.size + 1, 0, none⟩ = some (.string tn) ∧ W.cell? ⟨w.heap.size + 1, 1, none⟩ = some (.string tp) ∧ W.cell? ⟨w.heap.size + 1, 2, none⟩ = some (.slice ao town.length co) ∧ W.cell? ⟨w.heap.size + 1, 3, none⟩ = some (.slice aa tall.length ca) ∧ W.cell? ⟨w.heap.size + 1, 4, none⟩ = some (.slice ac tch.length cc) ∧ W.cell? ⟨w.heap.size + 1, 5, none⟩ = some (.int .i64 tnd) ∧ W.cell? ⟨w.heap.size + 1, 6, none⟩ = some (.int .i64 tlf) ∧ W.cell? ⟨w.heap.size + 1, 7, none⟩ = some (.int .i64 tsq)  ∧ W.cell? ⟨w.heap.size + 2, 0, none⟩ = some (.slice none 0 0) ∧ W.cell? ⟨w.heap.size + 2, 1, none⟩ = some (.string ⟨#[]⟩) ∧ W.cell? ⟨w.heap.size + 2, 2, none⟩ = some (.string ⟨#[]⟩) ∧ W.cell? ⟨w.heap.size + 2, 3, none⟩ = some (.slice none 0 0) ∧ W.cell? ⟨w.heap.size + 2, 4, none⟩ = some (.slice none 0 0) ∧ W.cell? ⟨w.heap.size + 2, 5, none⟩ = some (.slice none 0 0) ∧ W.cell? ⟨w.heap.size + 2, 6, none⟩ = some (.int .i64 0) ∧ W.cell? ⟨w.heap.size + 2, 7, none⟩ = some (.int .i64 0) ∧ W.cell? ⟨w.heap.size + 2, 8, none⟩ = some (.int .i64 0) ∧ W.cell? ⟨w.heap.size + 2, 9, none⟩ = some (.int .i64 0) ∧ ∀ j, W.frozen? ⟨w.heap.size + 2, j, none⟩ = false) := fun W hb => by
    have h1 := C1.out W (Btq.out.trans (hb.mono Btq.out.size))
    have h2 := C2.out W (B3.out.trans (hb.mono B3.out.size))
    have h3 := C3.out W hb
    have c : ∀ j, W.cell? ⟨w.heap.size + 1, j, none⟩ = (#[.string tn, .string tp, .slice ao town.length co, .slice aa tall.length ca, .slice ac tch.length cc, .int .i64 tnd, .int .i64 tlf, .int .i64 tsq] : Array Value)[j]? := fun j => by rw [Lib.cell_of_heap h2]
    have d : ∀ j, W.cell? ⟨w.heap.size + 2, j, none⟩ = (#[.slice none 0 0, .string ⟨#[]⟩, .string ⟨#[]⟩, .slice none 0 0, .slice none 0 0, .slice none 0 0, .int .i64 0, .int .i64 0, .int .i64 0, .int .i64 0] : Array Value)[j]? := fun j => by rw [Lib.cell_of_heap h3]
    exact ⟨by rw [Lib.cell_of_heap h1]; rfl, c 0, c 1, c 2, c 3, c 4, c 5, c 6, c 7, d 0, d 1, d 2, d 3, d 4, d 5, d 6, d 7, d 8, d 9, fun j => Lib.frozen_of_heap h3 j⟩
  obtain ⟨cb, t0, t1, t2, t3, t4, t5, t6, t7, r0, r1, r2, r3, r4, r5, r6, r7, r8, r9, fz⟩ := HCA.out w3 (Below.refl _ _)
  rw [hw3, hw2, hw1] at cb t0 t1 t2 t3 t4 t5 t6 t7 r0 r1 r2 r3 r4 r5 r6 r7 r8 r9 fz
  go_enter Tryz.func16, Tryz.ntmps16
  go_wp2_with fail
  rw [← hw1, ← hw2, ← hw3]
  clear hw1 hw2 hw3 cb t0 t1 t2 t3 t4 t5 t6 t7 r0 r1 r2 r3 r4 r5 r6 r7 r8 r9 fz
  refine (HCh.out _ HBw0.out).mono ?_
  rintro e w5 ⟨rfl, hb⟩
  have B5 : Hid (Below w3.heap.size w3 w5) := hb
  clear hb
  obtain ⟨cb, t0, t1, t2, t3, t4, t5, t6, t7, r0, r1, r2, r3, r4, r5, r6, r7, r8, r9, fz⟩ := HCA.out _ B5.out
  have H5 : Hid (Below w.heap.size w w5) := HBw0.out.trans (B5.out.mono HBw0.out.size)
  go_wp2_with fail
  refine (HFi.out _ H5.out).mono ?_
  rintro e w6 ⟨rfl, hb⟩
  have B6 : Hid (Below w3.heap.size w3 w6) := B5.out.trans (hb.mono B5.out.size)
  clear hb cb t0 t1 t2 t3 t4 t5 t6 t7 r0 r1 r2 r3 r4 r5 r6 r7 r8 r9 fz
  have dz : decide (0 ≤ Z) = false := decide_eq_false (by omega)
  have di : decide ((0 : Int) ≤ (i : Int)) = true := decide_eq_true (by omega)
  have dj : decide ((i : Int) < 0) = false := decide_eq_false (by omega)
  have p1 : (0 : Int) ≤ (i : Int) := by omega
  have p2 : (i : Int) < (M.length : Int) := by omega
  go_wp2_with fail
  refine wp_region_quiet (C := fun w' => Below w6.heap.size w6 w') (by kernel_rfl) (by kernel_rfl) ((Below.refl _ _).drew) ?_
  dsimp only
  repeat (first
    | go_big_quiet_skip
    | (go_big_quiet_want
       apply Exists.intro
       refine ⟨fun W' hW' => ?_, ?_⟩
       · have hw : Below w6.heap.size w6 W' := hW'
         obtain ⟨cb, -, -, -, -, -, t5, t6, t7, -⟩ := HCA.out W' (B6.out.trans (hw.mono B6.out.size))
         obtain ⟨q5, q6, q7⟩ := HQ.out W' (HBw0.out.trans ((B6.out.trans (hw.mono B6.out.size)).mono HBw0.out.size))
         go_simp
         first
           | done
           | rfl
           | (go_at_call 45; (with_reducible refine Calls.mono (HOr.out W') ?_); rintro e w'' ⟨rfl, hb⟩; exact ⟨rfl, hw.trans (hb.mono hw.size)⟩)
       go_big_quiet_on
       try simp only [Act.put, List.setIfInBounds_toArray, List.set_cons_zero, List.set_cons_succ]))
  refine wpQuiet_nil ?_
  intro w7 hb7
  have B7 : Hid (Below w3.heap.size w3 w7) := B6.out.trans (Below.mono hb7 B6.out.size)
  clear hb7
  obtain ⟨cb, t0, t1, t2, t3, t4, t5, t6, t7, r0, r1, r2, r3, r4, r5, r6, r7, r8, r9, fz⟩ := HCA.out _ B7.out
  have H7 : Hid (Below w.heap.size w w7) := HBw0.out.trans (B7.out.mono HBw0.out.size)
  go_wp2_with fail
  have HDk : Hid (Below w7.heap.size w7 w7.drew) := (Below.refl _ _).drew
  have HS : Hid (∀ W, Below w7.heap.size w7 W → Bx9 w.heap.size (w.heap.size + 1) (.slice (some ⟨b, off, none⟩) M.length c0) (⟨⟨tn, tp, town, tall, tch, tnd, tlf, tsq⟩, ao, co, aa, ca, ac, cc⟩ : LT) W) := fun W hb => by
    obtain ⟨cb, t0, t1, t2, t3, t4, t5, t6, t7, -⟩ := HCA.out W (B7.out.trans (hb.mono B7.out.size))
    exact ⟨cb, t0, t1, t2, t3, t4, t5, t6, t7⟩
  have HS3 : Hid (∀ W, Bx9 w.heap.size (w.heap.size + 1) (.slice (some ⟨b, off, none⟩) M.length c0) (⟨⟨tn, tp, town, tall, tch, tnd, tlf, tsq⟩, ao, co, aa, ca, ac, cc⟩ : LT) W → ∀ u0 u1 u2 u3 u4 u5 u6 u7 u8 u9, Bx9 w.heap.size (w.heap.size + 1) (.slice (some ⟨b, off, none⟩) M.length c0) (⟨⟨tn, tp, town, tall, tch, tnd, tlf, tsq⟩, ao, co, aa, ca, ac, cc⟩ : LT) (st10 W (w.heap.size + 2) u0 u1 u2 u3 u4 u5 u6 u7 u8 u9)) := fun W h u0 u1 u2 u3 u4 u5 u6 u7 u8 u9 => by
    obtain ⟨a, b0, b1, b2, b3, b4, b5, b6, b7⟩ := h
    exact ⟨(st10_cell (by omega) ..).trans a, (st10_cell (by omega) ..).trans b0, (st10_cell (by omega) ..).trans b1, (st10_cell (by omega) ..).trans b2, (st10_cell (by omega) ..).trans b3, (st10_cell (by omega) ..).trans b4, (st10_cell (by omega) ..).trans b5, (st10_cell (by omega) ..).trans b6, (st10_cell (by omega) ..).trans b7⟩
  have HCq : Hid (∀ W, Below w7.heap.size w7 W → W.heap[w.heap.size + 2]? = some (.cells #[.slice none 0 0, .string ⟨#[]⟩, .string ⟨#[]⟩, .slice none 0 0, .slice none 0 0, .slice none 0 0, .int .i64 0, .int .i64 0, .int .i64 0, .int .i64 0] 65 (0, 0))) := fun W hb => C3.out W (B7.out.trans (hb.mono B7.out.size))
  have Hz : Hid (w.heap.size + 3 ≤ w7.heap.size) := by
    have h1 := B7.out.size
    have h2 := Hzq.out
    show _ ≤ _
    omega
  clear cb t0 t1 t2 t3 t4 t5 t6 t7 r0 r1 r2 r3 r4 r5 r6 r7 r8 r9 fz HCh HFi HCA C1 C2 C3
  refine wp_region_held_drew (S := Bx9 w.heap.size (w.heap.size + 1) (.slice (some ⟨b, off, none⟩) M.length c0) (⟨⟨tn, tp, town, tall, tch, tnd, tlf, tsq⟩, ao, co, aa, ca, ac, cc⟩ : LT)) (by kernel_rfl) (HS.out _ HDk.out) (fun hHeld => ?_)
  refine wpAnyH_take (i := 0) (v := ?_) rfl (by kernel_rfl) (by kernel_rfl) (by kernel_rfl) (fun _ _ _ h => h) (Or.inl ⟨by rfl, ?_⟩) hHeld ?_
  rotate_left 1
  · intro w9 hSw; obtain ⟨s0, g0, g1, g2, g3, g4, g5, g6, g7⟩ := hSw; go_simp; try with_reducible rfl
  change wpAnyH _ _ _ _ _ _ _ (Act.put _ (some 48) _) _
  simp only [Act.put, List.setIfInBounds_toArray, List.set_cons_zero, List.set_cons_succ]
  refine wpAnyH_take (i := 1) (v := ?_) rfl (by kernel_rfl) (by kernel_rfl) (by kernel_rfl) (fun _ _ _ h => h) (Or.inl ⟨by rfl, ?_⟩) hHeld ?_
  rotate_left 1
  · intro w9 hSw; obtain ⟨s0, g0, g1, g2, g3, g4, g5, g6, g7⟩ := hSw; go_simp; try with_reducible rfl
  change wpAnyH _ _ _ _ _ _ _ (Act.put _ (some 49) _) _
  simp only [Act.put, List.setIfInBounds_toArray, List.set_cons_zero, List.set_cons_succ]
  refine wpAnyH_take (i := 2) (v := ?_) rfl (by kernel_rfl) (by kernel_rfl) (by kernel_rfl) (fun _ _ _ h => h) (Or.inl ⟨by rfl, ?_⟩) hHeld ?_
  rotate_left 1
  · intro w9 hSw; obtain ⟨s0, g0, g1, g2, g3, g4, g5, g6, g7⟩ := hSw; go_simp; try with_reducible rfl
  change wpAnyH _ _ _ _ _ _ _ (Act.put _ (some 50) _) _
  simp only [Act.put, List.setIfInBounds_toArray, List.set_cons_zero, List.set_cons_succ]
  refine wpAnyH_take (i := 3) (v := ?_) rfl (by kernel_rfl) (by kernel_rfl) (by kernel_rfl) (fun _ _ _ h => h) (Or.inl ⟨by rfl, ?_⟩) hHeld ?_
  rotate_left 1
  · intro w9 hSw; obtain ⟨s0, g0, g1, g2, g3, g4, g5, g6, g7⟩ := hSw; go_simp; try with_reducible rfl
  change wpAnyH _ _ _ _ _ _ _ (Act.put _ (some 51) _) _
  simp only [Act.put, List.setIfInBounds_toArray, List.set_cons_zero, List.set_cons_succ]
  refine wpAnyH_take (i := 5) (v := ?_) rfl (by kernel_rfl) (by kernel_rfl) (by kernel_rfl) (fun _ _ _ h => h) (Or.inl ⟨by rfl, ?_⟩) hHeld ?_
  rotate_left 1
  · intro w9 hSw; obtain ⟨s0, g0, g1, g2, g3, g4, g5, g6, g7⟩ := hSw; go_simp; try with_reducible rfl
  change wpAnyH _ _ _ _ _ _ _ (Act.put _ (some 53) _) _
  simp only [Act.put, List.setIfInBounds_toArray, List.set_cons_zero, List.set_cons_succ]
  refine wpAnyH_ready (rs := [4]) (by kernel_rfl) (by simp) ?_
  refine AllReadyH.cons rfl (fun K hK => ?_) AllReadyH.nil
  go_simp
  refine (HWi.out _ (H7.out.trans (HDk.out.mono H7.out.size))).mono ?_
  rintro e wf ⟨xa, ya, rfl, hrow, hnew, hbf⟩
  have HBf : Hid (Below w7.heap.size w7 wf) := HDk.out.trans (hbf.mono HDk.out.size)
  have HRw : Hid (IsRow wf 10 (.slice xa RES.length ya) RES.length (kCells RES) ∧ NewA w7.drew.heap.size xa) := ⟨hrow, hnew⟩
  clear hbf hrow hnew
  go_simp
  refine hK.out _ _ (HS.out _ HBf.out) (fun hHeld => ?_)
  clear hK K
  refine wpAnyH_take (i := 6) (v := ?_) rfl (by kernel_rfl) (by kernel_rfl) (by kernel_rfl) (fun _ _ _ h => h) (Or.inl ⟨by rfl, ?_⟩) hHeld ?_
  rotate_left 1
  · intro w9 hSw; obtain ⟨s0, g0, g1, g2, g3, g4, g5, g6, g7⟩ := hSw; go_simp; try with_reducible rfl
  change wpAnyH _ _ _ _ _ _ _ (Act.put _ (some 54) _) _
  simp only [Act.put, List.setIfInBounds_toArray, List.set_cons_zero, List.set_cons_succ]
  have hq := HCq.out _ HBf.out
  have r0 : wf.cell? ⟨w.heap.size + 2, 0, none⟩ = some (.slice none 0 0) := by rw [Lib.cell_of_heap hq]; rfl
  have r1 : wf.cell? ⟨w.heap.size + 2, 1, none⟩ = some (.string ⟨#[]⟩) := by rw [Lib.cell_of_heap hq]; rfl
  have r2 : wf.cell? ⟨w.heap.size + 2, 2, none⟩ = some (.string ⟨#[]⟩) := by rw [Lib.cell_of_heap hq]; rfl
  have r3 : wf.cell? ⟨w.heap.size + 2, 3, none⟩ = some (.slice none 0 0) := by rw [Lib.cell_of_heap hq]; rfl
  have r4 : wf.cell? ⟨w.heap.size + 2, 4, none⟩ = some (.slice none 0 0) := by rw [Lib.cell_of_heap hq]; rfl
  have r5 : wf.cell? ⟨w.heap.size + 2, 5, none⟩ = some (.slice none 0 0) := by rw [Lib.cell_of_heap hq]; rfl
  have r6 : wf.cell? ⟨w.heap.size + 2, 6, none⟩ = some (.int .i64 0) := by rw [Lib.cell_of_heap hq]; rfl
  have r7 : wf.cell? ⟨w.heap.size + 2, 7, none⟩ = some (.int .i64 0) := by rw [Lib.cell_of_heap hq]; rfl
  have r8 : wf.cell? ⟨w.heap.size + 2, 8, none⟩ = some (.int .i64 0) := by rw [Lib.cell_of_heap hq]; rfl
  have r9 : wf.cell? ⟨w.heap.size + 2, 9, none⟩ = some (.int .i64 0) := by rw [Lib.cell_of_heap hq]; rfl
  have fz : ∀ j, wf.frozen? ⟨w.heap.size + 2, j, none⟩ = false := fun j => Lib.frozen_of_heap hq j
  clear hq
  refine wpAnyH_ready (rs := [7]) (by kernel_rfl) (by simp) ?_
  refine AllReadyH.cons rfl (fun K hK => ?_) AllReadyH.nil
  go_simp
  refine hK.out _ _ (HS3.out _ (HS.out _ HBf.out) _ _ _ _ _ _ _ _ _ _) (fun hHeld => ?_)
  clear hK K
  refine wpAnyH_done (by kernel_rfl) ?_ _
  clear hHeld
  have HE : Hid (∀ u0 u1 u2 u3 u4 u5 u6 u7 u8 u9, DdP RES (⟨⟨tn, tp, town, tall, tch, tnd, tlf, tsq⟩, ao, co, aa, ca, ac, cc⟩ : LT) w (.returned (.agg #[.slice xa RES.length ya, .string tn, .string tp, .slice ao town.length co, .slice aa tall.length ca, .slice ac tch.length cc, .int .i64 tnd, .int .i64 tlf, .int .i64 tsq, .int .i64 0])) (st10 wf (w.heap.size + 2) u0 u1 u2 u3 u4 u5 u6 u7 u8 u9)) := fun u0 u1 u2 u3 u4 u5 u6 u7 u8 u9 => by
    have hs2 := Hz.out
    have hs3 := HDk.out.size
    exact ⟨xa, ya, rfl, (row_far (row_far (row_far (row_far (row_far (row_far (row_far (row_far (row_far (row_far HRw.out.1 HRw.out.2 (by omega) 0 _) HRw.out.2 (by omega) 1 _) HRw.out.2 (by omega) 2 _) HRw.out.2 (by omega) 3 _) HRw.out.2 (by omega) 4 _) HRw.out.2 (by omega) 5 _) HRw.out.2 (by omega) 6 _) HRw.out.2 (by omega) 7 _) HRw.out.2 (by omega) 8 _) HRw.out.2 (by omega) 9 _), HRw.out.2.le (by omega), below10 (H7.out.trans (HBf.out.mono H7.out.size)) (Nat.le_add_right _ 2) u0 u1 u2 u3 u4 u5 u6 u7 u8 u9⟩
  clear HRw HS HS3 HBf HDk HWi
  go_wp2_with fail
  try simp only [Exit.inBlock, Exit.then]
  refine bodyPost_ret (v := .agg #[.slice xa RES.length ya, .string tn, .string tp, .slice ao town.length co, .slice aa tall.length ca, .slice ac tch.length cc, .int .i64 tnd, .int .i64 tlf, .int .i64 tsq, .int .i64 0]) ?_ rfl (HE.out _ _ _ _ _ _ _ _ _ _)
  rw [results_c1 rfl]; go_simp
  first | done | exact ⟨rfl, rfl, rfl, rfl, rfl⟩ | skip
end Go.Proofs.YtlndgepoekllkaaGreatDoor
