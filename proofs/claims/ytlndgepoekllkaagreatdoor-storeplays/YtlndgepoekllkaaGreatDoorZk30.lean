/- The reference's Same of any two types: its walk. -/
import Derived.Test.YtlndgepoekllkaaGreatDoorZk29
import Derived.Test.YtlndgepoekllkaaGreatDoorZk5
import Derived.Test.YtlndgepoekllkaaGreatDoorZk22
import Derived.Test.YtlndgepoekllkaaGreatDoorZk28
namespace Go.Proofs.YtlndgepoekllkaaGreatDoor
open Go.RowKit Go.ChangeMaps

set_option maxRecDepth 100000 in
set_option maxHeartbeats 4000000 in
theorem refSameT_any (x o : LT) (w : World) (hx : IsTy w x.t x.vo x.va x.vc) (ho : IsTy w o.t o.vo o.va o.vc) (mx : x.t.own.length ≤ 1000000 ∧ x.t.all.length ≤ 1000000 ∧ x.t.ch.length ≤ 1000000) (mo : o.t.own.length ≤ 1000000 ∧ o.t.all.length ≤ 1000000 ∧ o.t.ch.length ≤ 1000000) :
    Calls Tryz.prog 18 #[ltV x, ltV o] w fun e w' => e = .returned (.bool (sameT x.t o.t)) ∧ Below w.heap.size w w' := by
  obtain ⟨W0, hW0⟩ : ∃ W0, W0 = (w.alloc (.cells (tyA x.t x.vo x.va x.vc) 63)).alloc (.cells (tyA o.t o.vo o.va o.vc) 63) := ⟨_, rfl⟩
  have hA : Below w.heap.size w W0 := by rw [hW0]; exact (al_b w _).trans ((al_b _ _).mono (by simp))
  have hz : W0.heap.size = w.heap.size + 2 := by rw [hW0]; simp
  have hn0 : W0.heap[w.heap.size]? = some (.cells (tyA x.t x.vo x.va x.vc) 63 (0, 0)) := by
    rw [hW0]
    show ((w.heap.push _).push _)[w.heap.size]? = _
    rw [Array.getElem?_push, if_neg (by simp), Array.getElem?_push, if_pos rfl]
  have hn1 : W0.heap[w.heap.size + 1]? = some (.cells (tyA o.t o.vo o.va o.vc) 63 (0, 0)) := by
    rw [hW0]
    show ((w.heap.push _).push _)[w.heap.size + 1]? = _
    rw [Array.getElem?_push, if_pos (by simp)]
  have HX : Hid (∀ W, Below W0.heap.size W0 W → BxT w.heap.size x.t x.vo x.va x.vc W) := fun W h => BxT.ofA ((h.block _ (by omega)).trans hn0)
  have HY : Hid (∀ W, Below W0.heap.size W0 W → BxT (w.heap.size + 1) o.t o.vo o.va o.vc W) := fun W h => BxT.ofA ((h.block _ (by omega)).trans hn1)
  have HBw : Hid (∀ W, Below W0.heap.size W0 W → Below w.heap.size w W) := fun W h => hA.trans (h.mono hA.size)
  have HE1 : Hid (∀ W, Below W0.heap.size W0 W → Calls Tryz.prog 48 #[x.vo, o.vo] W fun e w' => e = .returned (.bool (sameR x.t.own o.t.own)) ∧ Below W.heap.size W w') := fun W h => refSame_any _ _ x.t.own o.t.own W (hx.1.below (HBw.out W h)) (ho.1.below (HBw.out W h)) mx.1 mo.1
  have HE2 : Hid (∀ W, Below W0.heap.size W0 W → Calls Tryz.prog 48 #[x.va, o.va] W fun e w' => e = .returned (.bool (sameR x.t.all o.t.all)) ∧ Below W.heap.size W w') := fun W h => refSame_any _ _ x.t.all o.t.all W (hx.2.1.below (HBw.out W h)) (ho.2.1.below (HBw.out W h)) mx.2.1 mo.2.1
  have HE3 : Hid (∀ W, Below W0.heap.size W0 W → Calls Tryz.prog 49 #[x.vc, o.vc] W fun e w' => e = .returned (.bool (sameS x.t.ch o.t.ch)) ∧ Below W.heap.size W w') := fun W h => sameTextsS_any _ _ x.t.ch o.t.ch W (hx.2.2.below (HBw.out W h)) (ho.2.2.below (HBw.out W h)) mx.2.2 mo.2.2
  have HD : Hid (sameT x.t o.t = (decide (x.t.n = o.t.n) && (decide (x.t.p = o.t.p) && (eqI x.t o.t && (sameR x.t.own o.t.own && (sameR x.t.all o.t.all && sameS x.t.ch o.t.ch)))))) := rfl
  have eN := strEqB x.t.n o.t.n
  have eP := strEqB x.t.p o.t.p
  clear hx ho mx mo hA hn0 hn1
  generalize sameT x.t o.t = BB at *
  generalize sameR x.t.own o.t.own = B1 at *
  generalize sameR x.t.all o.t.all = B2 at *
  generalize sameS x.t.ch o.t.ch = B3 at *
  have HB0 : Hid (Below w.heap.size w W0) := HBw.out _ (Below.refl _ _)
  obtain ⟨⟨a0, a1, a2, a3⟩, a4, a5, a6, a7⟩ := HX.out W0 (Below.refl _ _)
  obtain ⟨⟨b0, b1, b2, b3⟩, b4, b5, b6, b7⟩ := HY.out W0 (Below.refl _ _)
  by_cases h1 : x.t.n = o.t.n
  rotate_left
  · have hB : BB = false := by rw [HD.out, decide_eq_false h1, Bool.false_and]
    subst hB
    rw [decide_eq_false h1] at eN
    clear HD h1 HE1 HE2 HE3
    go_enter Tryz.func18, Tryz.ntmps18
    go_wp2_with fail
    rw [← hW0]
    clear hW0
    go_wp2
    go_ret
    exact ⟨rfl, HB0.out⟩
  rw [decide_eq_true h1] at eN
  by_cases h2 : x.t.p = o.t.p
  rotate_left
  · have hB : BB = false := by rw [HD.out, decide_eq_false h2, Bool.false_and, Bool.and_false]
    subst hB
    rw [decide_eq_false h2] at eP
    clear HD h1 h2 HE1 HE2 HE3
    go_enter Tryz.func18, Tryz.ntmps18
    go_wp2_with fail
    rw [← hW0]
    clear hW0
    go_wp2
    go_ret
    exact ⟨rfl, HB0.out⟩
  rw [decide_eq_true h2] at eP
  by_cases h3 : x.t.nd = o.t.nd ∧ x.t.lf = o.t.lf ∧ x.t.sq = o.t.sq
  rotate_left
  · have hB : BB = false := by rw [HD.out]; unfold eqI; rw [decide_eq_false h3, Bool.false_and, Bool.and_false, Bool.and_false]
    subst hB
    clear HD h1 h2 HE1 HE2 HE3
    by_cases e1 : x.t.nd = o.t.nd
    rotate_left
    · clear h3
      go_enter Tryz.func18, Tryz.ntmps18
      go_wp2_with fail
      rw [← hW0]
      clear hW0
      go_wp2
      go_ret
      exact ⟨rfl, HB0.out⟩
    by_cases e2 : x.t.lf = o.t.lf
    rotate_left
    · clear h3
      go_enter Tryz.func18, Tryz.ntmps18
      go_wp2_with fail
      rw [← hW0]
      clear hW0
      go_wp2
      go_ret
      exact ⟨rfl, HB0.out⟩
    have e3 : ¬ x.t.sq = o.t.sq := fun e3 => h3 ⟨e1, e2, e3⟩
    clear h3
    go_enter Tryz.func18, Tryz.ntmps18
    go_wp2_with fail
    rw [← hW0]
    clear hW0
    go_wp2
    go_ret
    exact ⟨rfl, HB0.out⟩
  have hI : eqI x.t o.t = true := by unfold eqI; exact decide_eq_true h3
  obtain ⟨j1, j2, j3⟩ := h3
  have HD2 : Hid (BB = (B1 && (B2 && B3))) := by show _ = _; rw [HD.out, decide_eq_true h1, decide_eq_true h2, hI, Bool.true_and, Bool.true_and, Bool.true_and]
  clear HD h1 h2 hI
  go_enter Tryz.func18, Tryz.ntmps18
  go_wp2_with fail
  rw [← hW0]
  clear hW0
  go_wp2_with fail
  refine (HE1.out W0 (Below.refl _ _)).mono ?_
  rintro e w1 ⟨rfl, hbw1⟩
  have Hw1 : Hid (Below W0.heap.size W0 w1) := hbw1
  have HBw1 : Hid (Below w.heap.size w w1) := HBw.out _ Hw1.out
  clear hbw1 a0 a1 a2 a3 a4 a5 a6 a7 b0 b1 b2 b3 b4 b5 b6 b7
  obtain ⟨⟨a0, a1, a2, a3⟩, a4, a5, a6, a7⟩ := HX.out w1 Hw1.out
  obtain ⟨⟨b0, b1, b2, b3⟩, b4, b5, b6, b7⟩ := HY.out w1 Hw1.out
  cases B1
  · have hB : BB = false := by rw [HD2.out, Bool.false_and]
    subst hB
    go_wp2
    go_ret
    exact ⟨rfl, HBw1.out⟩
  go_wp2_with fail
  refine (HE2.out w1 Hw1.out).mono ?_
  rintro e w2 ⟨rfl, hbw2⟩
  have Hw2 : Hid (Below W0.heap.size W0 w2) := Hw1.out.trans (hbw2.mono Hw1.out.size)
  have HBw2 : Hid (Below w.heap.size w w2) := HBw.out _ Hw2.out
  clear hbw2 a0 a1 a2 a3 a4 a5 a6 a7 b0 b1 b2 b3 b4 b5 b6 b7
  obtain ⟨⟨a0, a1, a2, a3⟩, a4, a5, a6, a7⟩ := HX.out w2 Hw2.out
  obtain ⟨⟨b0, b1, b2, b3⟩, b4, b5, b6, b7⟩ := HY.out w2 Hw2.out
  cases B2
  · have hB : BB = false := by rw [HD2.out, Bool.false_and, Bool.and_false]
    subst hB
    go_wp2
    go_ret
    exact ⟨rfl, HBw2.out⟩
  go_wp2_with fail
  refine (HE3.out w2 Hw2.out).mono ?_
  rintro e w3 ⟨rfl, hbw3⟩
  have Hw3 : Hid (Below W0.heap.size W0 w3) := Hw2.out.trans (hbw3.mono Hw2.out.size)
  have HBw3 : Hid (Below w.heap.size w w3) := HBw.out _ Hw3.out
  clear hbw3 a0 a1 a2 a3 a4 a5 a6 a7 b0 b1 b2 b3 b4 b5 b6 b7
  obtain ⟨⟨a0, a1, a2, a3⟩, a4, a5, a6, a7⟩ := HX.out w3 Hw3.out
  obtain ⟨⟨b0, b1, b2, b3⟩, b4, b5, b6, b7⟩ := HY.out w3 Hw3.out
  have hB : BB = B3 := by rw [HD2.out, Bool.true_and, Bool.true_and]
  subst hB
  go_wp2
  go_ret
  exact ⟨rfl, HBw3.out⟩
end Go.Proofs.YtlndgepoekllkaaGreatDoor
/- The reference's Set of a name that is there: its walks. -/
namespace Go.Proofs.YtlndgepoekllkaaGreatDoor
open Go.RowKit Go.ChangeMaps

set_option maxRecDepth 100000 in
set_option maxHeartbeats 4000000 in
theorem set17_same (v : Value) (M : List KR) (o : LT) (w : World) (hr : IsRow w 10 v M.length (kCells M)) (hl : M.length ≤ 1000) (hN : ∀ k ∈ M, k.y.t.n.size ≤ 200000) (ho : IsTy w o.t o.vo o.va o.vc) (hq : NmQ o.t) (hn : o.t.n.size ≤ 200000) (hm : SmT o.t) (hP : chkT o.t = true) (i : Nat) (hi : i < M.length) (hF : fndZ M o.t.n = (i : Int)) (hmi : SmT M[i].y.t) (hiT : IsTy w M[i].y.t M[i].y.vo M[i].y.va M[i].y.vc) (hS : sameT M[i].y.t o.t = true) :
    Calls Tryz.prog 19 #[.agg #[v], ltV o] w fun e w' => e = .returned (.tuple #[.agg #[v], .int .i64 0]) ∧ Below w.heap.size w w' := by
  obtain ⟨a0, c0, rfl⟩ := hr.form
  have HCh : Hid (∀ W, Below w.heap.size w W → Calls Tryz.prog 44 #[ltV o] W fun e w' => e = .returned (.bool true) ∧ Below W.heap.size W w') := fun W hb => by
    have := refChk_any o W (ho.below hb) hq
    rw [hP] at this
    exact this
  have HFi : Hid (∀ W, Below w.heap.size w W → Calls Tryz.prog 32 #[.agg #[.slice a0 M.length c0], .string o.t.n] W fun e w' => e = .returned (.int .i64 (fndZ M o.t.n)) ∧ Below W.heap.size W w') := fun W hb => find17_any _ M _ W (hr.below hb) hl (fun k hk => by have := hN k hk; omega) (by omega)
  have HWi : Hid (∀ W, Below w.heap.size w W → Calls Tryz.prog 46 #[.agg #[.slice a0 M.length c0], .int .i64 (fndZ M o.t.n), .agg (krA ⟨o, false, [], none, 0⟩)] W fun e w' => KsP (wthR M (fndZ M o.t.n) ⟨o, false, [], none, 0⟩) W e w') := fun W hb => with17_any _ M _ _ W (hr.below hb) hl hN (by exact hn)
  rw [hF] at HFi HWi
  generalize wthR M (i : Int) ⟨o, false, [], none, 0⟩ = RES at *
  have HSm : Hid (∀ W, Below w.heap.size w W → Calls Tryz.prog 18 #[ltV M[i].y, ltV o] W fun e w' => e = .returned (.bool true) ∧ Below W.heap.size W w') := fun W hb => by
    have := refSameT_any M[i].y o W (hiT.below hb) (ho.below hb) ⟨by have := hmi.1; omega, by have := hmi.2.1; omega, by have := hmi.2.2; omega⟩ ⟨by have := hm.1; omega, by have := hm.2.1; omega, by have := hm.2.2; omega⟩
    rw [hS] at this
    exact this
  obtain ⟨b, off, rfl, hlt, hcap, hc⟩ := kr_at hr (by omega)
  have hqc := hc i hi
  have HQ : Hid (∀ W, Below w.heap.size w W → W.cell? ⟨b, off + i * 10, none⟩ = some (.string M[i].y.t.n) ∧ W.cell? ⟨b, off + i * 10 + 1, none⟩ = some (.string M[i].y.t.p) ∧ W.cell? ⟨b, off + i * 10 + 2, none⟩ = some (M[i].y.vo) ∧ W.cell? ⟨b, off + i * 10 + 3, none⟩ = some (M[i].y.va) ∧ W.cell? ⟨b, off + i * 10 + 4, none⟩ = some (M[i].y.vc) ∧ W.cell? ⟨b, off + i * 10 + 5, none⟩ = some (.int .i64 M[i].y.t.nd) ∧ W.cell? ⟨b, off + i * 10 + 6, none⟩ = some (.int .i64 M[i].y.t.lf) ∧ W.cell? ⟨b, off + i * 10 + 7, none⟩ = some (.int .i64 M[i].y.t.sq)) := fun W hb => by
    obtain ⟨q0, q1, q2, q3, q4, q5, q6, q7, -, -⟩ := hqc
    exact ⟨(hb.cell (p := ⟨b, _, none⟩) hlt).trans q0, (hb.cell (p := ⟨b, _, none⟩) hlt).trans q1, (hb.cell (p := ⟨b, _, none⟩) hlt).trans q2, (hb.cell (p := ⟨b, _, none⟩) hlt).trans q3, (hb.cell (p := ⟨b, _, none⟩) hlt).trans q4, (hb.cell (p := ⟨b, _, none⟩) hlt).trans q5, (hb.cell (p := ⟨b, _, none⟩) hlt).trans q6, (hb.cell (p := ⟨b, _, none⟩) hlt).trans q7⟩
  clear hqc hc hiT hmi hS hm
  generalize M[i]'hi = y at *
  obtain ⟨⟨⟨yn, yp, yown, yall, ych, ynd, ylf, ysq⟩, bo, do', ba, da, bc, dc⟩, ys, yl, bw, dw⟩ := y
  dsimp only at HSm HQ
  clear hr hN hn ho hq hP
  obtain ⟨⟨tn, tp, town, tall, tch, tnd, tlf, tsq⟩, ao, co, aa, ca, ac, cc⟩ := o
  dsimp only at *
  clear hF
  obtain ⟨w1, hw1⟩ : ∃ w1, w1 = w.alloc (.cells #[.slice (some ⟨b, off, none⟩) M.length c0] 27) := ⟨_, rfl⟩
  have B1 : Hid (Below w.heap.size w w1) := by show Below _ _ _; rw [hw1]; exact al_b _ _
  have hn1 : w1.heap[w.heap.size]? = some (.cells #[.slice (some ⟨b, off, none⟩) M.length c0] 27 (0, 0)) := by rw [hw1]; exact new_at _ _
  have C1 : Hid (∀ W, Below w1.heap.size w1 W → W.heap[w.heap.size]? = some (.cells #[.slice (some ⟨b, off, none⟩) M.length c0] 27 (0, 0))) := fun W h => (h.block _ (Array.getElem?_eq_some_iff.1 hn1).1).trans hn1
  clear hn1
  obtain ⟨w2, hw2⟩ : ∃ w2, w2 = w1.alloc (.cells #[.string tn, .string tp, .slice ao town.length co, .slice aa tall.length ca, .slice ac tch.length cc, .int .i64 tnd, .int .i64 tlf, .int .i64 tsq] 63) := ⟨_, rfl⟩
  have B2 : Hid (Below w1.heap.size w1 w2) := by show Below _ _ _; rw [hw2]; exact al_b _ _
  have hn2 : w2.heap[(w.heap.size + 1)]? = some (.cells #[.string tn, .string tp, .slice ao town.length co, .slice aa tall.length ca, .slice ac tch.length cc, .int .i64 tnd, .int .i64 tlf, .int .i64 tsq] 63 (0, 0)) := by rw [hw2]; rw [show w.heap.size + 1 = w1.heap.size by (rw [hw1]; simp)]; exact new_at _ _
  have C2 : Hid (∀ W, Below w2.heap.size w2 W → W.heap[(w.heap.size + 1)]? = some (.cells #[.string tn, .string tp, .slice ao town.length co, .slice aa tall.length ca, .slice ac tch.length cc, .int .i64 tnd, .int .i64 tlf, .int .i64 tsq] 63 (0, 0))) := fun W h => (h.block _ (Array.getElem?_eq_some_iff.1 hn2).1).trans hn2
  clear hn2
  obtain ⟨w3, hw3⟩ : ∃ w3, w3 = w2.alloc (.cells #[.slice none 0 0] 27) := ⟨_, rfl⟩
  have B3 : Hid (Below w2.heap.size w2 w3) := by show Below _ _ _; rw [hw3]; exact al_b _ _
  have hn3 : w3.heap[(w.heap.size + 2)]? = some (.cells #[.slice none 0 0] 27 (0, 0)) := by rw [hw3]; rw [show w.heap.size + 2 = w2.heap.size by (rw [hw2, hw1]; simp)]; exact new_at _ _
  have C3 : Hid (∀ W, Below w3.heap.size w3 W → W.heap[(w.heap.size + 2)]? = some (.cells #[.slice none 0 0] 27 (0, 0))) := fun W h => (h.block _ (Array.getElem?_eq_some_iff.1 hn3).1).trans hn3
  clear hn3
  have Hzq : Hid (w3.heap.size = w.heap.size + 3) := by show _ = _; rw [hw3, hw2, hw1]; simp
  have Btq : Hid (Below w1.heap.size w1 w3) := B2.out.trans (B3.out.mono B2.out.size)
  have HBw0 : Hid (Below w.heap.size w w3) := B1.out.trans (Btq.out.mono B1.out.size)
  have HCA : Hid (∀ W, Below w3.heap.size w3 W → W.cell? ⟨w.heap.size, 0, none⟩ = some (.slice (some ⟨b, off, none⟩) M.length c0) ∧ W.cell? ⟨w.heap.size + 1, 0, none⟩ = some (.string tn) ∧ W.cell? ⟨w.heap.size + 1, 1, none⟩ = some (.string tp) ∧ W.cell? ⟨w.heap.size + 1, 2, none⟩ = some (.slice ao town.length co) ∧ W.cell? ⟨w.heap.size + 1, 3, none⟩ = some (.slice aa tall.length ca) ∧ W.cell? ⟨w.heap.size + 1, 4, none⟩ = some (.slice ac tch.length cc) ∧ W.cell? ⟨w.heap.size + 1, 5, none⟩ = some (.int .i64 tnd) ∧ W.cell? ⟨w.heap.size + 1, 6, none⟩ = some (.int .i64 tlf) ∧ W.cell? ⟨w.heap.size + 1, 7, none⟩ = some (.int .i64 tsq) ∧ W.cell? ⟨w.heap.size + 2, 0, none⟩ = some (.slice none 0 0) ∧ ∀ j, W.frozen? ⟨w.heap.size + 2, j, none⟩ = false) := fun W hb => by
    have h1 := C1.out W (Btq.out.trans (hb.mono Btq.out.size))
    have h2 := C2.out W (B3.out.trans (hb.mono B3.out.size))
    have h3 := C3.out W hb
    have c : ∀ j, W.cell? ⟨w.heap.size + 1, j, none⟩ = (#[.string tn, .string tp, .slice ao town.length co, .slice aa tall.length ca, .slice ac tch.length cc, .int .i64 tnd, .int .i64 tlf, .int .i64 tsq] : Array Value)[j]? := fun j => by rw [Lib.cell_of_heap h2]
    exact ⟨by rw [Lib.cell_of_heap h1]; rfl, c 0, c 1, c 2, c 3, c 4, c 5, c 6, c 7, by rw [Lib.cell_of_heap h3]; rfl, fun j => Lib.frozen_of_heap h3 j⟩
  obtain ⟨cb, t0, t1, t2, t3, t4, t5, t6, t7, cr, fz⟩ := HCA.out w3 (Below.refl _ _)
  rw [hw3, hw2, hw1] at cb t0 t1 t2 t3 t4 t5 t6 t7 cr fz
  go_enter Tryz.func19, Tryz.ntmps19
  go_wp2_with fail
  rw [← hw1, ← hw2, ← hw3]
  clear hw1 hw2 hw3 cb t0 t1 t2 t3 t4 t5 t6 t7 cr fz
  refine (HCh.out _ HBw0.out).mono ?_
  rintro e w5 ⟨rfl, hb⟩
  have B5 : Hid (Below w3.heap.size w3 w5) := hb
  clear hb
  obtain ⟨cb, t0, t1, t2, t3, t4, t5, t6, t7, cr, fz⟩ := HCA.out _ B5.out
  have H5 : Hid (Below w.heap.size w w5) := HBw0.out.trans (B5.out.mono HBw0.out.size)
  go_wp2_with fail
  refine (HFi.out _ H5.out).mono ?_
  rintro e w6 ⟨rfl, hb⟩
  have B6 : Hid (Below w3.heap.size w3 w6) := B5.out.trans (hb.mono B5.out.size)
  clear hb cb t0 t1 t2 t3 t4 t5 t6 t7 cr fz
  have di : decide ((0 : Int) ≤ (i : Int)) = true := decide_eq_true (by omega)
  have dj : decide ((i : Int) < 0) = false := decide_eq_false (by omega)
  have p1 : (0 : Int) ≤ (i : Int) := by omega
  have p2 : (i : Int) < (M.length : Int) := by omega
  go_wp2_with fail
  refine wp_region_quiet (C := fun w' => Below w6.heap.size w6 w') (by kernel_rfl) (by kernel_rfl) ((Below.refl _ _).drew) ?_
  dsimp only
  repeat (first
    | go_big_quiet_skip
    | (go_big_quiet_want
       apply Exists.intro
       refine ⟨fun W' hW' => ?_, ?_⟩
       · have hw : Below w6.heap.size w6 W' := hW'
         obtain ⟨cb, t0, t1, t2, t3, t4, t5, t6, t7, -⟩ := HCA.out W' (B6.out.trans (hw.mono B6.out.size))
         obtain ⟨q0, q1, q2, q3, q4, q5, q6, q7⟩ := HQ.out W' (HBw0.out.trans ((B6.out.trans (hw.mono B6.out.size)).mono HBw0.out.size))
         go_simp
         first
           | done
           | rfl
           | (go_at_call 18; (with_reducible refine Calls.mono (HSm.out W' (HBw0.out.trans ((B6.out.trans (hw.mono B6.out.size)).mono HBw0.out.size))) ?_); rintro e w'' ⟨rfl, hb⟩; exact ⟨rfl, hw.trans (hb.mono hw.size)⟩)
       go_big_quiet_on
       try simp only [Act.put, List.setIfInBounds_toArray, List.set_cons_zero, List.set_cons_succ]))
  refine wpQuiet_nil ?_
  intro w7 hb7
  have B7 : Hid (Below w3.heap.size w3 w7) := B6.out.trans (Below.mono hb7 B6.out.size)
  clear hb7
  obtain ⟨cb, t0, t1, t2, t3, t4, t5, t6, t7, cr, fz⟩ := HCA.out _ B7.out
  have H7 : Hid (Below w.heap.size w w7) := HBw0.out.trans (B7.out.mono HBw0.out.size)
  have HE : Hid (∀ u, Below w.heap.size w (w7.setCell ⟨w.heap.size + 2, 0, none⟩ u)) := fun u => H7.out.setCell (p := ⟨w.heap.size + 2, 0, none⟩) (Nat.le_add_right _ 2) u
  clear HCh HFi HCA HWi HSm HQ
  go_wp2_with fail
  try simp only [Exit.inBlock, Exit.then]
  refine bodyPost_ret (v := .tuple #[.agg #[.slice (some ⟨b, off, none⟩) M.length c0], .int .i64 0]) ?_ rfl ⟨rfl, HE.out _⟩
  rw [results_c2 rfl]; go_simp
  first | done | exact ⟨rfl, rfl⟩
set_option maxRecDepth 100000 in
set_option maxHeartbeats 4000000 in
theorem set17_over (v : Value) (M : List KR) (o : LT) (w : World) (hr : IsRow w 10 v M.length (kCells M)) (hl : M.length ≤ 1000) (hN : ∀ k ∈ M, k.y.t.n.size ≤ 200000) (ho : IsTy w o.t o.vo o.va o.vc) (hq : NmQ o.t) (hn : o.t.n.size ≤ 200000) (hm : SmT o.t) (hP : chkT o.t = true) (i : Nat) (hi : i < M.length) (hF : fndZ M o.t.n = (i : Int)) (hmi : SmT M[i].y.t) (hiT : IsTy w M[i].y.t M[i].y.vo M[i].y.va M[i].y.vc) (hS : sameT M[i].y.t o.t = false) :
    Calls Tryz.prog 19 #[.agg #[v], ltV o] w fun e w' => KeP17 (wthR M (i : Int) ⟨o, false, [], none, 0⟩) w e w' := by
  obtain ⟨a0, c0, rfl⟩ := hr.form
  have HCh : Hid (∀ W, Below w.heap.size w W → Calls Tryz.prog 44 #[ltV o] W fun e w' => e = .returned (.bool true) ∧ Below W.heap.size W w') := fun W hb => by
    have := refChk_any o W (ho.below hb) hq
    rw [hP] at this
    exact this
  have HFi : Hid (∀ W, Below w.heap.size w W → Calls Tryz.prog 32 #[.agg #[.slice a0 M.length c0], .string o.t.n] W fun e w' => e = .returned (.int .i64 (fndZ M o.t.n)) ∧ Below W.heap.size W w') := fun W hb => find17_any _ M _ W (hr.below hb) hl (fun k hk => by have := hN k hk; omega) (by omega)
  have HWi : Hid (∀ W, Below w.heap.size w W → Calls Tryz.prog 46 #[.agg #[.slice a0 M.length c0], .int .i64 (fndZ M o.t.n), .agg (krA ⟨o, false, [], none, 0⟩)] W fun e w' => KsP (wthR M (fndZ M o.t.n) ⟨o, false, [], none, 0⟩) W e w') := fun W hb => with17_any _ M _ _ W (hr.below hb) hl hN (by exact hn)
  rw [hF] at HFi HWi
  generalize wthR M (i : Int) ⟨o, false, [], none, 0⟩ = RES at *
  have HSm : Hid (∀ W, Below w.heap.size w W → Calls Tryz.prog 18 #[ltV M[i].y, ltV o] W fun e w' => e = .returned (.bool false) ∧ Below W.heap.size W w') := fun W hb => by
    have := refSameT_any M[i].y o W (hiT.below hb) (ho.below hb) ⟨by have := hmi.1; omega, by have := hmi.2.1; omega, by have := hmi.2.2; omega⟩ ⟨by have := hm.1; omega, by have := hm.2.1; omega, by have := hm.2.2; omega⟩
    rw [hS] at this
    exact this
  obtain ⟨b, off, rfl, hlt, hcap, hc⟩ := kr_at hr (by omega)
  have hqc := hc i hi
  have HQ : Hid (∀ W, Below w.heap.size w W → W.cell? ⟨b, off + i * 10, none⟩ = some (.string M[i].y.t.n) ∧ W.cell? ⟨b, off + i * 10 + 1, none⟩ = some (.string M[i].y.t.p) ∧ W.cell? ⟨b, off + i * 10 + 2, none⟩ = some (M[i].y.vo) ∧ W.cell? ⟨b, off + i * 10 + 3, none⟩ = some (M[i].y.va) ∧ W.cell? ⟨b, off + i * 10 + 4, none⟩ = some (M[i].y.vc) ∧ W.cell? ⟨b, off + i * 10 + 5, none⟩ = some (.int .i64 M[i].y.t.nd) ∧ W.cell? ⟨b, off + i * 10 + 6, none⟩ = some (.int .i64 M[i].y.t.lf) ∧ W.cell? ⟨b, off + i * 10 + 7, none⟩ = some (.int .i64 M[i].y.t.sq)) := fun W hb => by
    obtain ⟨q0, q1, q2, q3, q4, q5, q6, q7, -, -⟩ := hqc
    exact ⟨(hb.cell (p := ⟨b, _, none⟩) hlt).trans q0, (hb.cell (p := ⟨b, _, none⟩) hlt).trans q1, (hb.cell (p := ⟨b, _, none⟩) hlt).trans q2, (hb.cell (p := ⟨b, _, none⟩) hlt).trans q3, (hb.cell (p := ⟨b, _, none⟩) hlt).trans q4, (hb.cell (p := ⟨b, _, none⟩) hlt).trans q5, (hb.cell (p := ⟨b, _, none⟩) hlt).trans q6, (hb.cell (p := ⟨b, _, none⟩) hlt).trans q7⟩
  clear hqc hc hiT hmi hS hm
  generalize M[i]'hi = y at *
  obtain ⟨⟨⟨yn, yp, yown, yall, ych, ynd, ylf, ysq⟩, bo, do', ba, da, bc, dc⟩, ys, yl, bw, dw⟩ := y
  dsimp only at HSm HQ
  clear hr hN hn ho hq hP
  obtain ⟨⟨tn, tp, town, tall, tch, tnd, tlf, tsq⟩, ao, co, aa, ca, ac, cc⟩ := o
  dsimp only at *
  clear hF
  obtain ⟨w1, hw1⟩ : ∃ w1, w1 = w.alloc (.cells #[.slice (some ⟨b, off, none⟩) M.length c0] 27) := ⟨_, rfl⟩
  have B1 : Hid (Below w.heap.size w w1) := by show Below _ _ _; rw [hw1]; exact al_b _ _
  have hn1 : w1.heap[w.heap.size]? = some (.cells #[.slice (some ⟨b, off, none⟩) M.length c0] 27 (0, 0)) := by rw [hw1]; exact new_at _ _
  have C1 : Hid (∀ W, Below w1.heap.size w1 W → W.heap[w.heap.size]? = some (.cells #[.slice (some ⟨b, off, none⟩) M.length c0] 27 (0, 0))) := fun W h => (h.block _ (Array.getElem?_eq_some_iff.1 hn1).1).trans hn1
  clear hn1
  obtain ⟨w2, hw2⟩ : ∃ w2, w2 = w1.alloc (.cells #[.string tn, .string tp, .slice ao town.length co, .slice aa tall.length ca, .slice ac tch.length cc, .int .i64 tnd, .int .i64 tlf, .int .i64 tsq] 63) := ⟨_, rfl⟩
  have B2 : Hid (Below w1.heap.size w1 w2) := by show Below _ _ _; rw [hw2]; exact al_b _ _
  have hn2 : w2.heap[(w.heap.size + 1)]? = some (.cells #[.string tn, .string tp, .slice ao town.length co, .slice aa tall.length ca, .slice ac tch.length cc, .int .i64 tnd, .int .i64 tlf, .int .i64 tsq] 63 (0, 0)) := by rw [hw2]; rw [show w.heap.size + 1 = w1.heap.size by (rw [hw1]; simp)]; exact new_at _ _
  have C2 : Hid (∀ W, Below w2.heap.size w2 W → W.heap[(w.heap.size + 1)]? = some (.cells #[.string tn, .string tp, .slice ao town.length co, .slice aa tall.length ca, .slice ac tch.length cc, .int .i64 tnd, .int .i64 tlf, .int .i64 tsq] 63 (0, 0))) := fun W h => (h.block _ (Array.getElem?_eq_some_iff.1 hn2).1).trans hn2
  clear hn2
  obtain ⟨w3, hw3⟩ : ∃ w3, w3 = w2.alloc (.cells #[.slice none 0 0] 27) := ⟨_, rfl⟩
  have B3 : Hid (Below w2.heap.size w2 w3) := by show Below _ _ _; rw [hw3]; exact al_b _ _
  have hn3 : w3.heap[(w.heap.size + 2)]? = some (.cells #[.slice none 0 0] 27 (0, 0)) := by rw [hw3]; rw [show w.heap.size + 2 = w2.heap.size by (rw [hw2, hw1]; simp)]; exact new_at _ _
  have C3 : Hid (∀ W, Below w3.heap.size w3 W → W.heap[(w.heap.size + 2)]? = some (.cells #[.slice none 0 0] 27 (0, 0))) := fun W h => (h.block _ (Array.getElem?_eq_some_iff.1 hn3).1).trans hn3
  clear hn3
  have Hzq : Hid (w3.heap.size = w.heap.size + 3) := by show _ = _; rw [hw3, hw2, hw1]; simp
  have Btq : Hid (Below w1.heap.size w1 w3) := B2.out.trans (B3.out.mono B2.out.size)
  have HBw0 : Hid (Below w.heap.size w w3) := B1.out.trans (Btq.out.mono B1.out.size)
  have HCA : Hid (∀ W, Below w3.heap.size w3 W → W.cell? ⟨w.heap.size, 0, none⟩ = some (.slice (some ⟨b, off, none⟩) M.length c0) ∧ W.cell? ⟨w.heap.size + 1, 0, none⟩ = some (.string tn) ∧ W.cell? ⟨w.heap.size + 1, 1, none⟩ = some (.string tp) ∧ W.cell? ⟨w.heap.size + 1, 2, none⟩ = some (.slice ao town.length co) ∧ W.cell? ⟨w.heap.size + 1, 3, none⟩ = some (.slice aa tall.length ca) ∧ W.cell? ⟨w.heap.size + 1, 4, none⟩ = some (.slice ac tch.length cc) ∧ W.cell? ⟨w.heap.size + 1, 5, none⟩ = some (.int .i64 tnd) ∧ W.cell? ⟨w.heap.size + 1, 6, none⟩ = some (.int .i64 tlf) ∧ W.cell? ⟨w.heap.size + 1, 7, none⟩ = some (.int .i64 tsq) ∧ W.cell? ⟨w.heap.size + 2, 0, none⟩ = some (.slice none 0 0) ∧ ∀ j, W.frozen? ⟨w.heap.size + 2, j, none⟩ = false) := fun W hb => by
    have h1 := C1.out W (Btq.out.trans (hb.mono Btq.out.size))
    have h2 := C2.out W (B3.out.trans (hb.mono B3.out.size))
    have h3 := C3.out W hb
    have c : ∀ j, W.cell? ⟨w.heap.size + 1, j, none⟩ = (#[.string tn, .string tp, .slice ao town.length co, .slice aa tall.length ca, .slice ac tch.length cc, .int .i64 tnd, .int .i64 tlf, .int .i64 tsq] : Array Value)[j]? := fun j => by rw [Lib.cell_of_heap h2]
    exact ⟨by rw [Lib.cell_of_heap h1]; rfl, c 0, c 1, c 2, c 3, c 4, c 5, c 6, c 7, by rw [Lib.cell_of_heap h3]; rfl, fun j => Lib.frozen_of_heap h3 j⟩
  obtain ⟨cb, t0, t1, t2, t3, t4, t5, t6, t7, cr, fz⟩ := HCA.out w3 (Below.refl _ _)
  rw [hw3, hw2, hw1] at cb t0 t1 t2 t3 t4 t5 t6 t7 cr fz
  go_enter Tryz.func19, Tryz.ntmps19
  go_wp2_with fail
  rw [← hw1, ← hw2, ← hw3]
  clear hw1 hw2 hw3 cb t0 t1 t2 t3 t4 t5 t6 t7 cr fz
  refine (HCh.out _ HBw0.out).mono ?_
  rintro e w5 ⟨rfl, hb⟩
  have B5 : Hid (Below w3.heap.size w3 w5) := hb
  clear hb
  obtain ⟨cb, t0, t1, t2, t3, t4, t5, t6, t7, cr, fz⟩ := HCA.out _ B5.out
  have H5 : Hid (Below w.heap.size w w5) := HBw0.out.trans (B5.out.mono HBw0.out.size)
  go_wp2_with fail
  refine (HFi.out _ H5.out).mono ?_
  rintro e w6 ⟨rfl, hb⟩
  have B6 : Hid (Below w3.heap.size w3 w6) := B5.out.trans (hb.mono B5.out.size)
  clear hb cb t0 t1 t2 t3 t4 t5 t6 t7 cr fz
  have di : decide ((0 : Int) ≤ (i : Int)) = true := decide_eq_true (by omega)
  have dj : decide ((i : Int) < 0) = false := decide_eq_false (by omega)
  have p1 : (0 : Int) ≤ (i : Int) := by omega
  have p2 : (i : Int) < (M.length : Int) := by omega
  go_wp2_with fail
  refine wp_region_quiet (C := fun w' => Below w6.heap.size w6 w') (by kernel_rfl) (by kernel_rfl) ((Below.refl _ _).drew) ?_
  dsimp only
  repeat (first
    | go_big_quiet_skip
    | (go_big_quiet_want
       apply Exists.intro
       refine ⟨fun W' hW' => ?_, ?_⟩
       · have hw : Below w6.heap.size w6 W' := hW'
         obtain ⟨cb, t0, t1, t2, t3, t4, t5, t6, t7, -⟩ := HCA.out W' (B6.out.trans (hw.mono B6.out.size))
         obtain ⟨q0, q1, q2, q3, q4, q5, q6, q7⟩ := HQ.out W' (HBw0.out.trans ((B6.out.trans (hw.mono B6.out.size)).mono HBw0.out.size))
         go_simp
         first
           | done
           | rfl
           | (go_at_call 18; (with_reducible refine Calls.mono (HSm.out W' (HBw0.out.trans ((B6.out.trans (hw.mono B6.out.size)).mono HBw0.out.size))) ?_); rintro e w'' ⟨rfl, hb⟩; exact ⟨rfl, hw.trans (hb.mono hw.size)⟩)
       go_big_quiet_on
       try simp only [Act.put, List.setIfInBounds_toArray, List.set_cons_zero, List.set_cons_succ]))
  refine wpQuiet_nil ?_
  intro w7 hb7
  have B7 : Hid (Below w3.heap.size w3 w7) := B6.out.trans (Below.mono hb7 B6.out.size)
  clear hb7
  obtain ⟨cb, t0, t1, t2, t3, t4, t5, t6, t7, cr, fz⟩ := HCA.out _ B7.out
  have H7 : Hid (Below w.heap.size w w7) := HBw0.out.trans (B7.out.mono HBw0.out.size)
  go_wp2_with fail
  refine (HWi.out _ H7.out).mono ?_
  rintro e w8 ⟨xa, ya, rfl, hrow, hnew, hb8⟩
  have B8 : Hid (Below w3.heap.size w3 w8) := B7.out.trans (hb8.mono B7.out.size)
  have H8 : Hid (Below w.heap.size w w8) := H7.out.trans (hb8.mono H7.out.size)
  clear cb t0 t1 t2 t3 t4 t5 t6 t7 cr fz
  obtain ⟨-, -, -, -, -, -, -, -, -, cr, fz⟩ := HCA.out _ B8.out
  have HE : Hid (∀ u, KeP17 RES w (.returned (.tuple #[.agg #[.slice xa RES.length ya], .int .i64 0])) (w8.setCell ⟨w.heap.size + 2, 0, none⟩ u)) := fun u => by
    have h1 := B7.out.size
    have h2 := Hzq.out
    exact ⟨xa, ya, rfl, row_far hrow hnew (by omega) 0 _, hnew.le (by omega), H8.out.setCell (p := ⟨w.heap.size + 2, 0, none⟩) (Nat.le_add_right _ 2) u⟩
  clear HCh HFi HCA HWi HSm HQ hrow hnew hb8
  go_wp2_with fail
  try simp only [Exit.inBlock, Exit.then]
  refine bodyPost_ret (v := .tuple #[.agg #[.slice xa RES.length ya], .int .i64 0]) ?_ rfl (HE.out _)
  rw [results_c2 rfl]; go_simp
  first | done | exact ⟨rfl, rfl⟩
end Go.Proofs.YtlndgepoekllkaaGreatDoor
