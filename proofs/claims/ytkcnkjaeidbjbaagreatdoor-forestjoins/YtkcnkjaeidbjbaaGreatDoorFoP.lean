/- forest.Below: its walk. -/
import Derived.Test.YtkcnkjaeidbjbaaGreatDoorFoF
import Derived.Test.YtkcnkjaeidbjbaaGreatDoorZg
namespace Go.Proofs.YtkcnkjaeidbjbaaGreatDoor
open Go.RowKit Go.ChangeMaps

/-- Behind the store of a type that is made. -/
def CtB (w : World) (t : Ty) (wx : World) : Prop := ∃ y : LT, y.t = t ∧ Hid (IsTy wx y.t y.vo y.va y.vc) ∧ Hid (NewT (w.heap.size + 3) y) ∧ Hid (Below w.heap.size w wx) ∧ Hid (BxT (w.heap.size + 2) y.t y.vo y.va y.vc wx)
set_option maxRecDepth 100000 in
set_option maxHeartbeats 4000000 in
theorem below_any (o : LT) (s : ByteArray) (v : Value) (own : List Fd) (a b c : Int) (w : World) (ho : IsTy w o.t o.vo o.va o.vc) (no : NmT o.t) (hs : s.size ≤ 1000000) (hr : IsRow w 3 v own.length (fCells own)) (hl : own.length ≤ 1000) (hn : NmF own) (hW : W3 w) :
    Calls Tryz.prog 15 #[ltV o, .string s, v, idV a b c] w fun e w' => MkP (belR o.t s own a b c) w e w' := by
  obtain ⟨ao, co, rfl⟩ := hr.form
  obtain ⟨W0, hW0⟩ : ∃ W0, W0 = ((w.alloc (.cells (tyA o.t o.vo o.va o.vc) 30)).alloc (.cells #[.int .i64 a, .int .i64 b, .int .i64 c] 25)).alloc (.cells zTyA 30) := ⟨_, rfl⟩
  have hA : Below w.heap.size w W0 := by rw [hW0]; exact ((al_b w _).trans ((al_b _ _).mono (by simp <;> omega))).trans ((al_b _ _).mono (by simp <;> omega))
  have hz : W0.heap.size = w.heap.size + 3 := by rw [hW0]; simp
  have hn0 : W0.heap[w.heap.size]? = some (.cells (tyA o.t o.vo o.va o.vc) 30 (0, 0)) := by
    rw [hW0]
    show (((w.heap.push _).push _).push _)[w.heap.size]? = _
    rw [Array.getElem?_push, if_neg (by simp <;> omega), Array.getElem?_push, if_neg (by simp <;> omega), Array.getElem?_push, if_pos rfl]
  have hn1 : W0.heap[w.heap.size + 1]? = some (.cells #[.int .i64 a, .int .i64 b, .int .i64 c] 25 (0, 0)) := by
    rw [hW0]
    show (((w.heap.push _).push _).push _)[w.heap.size + 1]? = _
    rw [Array.getElem?_push, if_neg (by simp <;> omega), Array.getElem?_push, if_pos (by simp <;> omega)]
  have hn2 : W0.heap[w.heap.size + 2]? = some (.cells zTyA 30 (0, 0)) := by
    rw [hW0]
    show (((w.heap.push _).push _).push _)[w.heap.size + 2]? = _
    rw [Array.getElem?_push, if_pos (by simp <;> omega)]
  have HX : Hid (∀ W, Below W0.heap.size W0 W → BxT w.heap.size o.t o.vo o.va o.vc W) := fun W h => BxT.of ((h.block _ (by omega)).trans hn0)
  have HId3 : Hid (∀ W, Below W0.heap.size W0 W → W.cell? ⟨w.heap.size + 1, 0, none⟩ = some (.int .i64 a) ∧ W.cell? ⟨w.heap.size + 1, 1, none⟩ = some (.int .i64 b) ∧ W.cell? ⟨w.heap.size + 1, 2, none⟩ = some (.int .i64 c)) := fun W h => by
    have e : ∀ j, W.cell? ⟨w.heap.size + 1, j, none⟩ = (#[.int .i64 a, .int .i64 b, .int .i64 c] : Array Value)[j]? := fun j => by rw [Lib.cell_of_heap ((h.block _ (by omega)).trans hn1)]
    exact ⟨e 0, e 1, e 2⟩
  have HZ : Hid (∀ W, Below W0.heap.size W0 W → BxT (w.heap.size + 2) zT (.slice none 0 0) (.slice none 0 0) (.slice none 0 0) W) := fun W h => BxT.of ((h.block _ (by omega)).trans hn2)
  have HF1 : Hid (∀ W, Below W0.heap.size W0 W → ∀ j, W.frozen? ⟨w.heap.size + 2, j, none⟩ = false) := fun W h j => Lib.frozen_of_heap ((h.block _ (by omega)).trans hn2) j
  have HSz : Hid (∀ W, Below W0.heap.size W0 W → w.heap.size + 2 < W.heap.size ∧ w.heap.size + 1 < W.heap.size ∧ w.heap.size < W.heap.size) := fun W h => by have := h.size; omega
  have HBw : Hid (∀ W, Below W0.heap.size W0 W → Below w.heap.size w W) := fun W h => hA.trans (h.mono hA.size)
  have HN : Hid (∀ W, Calls Tryz.prog 35 #[.string s] W fun e w' => e = .returned (.int .i64 (checkL s.data.toList)) ∧ Below W.heap.size W w') := fun W => check_any _ W (Nat.le_trans hs (by decide))
  have HCo : Hid (∀ W, Below W0.heap.size W0 W → Calls Tryz.prog 40 #[ltV o] W fun e w' => e = .returned (.bool (chkT o.t)) ∧ Below W.heap.size W w') := fun W h => checkT_any _ _ _ _ W (ho.below (HBw.out W h)) no (Utf8Tabs_below hW.t (HBw.out W h)) (ML_below hW.m (HBw.out W h))
  have HC : Hid (∀ W, Below W0.heap.size W0 W → Calls Tryz.prog 41 #[.slice ao own.length co] W fun e w' => e = .returned (.bool (chkF own)) ∧ Below W.heap.size W w') := fun W h => checkF_any _ own W (hr.below (HBw.out W h)) (by omega) hn (Utf8Tabs_below hW.t (HBw.out W h)) (ML_below hW.m (HBw.out W h))
  have HI : Hid (∀ W, Calls Tryz.prog 42 #[idV a b c] W fun e w' => e = .returned (.bool (idB a b c)) ∧ Below W.heap.size W w') := fun W => isID_any _ _ _ W
  have HOf : Hid (∀ W, Below W0.heap.size W0 W → Calls Tryz.prog 43 #[ltV o, .string s] W fun e w' => e = .returned (.bool (ofB o.t s)) ∧ Below W.heap.size W w') := fun W h => of_any o s W (ho.below (HBw.out W h)) no.lc no.c hs (Utf8Tabs_below hW.t (HBw.out W h))
  have HM : Hid (∀ W, Below W0.heap.size W0 W → Calls Tryz.prog 44 #[o.va, .slice ao own.length co] W fun e w' => MgA o.t.all own W e w') := fun W h => merge_any _ _ o.t.all own W (ho.2.1.below (HBw.out W h)) (hr.below (HBw.out W h)) no.la (by omega) no.a hn (hW.below (HBw.out W h))
  have HCc : Hid (∀ (B g : Nat) W, Below W0.heap.size W0 W → chkT o.t = true → W.heap[g]? = some (.cells #[.string s] 9 (0, 0)) → W.cell? ⟨B, 0, none⟩ = some (.slice (some ⟨g, 0, none⟩) 1 1) → W.cell? ⟨B, 1, none⟩ = some o.vc → Calls Tryz.prog 45 #[.slice (some ⟨B, 0, none⟩) 2 2] W fun e w' => ClS ([s] ++ o.t.ch) W e w') := fun B g W h hck hg c0 c1 => concatS_any B _ _ [s] o.t.ch W (row_one hg) (ho.2.2.below (HBw.out W h)) c0 c1 (by simp) (by have := ((chkT_iff _).1 hck).2.1; omega)
  have HCl : Hid (∀ W, Below W0.heap.size W0 W → Calls Tryz.prog 46 #[.slice ao own.length co] W fun e w' => ∃ x y, e = .returned (.slice x own.length y) ∧ Hid (w'.ownsRow W0.heap.size 81 3 (.slice x own.length y) own.length (fCells own)) ∧ Below W0.heap.size W0 w' ∧ Below W.heap.size W w') := fun W h => (cloneF_any _ own W (hr.below (HBw.out W h)) hl).mono fun e w' ⟨v, he, ho, hb⟩ => by
    obtain ⟨x, y, rfl⟩ := (IsRow.own ho).form
    exact ⟨x, y, he, own_leT ho h.size, h.trans (hb.mono h.size), hb⟩
  have HD : Hid (belR o.t s own a b c = if checkL s.data.toList = 0 then (if (chkT o.t && (chkF own && idB a b c)) = true then (if ofB o.t s = true then (zT, 5) else if o.t.ch.length = 8 then (zT, 2) else (if (mgL o.t.all own).2 = 0 then (⟨s, o.t.n, own, (mgL o.t.all own).1, s :: o.t.ch, a, b, c⟩, 0) else (zT, (mgL o.t.all own).2))) else (zT, 1)) else (zT, checkL s.data.toList)) := rfl
  have hmn : (mgL o.t.all own).1.length ≤ 24 := mgL_len _ _
  generalize checkL s.data.toList = C at *
  generalize hRes : belR o.t s own a b c = R at *
  clear hRes hr hl hn hW hA hn0 hn1 hn2 hs ho no
  have HW0 : Hid (Below W0.heap.size W0 W0) := Below.refl _ _
  go_enter Tryz.func15, Tryz.ntmps15
  go_wp2_with fail
  rw [← hW0]
  clear hW0
  refine (HN.out _).mono ?_
  rintro e w1 ⟨rfl, hb⟩
  have Hw1 : Hid (Below W0.heap.size W0 w1) := hb
  clear hb
  by_cases hC : C = 0
  rotate_left
  · have dC : (C != 0) = true := by simp [hC]
    have dC' : (!(C == 0)) = true := by simp [hC]
    have dC'' : (C == 0) = false := by simp [hC]
    have HE : Hid (R = (zT, C)) := by show _ = _; rw [HD.out, if_neg hC]
    obtain ⟨⟨e0, e1, e2, e3⟩, e4, e5, e6, e7⟩ := HZ.out _ Hw1.out
    have f0 := HF1.out _ Hw1.out
    have HB : Hid (Below w.heap.size w w1) := HBw.out _ Hw1.out
    have HEnd : Hid (∀ u0 u1 u2 u3 u4 u5 u6 u7, MkP R w (.returned (.tuple #[tyV zT (.slice none 0 0) (.slice none 0 0) (.slice none 0 0), .int .i64 C])) ((((((((w1.setCell ⟨w.heap.size + 2, 0, none⟩ u0).setCell ⟨w.heap.size + 2, 1, none⟩ u1).setCell ⟨w.heap.size + 2, 2, none⟩ u2).setCell ⟨w.heap.size + 2, 3, none⟩ u3).setCell ⟨w.heap.size + 2, 4, none⟩ u4).setCell ⟨w.heap.size + 2, 5, none⟩ u5).setCell ⟨w.heap.size + 2, 6, none⟩ u6).setCell ⟨w.heap.size + 2, 7, none⟩ u7)) := fun u0 u1 u2 u3 u4 u5 u6 u7 => by
      rw [HE.out]
      exact MkP.zero C (below8 HB.out (Nat.le_add_right _ 2) u0 u1 u2 u3 u4 u5 u6 u7)
    clear hC HX HId3 HZ HF1 HSz HBw HN HCo HC HI HOf HM HCc HCl HD HE HB hmn
    go_wp2_with fail
    try simp only [Exit.inBlock, Exit.then]
    refine bodyPost_ret (v := .tuple #[tyV zT (.slice none 0 0) (.slice none 0 0) (.slice none 0 0), .int .i64 C]) ?_ rfl (HEnd.out _ _ _ _ _ _ _ _)
    rw [results_c2 rfl]; go_simp
    first | done | exact ⟨rfl, rfl, rfl, rfl, rfl⟩
  have HD1 := HD.out.trans (if_pos hC)
  have HD1 : Hid (R = if (chkT o.t && (chkF own && idB a b c)) = true then (if ofB o.t s = true then (zT, 5) else if o.t.ch.length = 8 then (zT, 2) else (if (mgL o.t.all own).2 = 0 then (⟨s, o.t.n, own, (mgL o.t.all own).1, s :: o.t.ch, a, b, c⟩, 0) else (zT, (mgL o.t.all own).2))) else (zT, 1)) := HD1
  subst hC
  obtain ⟨⟨g0, g1, g2, g3⟩, g4, g5, g6, g7⟩ := HX.out w1 Hw1.out
  obtain ⟨i0, i1, i2⟩ := HId3.out w1 Hw1.out
  obtain ⟨s2, s1, s0⟩ := HSz.out w1 Hw1.out
  go_wp2_with fail
  refine (HCo.out _ Hw1.out).mono ?_
  rintro e w2 ⟨rfl, hb⟩
  have Hw2 : Hid (Below W0.heap.size W0 w2) := Hw1.out.trans (hb.mono Hw1.out.size)
  clear hb
  clear g0 g1 g2 g3 g4 g5 g6 g7 i0 i1 i2 s2 s1 s0
  cases hk1 : chkT o.t
  · have HE : Hid (R = (zT, 1)) := by show _ = _; rw [HD1.out, hk1, Bool.false_and, if_neg (by decide)]
    obtain ⟨⟨e0, e1, e2, e3⟩, e4, e5, e6, e7⟩ := HZ.out _ Hw2.out
    have f0 := HF1.out _ Hw2.out
    have HB : Hid (Below w.heap.size w w2) := HBw.out _ Hw2.out
    have HEnd : Hid (∀ u0 u1 u2 u3 u4 u5 u6 u7, MkP R w (.returned (.tuple #[tyV zT (.slice none 0 0) (.slice none 0 0) (.slice none 0 0), .int .i64 1])) ((((((((w2.setCell ⟨w.heap.size + 2, 0, none⟩ u0).setCell ⟨w.heap.size + 2, 1, none⟩ u1).setCell ⟨w.heap.size + 2, 2, none⟩ u2).setCell ⟨w.heap.size + 2, 3, none⟩ u3).setCell ⟨w.heap.size + 2, 4, none⟩ u4).setCell ⟨w.heap.size + 2, 5, none⟩ u5).setCell ⟨w.heap.size + 2, 6, none⟩ u6).setCell ⟨w.heap.size + 2, 7, none⟩ u7)) := fun u0 u1 u2 u3 u4 u5 u6 u7 => by
      rw [HE.out]
      exact MkP.zero 1 (below8 HB.out (Nat.le_add_right _ 2) u0 u1 u2 u3 u4 u5 u6 u7)
    clear hk1 HD1 HX HId3 HZ HF1 HSz HBw HN HCo HC HI HOf HM HCc HCl HD HE HB hmn
    go_wp2_with fail
    try simp only [Exit.inBlock, Exit.then]
    refine bodyPost_ret (v := .tuple #[tyV zT (.slice none 0 0) (.slice none 0 0) (.slice none 0 0), .int .i64 1]) ?_ rfl (HEnd.out _ _ _ _ _ _ _ _)
    rw [results_c2 rfl]; go_simp
    first | done | exact ⟨rfl, rfl, rfl, rfl, rfl⟩
  obtain ⟨⟨g0, g1, g2, g3⟩, g4, g5, g6, g7⟩ := HX.out w2 Hw2.out
  obtain ⟨i0, i1, i2⟩ := HId3.out w2 Hw2.out
  obtain ⟨s2, s1, s0⟩ := HSz.out w2 Hw2.out
  go_wp2_with fail
  refine (HC.out _ Hw2.out).mono ?_
  rintro e w3 ⟨rfl, hb⟩
  have Hw3 : Hid (Below W0.heap.size W0 w3) := Hw2.out.trans (hb.mono Hw2.out.size)
  clear hb
  clear g0 g1 g2 g3 g4 g5 g6 g7 i0 i1 i2 s2 s1 s0
  cases hk2 : chkF own
  · have HE : Hid (R = (zT, 1)) := by show _ = _; rw [HD1.out, hk2, Bool.false_and, Bool.and_false, if_neg (by decide)]
    obtain ⟨⟨e0, e1, e2, e3⟩, e4, e5, e6, e7⟩ := HZ.out _ Hw3.out
    have f0 := HF1.out _ Hw3.out
    have HB : Hid (Below w.heap.size w w3) := HBw.out _ Hw3.out
    have HEnd : Hid (∀ u0 u1 u2 u3 u4 u5 u6 u7, MkP R w (.returned (.tuple #[tyV zT (.slice none 0 0) (.slice none 0 0) (.slice none 0 0), .int .i64 1])) ((((((((w3.setCell ⟨w.heap.size + 2, 0, none⟩ u0).setCell ⟨w.heap.size + 2, 1, none⟩ u1).setCell ⟨w.heap.size + 2, 2, none⟩ u2).setCell ⟨w.heap.size + 2, 3, none⟩ u3).setCell ⟨w.heap.size + 2, 4, none⟩ u4).setCell ⟨w.heap.size + 2, 5, none⟩ u5).setCell ⟨w.heap.size + 2, 6, none⟩ u6).setCell ⟨w.heap.size + 2, 7, none⟩ u7)) := fun u0 u1 u2 u3 u4 u5 u6 u7 => by
      rw [HE.out]
      exact MkP.zero 1 (below8 HB.out (Nat.le_add_right _ 2) u0 u1 u2 u3 u4 u5 u6 u7)
    clear hk1 hk2 HD1 HX HId3 HZ HF1 HSz HBw HN HCo HC HI HOf HM HCc HCl HD HE HB hmn
    go_wp2_with fail
    try simp only [Exit.inBlock, Exit.then]
    refine bodyPost_ret (v := .tuple #[tyV zT (.slice none 0 0) (.slice none 0 0) (.slice none 0 0), .int .i64 1]) ?_ rfl (HEnd.out _ _ _ _ _ _ _ _)
    rw [results_c2 rfl]; go_simp
    first | done | exact ⟨rfl, rfl, rfl, rfl, rfl⟩
  obtain ⟨⟨g0, g1, g2, g3⟩, g4, g5, g6, g7⟩ := HX.out w3 Hw3.out
  obtain ⟨i0, i1, i2⟩ := HId3.out w3 Hw3.out
  obtain ⟨s2, s1, s0⟩ := HSz.out w3 Hw3.out
  go_wp2_with fail
  refine (HI.out _).mono ?_
  rintro e w4 ⟨rfl, hb⟩
  have Hw4 : Hid (Below W0.heap.size W0 w4) := Hw3.out.trans (hb.mono Hw3.out.size)
  clear hb
  clear g0 g1 g2 g3 g4 g5 g6 g7 i0 i1 i2 s2 s1 s0
  cases hk3 : idB a b c
  · have HE : Hid (R = (zT, 1)) := by show _ = _; rw [HD1.out, hk3, Bool.and_false, Bool.and_false, if_neg (by decide)]
    obtain ⟨⟨e0, e1, e2, e3⟩, e4, e5, e6, e7⟩ := HZ.out _ Hw4.out
    have f0 := HF1.out _ Hw4.out
    have HB : Hid (Below w.heap.size w w4) := HBw.out _ Hw4.out
    have HEnd : Hid (∀ u0 u1 u2 u3 u4 u5 u6 u7, MkP R w (.returned (.tuple #[tyV zT (.slice none 0 0) (.slice none 0 0) (.slice none 0 0), .int .i64 1])) ((((((((w4.setCell ⟨w.heap.size + 2, 0, none⟩ u0).setCell ⟨w.heap.size + 2, 1, none⟩ u1).setCell ⟨w.heap.size + 2, 2, none⟩ u2).setCell ⟨w.heap.size + 2, 3, none⟩ u3).setCell ⟨w.heap.size + 2, 4, none⟩ u4).setCell ⟨w.heap.size + 2, 5, none⟩ u5).setCell ⟨w.heap.size + 2, 6, none⟩ u6).setCell ⟨w.heap.size + 2, 7, none⟩ u7)) := fun u0 u1 u2 u3 u4 u5 u6 u7 => by
      rw [HE.out]
      exact MkP.zero 1 (below8 HB.out (Nat.le_add_right _ 2) u0 u1 u2 u3 u4 u5 u6 u7)
    clear hk1 hk2 hk3 HD1 HX HId3 HZ HF1 HSz HBw HN HCo HC HI HOf HM HCc HCl HD HE HB hmn
    go_wp2_with fail
    try simp only [Exit.inBlock, Exit.then]
    refine bodyPost_ret (v := .tuple #[tyV zT (.slice none 0 0) (.slice none 0 0) (.slice none 0 0), .int .i64 1]) ?_ rfl (HEnd.out _ _ _ _ _ _ _ _)
    rw [results_c2 rfl]; go_simp
    first | done | exact ⟨rfl, rfl, rfl, rfl, rfl⟩
  have HD2 : Hid (R = if ofB o.t s = true then (zT, 5) else if o.t.ch.length = 8 then (zT, 2) else (if (mgL o.t.all own).2 = 0 then (⟨s, o.t.n, own, (mgL o.t.all own).1, s :: o.t.ch, a, b, c⟩, 0) else (zT, (mgL o.t.all own).2))) := by
    show _ = _
    rw [HD1.out, hk1, hk2, hk3, Bool.and_self, Bool.and_self, if_pos rfl]
  have HK1 : Hid (chkT o.t = true) := hk1
  clear HD1 hk1 hk2 hk3
  obtain ⟨⟨g0, g1, g2, g3⟩, g4, g5, g6, g7⟩ := HX.out w4 Hw4.out
  obtain ⟨i0, i1, i2⟩ := HId3.out w4 Hw4.out
  obtain ⟨s2, s1, s0⟩ := HSz.out w4 Hw4.out
  go_wp2_with fail
  refine (HOf.out _ Hw4.out).mono ?_
  rintro e w5 ⟨rfl, hb⟩
  have Hw5 : Hid (Below W0.heap.size W0 w5) := Hw4.out.trans (hb.mono Hw4.out.size)
  clear hb
  clear g0 g1 g2 g3 g4 g5 g6 g7 i0 i1 i2 s2 s1 s0
  cases hk4 : ofB o.t s
  rotate_left
  · have HE : Hid (R = (zT, 5)) := by show _ = _; rw [HD2.out, hk4, if_pos rfl]
    obtain ⟨⟨e0, e1, e2, e3⟩, e4, e5, e6, e7⟩ := HZ.out _ Hw5.out
    have f0 := HF1.out _ Hw5.out
    have HB : Hid (Below w.heap.size w w5) := HBw.out _ Hw5.out
    have HEnd : Hid (∀ u0 u1 u2 u3 u4 u5 u6 u7, MkP R w (.returned (.tuple #[tyV zT (.slice none 0 0) (.slice none 0 0) (.slice none 0 0), .int .i64 5])) ((((((((w5.setCell ⟨w.heap.size + 2, 0, none⟩ u0).setCell ⟨w.heap.size + 2, 1, none⟩ u1).setCell ⟨w.heap.size + 2, 2, none⟩ u2).setCell ⟨w.heap.size + 2, 3, none⟩ u3).setCell ⟨w.heap.size + 2, 4, none⟩ u4).setCell ⟨w.heap.size + 2, 5, none⟩ u5).setCell ⟨w.heap.size + 2, 6, none⟩ u6).setCell ⟨w.heap.size + 2, 7, none⟩ u7)) := fun u0 u1 u2 u3 u4 u5 u6 u7 => by
      rw [HE.out]
      exact MkP.zero 5 (below8 HB.out (Nat.le_add_right _ 2) u0 u1 u2 u3 u4 u5 u6 u7)
    clear hk4 HD2 HK1 HX HId3 HZ HF1 HSz HBw HN HCo HC HI HOf HM HCc HCl HD HE HB hmn
    go_wp2_with fail
    try simp only [Exit.inBlock, Exit.then]
    refine bodyPost_ret (v := .tuple #[tyV zT (.slice none 0 0) (.slice none 0 0) (.slice none 0 0), .int .i64 5]) ?_ rfl (HEnd.out _ _ _ _ _ _ _ _)
    rw [results_c2 rfl]; go_simp
    first | done | exact ⟨rfl, rfl, rfl, rfl, rfl⟩
  have HD3 : Hid (R = if o.t.ch.length = 8 then (zT, 2) else (if (mgL o.t.all own).2 = 0 then (⟨s, o.t.n, own, (mgL o.t.all own).1, s :: o.t.ch, a, b, c⟩, 0) else (zT, (mgL o.t.all own).2))) := by
    show _ = _
    rw [HD2.out, hk4, if_neg (by decide)]
  clear HD2 hk4
  by_cases h8 : o.t.ch.length = 8
  · have d8 : ((o.t.ch.length : Int) == 8) = true := by rw [h8]; rfl
    obtain ⟨⟨g0, g1, g2, g3⟩, g4, g5, g6, g7⟩ := HX.out w5 Hw5.out
    obtain ⟨i0, i1, i2⟩ := HId3.out w5 Hw5.out
    obtain ⟨s2, s1, s0⟩ := HSz.out w5 Hw5.out
    have HE : Hid (R = (zT, 2)) := by show _ = _; rw [HD3.out, if_pos h8]
    obtain ⟨⟨e0, e1, e2, e3⟩, e4, e5, e6, e7⟩ := HZ.out _ Hw5.out
    have f0 := HF1.out _ Hw5.out
    have HB : Hid (Below w.heap.size w w5) := HBw.out _ Hw5.out
    have HEnd : Hid (∀ u0 u1 u2 u3 u4 u5 u6 u7, MkP R w (.returned (.tuple #[tyV zT (.slice none 0 0) (.slice none 0 0) (.slice none 0 0), .int .i64 2])) ((((((((w5.setCell ⟨w.heap.size + 2, 0, none⟩ u0).setCell ⟨w.heap.size + 2, 1, none⟩ u1).setCell ⟨w.heap.size + 2, 2, none⟩ u2).setCell ⟨w.heap.size + 2, 3, none⟩ u3).setCell ⟨w.heap.size + 2, 4, none⟩ u4).setCell ⟨w.heap.size + 2, 5, none⟩ u5).setCell ⟨w.heap.size + 2, 6, none⟩ u6).setCell ⟨w.heap.size + 2, 7, none⟩ u7)) := fun u0 u1 u2 u3 u4 u5 u6 u7 => by
      rw [HE.out]
      exact MkP.zero 2 (below8 HB.out (Nat.le_add_right _ 2) u0 u1 u2 u3 u4 u5 u6 u7)
    clear h8 HD3 HK1 HX HId3 HZ HF1 HSz HBw HN HCo HC HI HOf HM HCc HCl HD HE HB hmn
    go_wp2_with fail
    try simp only [Exit.inBlock, Exit.then]
    refine bodyPost_ret (v := .tuple #[tyV zT (.slice none 0 0) (.slice none 0 0) (.slice none 0 0), .int .i64 2]) ?_ rfl (HEnd.out _ _ _ _ _ _ _ _)
    rw [results_c2 rfl]; go_simp
    first | done | exact ⟨rfl, rfl, rfl, rfl, rfl⟩
  have d8 : ((o.t.ch.length : Int) == 8) = false := by rw [beq_eq_false_iff_ne]; omega
  have HD4 : Hid (R = if (mgL o.t.all own).2 = 0 then (⟨s, o.t.n, own, (mgL o.t.all own).1, s :: o.t.ch, a, b, c⟩, 0) else (zT, (mgL o.t.all own).2)) := by
    show _ = _
    rw [HD3.out, if_neg h8]
  clear HD3 h8
  obtain ⟨⟨g0, g1, g2, g3⟩, g4, g5, g6, g7⟩ := HX.out w5 Hw5.out
  obtain ⟨i0, i1, i2⟩ := HId3.out w5 Hw5.out
  obtain ⟨s2, s1, s0⟩ := HSz.out w5 Hw5.out
  go_wp2_with fail
  refine (HM.out _ Hw5.out).mono ?_
  rintro e w6 ⟨sm, cm, rfl, hrow, hnew, hb⟩
  have Hw6 : Hid (Below W0.heap.size W0 w6) := Hw5.out.trans (hb.mono Hw5.out.size)
  have HRow : Hid (∀ W, Below w6.heap.size w6 W → IsRow W 3 (.slice sm (mgL o.t.all own).1.length cm) (mgL o.t.all own).1.length (fCells (mgL o.t.all own).1)) := fun W h => hrow.below h
  have HNew : Hid (NewA W0.heap.size sm) := hnew.le Hw5.out.size
  clear hb hrow hnew
  clear g0 g1 g2 g3 g4 g5 g6 g7 i0 i1 i2 s2 s1 s0
  generalize (mgL o.t.all own).1 = D at *
  generalize (mgL o.t.all own).2 = E at *
  by_cases hE : E = 0
  rotate_left
  · have dC : (E != 0) = true := by simp [hE]
    have dC' : (!(E == 0)) = true := by simp [hE]
    have dC'' : (E == 0) = false := by simp [hE]
    have HE : Hid (R = (zT, E)) := by show _ = _; rw [HD4.out, if_neg hE]
    obtain ⟨⟨e0, e1, e2, e3⟩, e4, e5, e6, e7⟩ := HZ.out _ Hw6.out
    have f0 := HF1.out _ Hw6.out
    have HB : Hid (Below w.heap.size w w6) := HBw.out _ Hw6.out
    have HEnd : Hid (∀ u0 u1 u2 u3 u4 u5 u6 u7, MkP R w (.returned (.tuple #[tyV zT (.slice none 0 0) (.slice none 0 0) (.slice none 0 0), .int .i64 E])) ((((((((w6.setCell ⟨w.heap.size + 2, 0, none⟩ u0).setCell ⟨w.heap.size + 2, 1, none⟩ u1).setCell ⟨w.heap.size + 2, 2, none⟩ u2).setCell ⟨w.heap.size + 2, 3, none⟩ u3).setCell ⟨w.heap.size + 2, 4, none⟩ u4).setCell ⟨w.heap.size + 2, 5, none⟩ u5).setCell ⟨w.heap.size + 2, 6, none⟩ u6).setCell ⟨w.heap.size + 2, 7, none⟩ u7)) := fun u0 u1 u2 u3 u4 u5 u6 u7 => by
      rw [HE.out]
      exact MkP.zero E (below8 HB.out (Nat.le_add_right _ 2) u0 u1 u2 u3 u4 u5 u6 u7)
    clear hE HD4 HK1 HRow HNew HX HId3 HZ HF1 HSz HBw HN HCo HC HI HOf HM HCc HCl HD HE HB hmn
    go_wp2_with fail
    try simp only [Exit.inBlock, Exit.then]
    refine bodyPost_ret (v := .tuple #[tyV zT (.slice none 0 0) (.slice none 0 0) (.slice none 0 0), .int .i64 E]) ?_ rfl (HEnd.out _ _ _ _ _ _ _ _)
    rw [results_c2 rfl]; go_simp
    first | done | exact ⟨rfl, rfl, rfl, rfl, rfl⟩
  have HD5 : Hid (R = (⟨s, o.t.n, own, D, s :: o.t.ch, a, b, c⟩, 0)) := by
    show _ = _
    rw [HD4.out, if_pos hE]
  clear HD4
  subst hE
  obtain ⟨⟨g0, g1, g2, g3⟩, g4, g5, g6, g7⟩ := HX.out w6 Hw6.out
  obtain ⟨i0, i1, i2⟩ := HId3.out w6 Hw6.out
  obtain ⟨s2, s1, s0⟩ := HSz.out w6 Hw6.out
  obtain ⟨W7, hW7⟩ : ∃ W7, W7 = (w6.alloc (.cells #[.string s] 9)).alloc (.cells #[.slice (some ⟨w6.heap.size, 0, none⟩) 1 1, o.vc] 28) := ⟨_, rfl⟩
  have hb7 : Below w6.heap.size w6 W7 := by rw [hW7]; exact (al_b _ _).trans ((al_b _ _).mono (by simp <;> omega))
  have hg7 : W7.heap[w6.heap.size]? = some (.cells #[.string s] 9 (0, 0)) := by
    rw [hW7]
    show ((w6.heap.push _).push _)[w6.heap.size]? = _
    rw [Array.getElem?_push, if_neg (by simp <;> omega), Array.getElem?_push, if_pos rfl]
  have hg8 : W7.heap[w6.heap.size + 1]? = some (.cells #[.slice (some ⟨w6.heap.size, 0, none⟩) 1 1, o.vc] 28 (0, 0)) := by
    rw [hW7]
    show ((w6.heap.push _).push _)[w6.heap.size + 1]? = _
    rw [Array.getElem?_push, if_pos (by simp <;> omega)]
  have HW7 : Hid (Below W0.heap.size W0 W7) := Hw6.out.trans (hb7.mono Hw6.out.size)
  have HCC : Hid (Calls Tryz.prog 45 #[.slice (some ⟨w6.heap.size + 1, 0, none⟩) 2 2] W7 fun e w' => ClS ([s] ++ o.t.ch) W7 e w') := HCc.out (w6.heap.size + 1) w6.heap.size W7 HW7.out HK1.out hg7 (by rw [Lib.cell_of_heap hg8]; rfl) (by rw [Lib.cell_of_heap hg8]; rfl)
  have HR7 : Hid (Below w6.heap.size w6 W7) := hb7
  clear hb7 hg7 hg8 HCc HK1
  go_wp2_with fail
  rw [← hW7]
  clear hW7
  refine HCC.out.mono ?_
  rintro e w8 ⟨vch, rfl, hoc, hb⟩
  have Hw8 : Hid (Below W0.heap.size W0 w8) := HW7.out.trans (hb.mono HW7.out.size)
  have HR8 : Hid (Below w6.heap.size w6 w8) := HR7.out.trans (hb.mono HR7.out.size)
  obtain ⟨xc, yc, rfl⟩ := (IsRow.own hoc).form
  have HOc : Hid (w8.ownsRow W0.heap.size 9 1 (.slice xc (s :: o.t.ch).length yc) (s :: o.t.ch).length (sVals (s :: o.t.ch))) := own_leT hoc HW7.out.size
  have hlc : ([s] ++ o.t.ch).length = o.t.ch.length + 1 := by simp
  rw [hlc]
  clear hb hoc HCC HR7 HW7 hlc
  clear g0 g1 g2 g3 g4 g5 g6 g7 i0 i1 i2 s2 s1 s0
  have HS : Hid (∀ W, Below W0.heap.size W0 W → W.cell? ⟨w.heap.size, 0, none⟩ = some (.string o.t.n) ∧ W.cell? ⟨w.heap.size + 1, 0, none⟩ = some (.int .i64 a) ∧ W.cell? ⟨w.heap.size + 1, 1, none⟩ = some (.int .i64 b) ∧ W.cell? ⟨w.heap.size + 1, 2, none⟩ = some (.int .i64 c)) := fun W h => ⟨(HX.out W h).1.1, HId3.out W h⟩
  have HR1 : Hid (Below W0.heap.size W0 w8.drew) := Hw8.out.drew
  have HR2 : Hid (Below w8.heap.size w8 w8.drew) := (Below.refl _ _).drew
  have HK8 : Hid (∀ WE : World, (WE.cell? ⟨w.heap.size, 0, none⟩ = some (.string o.t.n) ∧ WE.cell? ⟨w.heap.size + 1, 0, none⟩ = some (.int .i64 a) ∧ WE.cell? ⟨w.heap.size + 1, 1, none⟩ = some (.int .i64 b) ∧ WE.cell? ⟨w.heap.size + 1, 2, none⟩ = some (.int .i64 c)) → ∀ u0 u1 u2 u3 u4 u5 u6 u7, ((((((((WE.setCell ⟨w.heap.size + 2, 0, none⟩ u0).setCell ⟨w.heap.size + 2, 1, none⟩ u1).setCell ⟨w.heap.size + 2, 2, none⟩ u2).setCell ⟨w.heap.size + 2, 3, none⟩ u3).setCell ⟨w.heap.size + 2, 4, none⟩ u4).setCell ⟨w.heap.size + 2, 5, none⟩ u5).setCell ⟨w.heap.size + 2, 6, none⟩ u6).setCell ⟨w.heap.size + 2, 7, none⟩ u7).cell? ⟨w.heap.size, 0, none⟩ = some (.string o.t.n) ∧ ((((((((WE.setCell ⟨w.heap.size + 2, 0, none⟩ u0).setCell ⟨w.heap.size + 2, 1, none⟩ u1).setCell ⟨w.heap.size + 2, 2, none⟩ u2).setCell ⟨w.heap.size + 2, 3, none⟩ u3).setCell ⟨w.heap.size + 2, 4, none⟩ u4).setCell ⟨w.heap.size + 2, 5, none⟩ u5).setCell ⟨w.heap.size + 2, 6, none⟩ u6).setCell ⟨w.heap.size + 2, 7, none⟩ u7).cell? ⟨w.heap.size + 1, 0, none⟩ = some (.int .i64 a) ∧ ((((((((WE.setCell ⟨w.heap.size + 2, 0, none⟩ u0).setCell ⟨w.heap.size + 2, 1, none⟩ u1).setCell ⟨w.heap.size + 2, 2, none⟩ u2).setCell ⟨w.heap.size + 2, 3, none⟩ u3).setCell ⟨w.heap.size + 2, 4, none⟩ u4).setCell ⟨w.heap.size + 2, 5, none⟩ u5).setCell ⟨w.heap.size + 2, 6, none⟩ u6).setCell ⟨w.heap.size + 2, 7, none⟩ u7).cell? ⟨w.heap.size + 1, 1, none⟩ = some (.int .i64 b) ∧ ((((((((WE.setCell ⟨w.heap.size + 2, 0, none⟩ u0).setCell ⟨w.heap.size + 2, 1, none⟩ u1).setCell ⟨w.heap.size + 2, 2, none⟩ u2).setCell ⟨w.heap.size + 2, 3, none⟩ u3).setCell ⟨w.heap.size + 2, 4, none⟩ u4).setCell ⟨w.heap.size + 2, 5, none⟩ u5).setCell ⟨w.heap.size + 2, 6, none⟩ u6).setCell ⟨w.heap.size + 2, 7, none⟩ u7).cell? ⟨w.heap.size + 1, 2, none⟩ = some (.int .i64 c)) := fun WE h u0 u1 u2 u3 u4 u5 u6 u7 => by
    have o1 : ∀ (W : World) (j k : Nat) (v : Value), (W.setCell ⟨w.heap.size + 2, j, none⟩ v).cell? ⟨w.heap.size, k, none⟩ = W.cell? ⟨w.heap.size, k, none⟩ := fun W j k v => World.cell?_setCell_other _ _ _ _ (by simp only [ne_eq, Addr.mk.injEq, not_and]; intro e; omega)
    have o2 : ∀ (W : World) (j k : Nat) (v : Value), (W.setCell ⟨w.heap.size + 2, j, none⟩ v).cell? ⟨w.heap.size + 1, k, none⟩ = W.cell? ⟨w.heap.size + 1, k, none⟩ := fun W j k v => World.cell?_setCell_other _ _ _ _ (by simp only [ne_eq, Addr.mk.injEq, not_and]; intro e; omega)
    simp only [o1, o2]
    exact h
  have HFin : Hid (∀ (wE : World) (x1 : Option Addr) (y1 : Nat), Hid (wE.ownsRow W0.heap.size 81 3 (.slice x1 own.length y1) own.length (fCells own)) → Below W0.heap.size W0 wE → Below w8.heap.size w8 wE → CtB w ⟨s, o.t.n, own, D, s :: o.t.ch, a, b, c⟩ ((((((((wE.setCell ⟨w.heap.size + 2, 0, none⟩ (.string s)).setCell ⟨w.heap.size + 2, 1, none⟩ (.string o.t.n)).setCell ⟨w.heap.size + 2, 2, none⟩ (.slice x1 own.length y1)).setCell ⟨w.heap.size + 2, 3, none⟩ (.slice sm D.length cm)).setCell ⟨w.heap.size + 2, 4, none⟩ (.slice xc (o.t.ch.length + 1) yc)).setCell ⟨w.heap.size + 2, 5, none⟩ (.int .i64 a)).setCell ⟨w.heap.size + 2, 6, none⟩ (.int .i64 b)).setCell ⟨w.heap.size + 2, 7, none⟩ (.int .i64 c))) := fun wE x1 y1 o1 hE h8 => by
    have hN : NewT (w.heap.size + 3) ⟨⟨s, o.t.n, own, D, s :: o.t.ch, a, b, c⟩, x1, y1, sm, cm, xc, yc⟩ := ⟨(NewA.own o1.out).le (by omega), HNew.out.le (by omega), (NewA.own HOc.out).le (by omega)⟩
    have hT : IsTy wE (⟨s, o.t.n, own, D, s :: o.t.ch, a, b, c⟩ : Ty) (.slice x1 own.length y1) (.slice sm D.length cm) (.slice xc (s :: o.t.ch).length yc) := ⟨IsRow.own o1.out, HRow.out wE (HR8.out.trans (h8.mono HR8.out.size)), (IsRow.own HOc.out).below h8⟩
    exact ⟨⟨⟨s, o.t.n, own, D, s :: o.t.ch, a, b, c⟩, x1, y1, sm, cm, xc, yc⟩, rfl, ty_far8 (y := ⟨⟨s, o.t.n, own, D, s :: o.t.ch, a, b, c⟩, x1, y1, sm, cm, xc, yc⟩) hT hN (by omega) _ _ _ _ _ _ _ _, hN, below8 (HBw.out _ hE) (Nat.le_add_right _ 2) _ _ _ _ _ _ _ _, (HZ.out _ hE).put8 ⟨s, o.t.n, own, D, s :: o.t.ch, a, b, c⟩ _ _ _⟩
  go_wp2_with fail
  go_cut [9] (fun e0 wx => e0 = .int .i64 0 ∧ CtB w ⟨s, o.t.n, own, D, s :: o.t.ch, a, b, c⟩ wx)
  case first =>
    refine wp_region_held_drew (S := fun w' => w'.cell? ⟨w.heap.size, 0, none⟩ = some (.string o.t.n) ∧ w'.cell? ⟨w.heap.size + 1, 0, none⟩ = some (.int .i64 a) ∧ w'.cell? ⟨w.heap.size + 1, 1, none⟩ = some (.int .i64 b) ∧ w'.cell? ⟨w.heap.size + 1, 2, none⟩ = some (.int .i64 c)) (by kernel_rfl) (HS.out _ HR1.out) (fun hHeld => ?_)
    generalize w8.drew = wd at *
    refine wpAnyH_take (i := 0) (v := ?_) rfl (by kernel_rfl) (by kernel_rfl) (by kernel_rfl) (fun _ _ _ h => h) (Or.inl ⟨by rfl, ?_⟩) hHeld ?_
    rotate_left 1
    · intro w9 hSw; obtain ⟨g0, i0, i1, i2⟩ := hSw; go_simp; try with_reducible rfl
    change wpAnyH _ _ _ _ _ _ _ (Act.put _ (some 60) _) _
    simp only [Act.put, List.setIfInBounds_toArray, List.set_cons_zero, List.set_cons_succ]
    refine wpAnyH_take (i := 1) (v := ?_) rfl (by kernel_rfl) (by kernel_rfl) (by kernel_rfl) (fun _ _ _ h => h) (Or.inl ⟨by rfl, ?_⟩) hHeld ?_
    rotate_left 1
    · intro w9 hSw; obtain ⟨g0, i0, i1, i2⟩ := hSw; go_simp; try with_reducible rfl
    change wpAnyH _ _ _ _ _ _ _ (Act.put _ (some 61) _) _
    simp only [Act.put, List.setIfInBounds_toArray, List.set_cons_zero, List.set_cons_succ]
    refine wpAnyH_take (i := 2) (v := ?_) rfl (by kernel_rfl) (by kernel_rfl) (by kernel_rfl) (fun _ _ _ h => h) (Or.inl ⟨by rfl, ?_⟩) hHeld ?_
    rotate_left 1
    · intro w9 hSw; obtain ⟨g0, i0, i1, i2⟩ := hSw; go_simp; try with_reducible rfl
    change wpAnyH _ _ _ _ _ _ _ (Act.put _ (some 62) _) _
    simp only [Act.put, List.setIfInBounds_toArray, List.set_cons_zero, List.set_cons_succ]
    refine wpAnyH_take (i := 3) (v := ?_) rfl (by kernel_rfl) (by kernel_rfl) (by kernel_rfl) (fun _ _ _ h => h) (Or.inl ⟨by rfl, ?_⟩) hHeld ?_
    rotate_left 1
    · intro w9 hSw; obtain ⟨g0, i0, i1, i2⟩ := hSw; go_simp; try with_reducible rfl
    change wpAnyH _ _ _ _ _ _ _ (Act.put _ (some 63) _) _
    simp only [Act.put, List.setIfInBounds_toArray, List.set_cons_zero, List.set_cons_succ]
    refine wpAnyH_take (i := 5) (v := ?_) rfl (by kernel_rfl) (by kernel_rfl) (by kernel_rfl) (fun _ _ _ h => h) (Or.inl ⟨by rfl, ?_⟩) hHeld ?_
    rotate_left 1
    · intro w9 hSw; obtain ⟨g0, i0, i1, i2⟩ := hSw; go_simp; try with_reducible rfl
    change wpAnyH _ _ _ _ _ _ _ (Act.put _ (some 65) _) _
    simp only [Act.put, List.setIfInBounds_toArray, List.set_cons_zero, List.set_cons_succ]
    refine wpAnyH_take (i := 6) (v := ?_) rfl (by kernel_rfl) (by kernel_rfl) (by kernel_rfl) (fun _ _ _ h => h) (Or.inl ⟨by rfl, ?_⟩) hHeld ?_
    rotate_left 1
    · intro w9 hSw; obtain ⟨g0, i0, i1, i2⟩ := hSw; go_simp; try with_reducible rfl
    change wpAnyH _ _ _ _ _ _ _ (Act.put _ (some 66) _) _
    simp only [Act.put, List.setIfInBounds_toArray, List.set_cons_zero, List.set_cons_succ]
    refine wpAnyH_take (i := 7) (v := ?_) rfl (by kernel_rfl) (by kernel_rfl) (by kernel_rfl) (fun _ _ _ h => h) (Or.inl ⟨by rfl, ?_⟩) hHeld ?_
    rotate_left 1
    · intro w9 hSw; obtain ⟨g0, i0, i1, i2⟩ := hSw; go_simp; try with_reducible rfl
    change wpAnyH _ _ _ _ _ _ _ (Act.put _ (some 67) _) _
    simp only [Act.put, List.setIfInBounds_toArray, List.set_cons_zero, List.set_cons_succ]
    refine wpAnyH_ready (rs := [4]) (by kernel_rfl) (by simp) ?_
    refine AllReadyH.cons rfl (fun K hK => ?_) AllReadyH.nil
    go_simp
    refine (HCl.out _ HR1.out).mono ?_
    rintro e w9 ⟨x1, y1, rfl, HO1, hb9, hc9⟩
    go_simp
    refine hK.out _ _ (HS.out _ hb9) (fun hHeld => ?_)
    clear hK K
    refine wpAnyH_take (i := 8) (v := ?_) rfl (by kernel_rfl) (by kernel_rfl) (by kernel_rfl) (fun _ _ _ h => h) (Or.inl ⟨by rfl, ?_⟩) hHeld ?_
    rotate_left 1
    · intro w9 hSw; obtain ⟨g0, i0, i1, i2⟩ := hSw; go_simp; try with_reducible rfl
    change wpAnyH _ _ _ _ _ _ _ (Act.put _ (some 68) _) _
    simp only [Act.put, List.setIfInBounds_toArray, List.set_cons_zero, List.set_cons_succ]
    obtain ⟨⟨m0, m1, m2, m3⟩, m4, m5, m6, m7⟩ := HZ.out _ hb9
    have mf := HF1.out _ hb9
    obtain ⟨ms2, ms1, ms0⟩ := HSz.out _ hb9
    have HCt : Hid _ := HFin.out w9 x1 y1 HO1 hb9 (HR2.out.trans (hc9.mono HR2.out.size))
    have HC3 := HS.out _ hb9
    refine wpAnyH_ready (rs := [9]) (by kernel_rfl) (by simp) ?_
    refine AllReadyH.cons rfl (fun K hK => ?_) AllReadyH.nil
    go_simp
    refine hK.out _ _ (HK8.out w9 HC3 _ _ _ _ _ _ _ _) (fun hHeld => ?_)
    clear hK K
    refine wpAnyH_ready (rs := [10]) (by kernel_rfl) (by simp) ?_
    refine AllReadyH.cons rfl (fun K hK => ?_) AllReadyH.nil
    go_simp
    refine hK.out _ _ hHeld (fun hHeld => ?_)
    clear hK K
    refine wpAnyH_done (by kernel_rfl) ?_ _
    try go_wp2_with fail
    go_meet
    exact ⟨rfl, HCt.out⟩
  case rest =>
    obtain ⟨rfl, y, hy, HT, HN1, HB1, HX1⟩ := hcut
    obtain ⟨⟨c0, c1, c2, c3⟩, c4, c5, c6, c7⟩ := HX1.out
    have HEnd : Hid (MkP R w (.returned (.tuple #[ltV y, .int .i64 0])) wc) := by
      rw [HD5.out]
      exact ⟨y, rfl, hy, HT.out, HN1.out.le (by omega), HB1.out⟩
    clear HX1 HT HN1 HB1 HFin HR1 HR2 HSz HZ HF1 HBw HN HC HI HCl HId3 HK8 hy HD5 HS HX HCo HOf HM HD HRow HNew HOc HR8
    go_wp2_with fail
    try simp only [Exit.inBlock, Exit.then]
    refine bodyPost_ret (v := .tuple #[ltV y, .int .i64 0]) ?_ rfl HEnd.out
    rw [results_c2 rfl]; go_simp
end Go.Proofs.YtkcnkjaeidbjbaaGreatDoor
