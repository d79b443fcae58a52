/- forest.Make: its walk. -/
import Derived.Test.YtkcnkjaeidbjbaaGreatDoorFoP
import Derived.Test.YtkcnkjaeidbjbaaGreatDoorZr
namespace Go.Proofs.YtkcnkjaeidbjbaaGreatDoor
open Go.RowKit Go.ChangeMaps

theorem MkP.up {r : Ty × Int} {w w5 w6 : World} {e : Ending} (h : MkP r w5 e w6) (hb : Below w.heap.size w w5) : MkP r w e w6 := by
  obtain ⟨y, h1, h2, h3, h4, h5⟩ := h
  exact ⟨y, h1, h2, h3, h4.le hb.size, hb.trans (h5.mono hb.size)⟩
/-- Behind the store of a type that is made. -/
def CtM (w : World) (t : Ty) (wx : World) : Prop := ∃ y : LT, y.t = t ∧ Hid (IsTy wx y.t y.vo y.va y.vc) ∧ Hid (NewT (w.heap.size + 2) y) ∧ Hid (Below w.heap.size w wx) ∧ Hid (BxT (w.heap.size + 1) y.t y.vo y.va y.vc wx)
set_option maxRecDepth 100000 in
set_option maxHeartbeats 4000000 in
theorem make_any (vl : Value) (L : List LT) (s p : ByteArray) (v : Value) (own : List Fd) (a b c : Int) (w : World) (hL : IsTys w vl L) (hl0 : L.length ≤ 1000000) (nL : NmL L) (hs : s.size ≤ 1000000) (hp : p.size ≤ 1000000) (hr : IsRow w 3 v own.length (fCells own)) (hl : own.length ≤ 1000) (hn : NmF own) (hW : W3 w) :
    Calls Tryz.prog 12 #[vl, .string s, .string p, v, idV a b c] w fun e w' => MkP (mkR (tys L) s p own a b c) w e w' := by
  obtain ⟨ao, co, rfl⟩ := hr.form
  obtain ⟨al, cl, rfl⟩ := hL.1.form
  obtain ⟨W0, hW0⟩ : ∃ W0, W0 = (w.alloc (.cells #[.int .i64 a, .int .i64 b, .int .i64 c] 25)).alloc (.cells zTyA 30) := ⟨_, rfl⟩
  have hA : Below w.heap.size w W0 := by rw [hW0]; exact (al_b w _).trans ((al_b _ _).mono (by simp))
  have hz : W0.heap.size = w.heap.size + 2 := by rw [hW0]; simp
  have hn1 : W0.heap[w.heap.size]? = some (.cells #[.int .i64 a, .int .i64 b, .int .i64 c] 25 (0, 0)) := by
    rw [hW0]
    show ((w.heap.push _).push _)[w.heap.size]? = _
    rw [Array.getElem?_push, if_neg (by simp), Array.getElem?_push, if_pos rfl]
  have hn2 : W0.heap[w.heap.size + 1]? = some (.cells zTyA 30 (0, 0)) := by
    rw [hW0]
    show ((w.heap.push _).push _)[w.heap.size + 1]? = _
    rw [Array.getElem?_push, if_pos (by simp)]
  have HId3 : Hid (∀ W, Below W0.heap.size W0 W → W.cell? ⟨w.heap.size, 0, none⟩ = some (.int .i64 a) ∧ W.cell? ⟨w.heap.size, 1, none⟩ = some (.int .i64 b) ∧ W.cell? ⟨w.heap.size, 2, none⟩ = some (.int .i64 c)) := fun W h => by
    have e : ∀ j, W.cell? ⟨w.heap.size, j, none⟩ = (#[.int .i64 a, .int .i64 b, .int .i64 c] : Array Value)[j]? := fun j => by rw [Lib.cell_of_heap ((h.block _ (by omega)).trans hn1)]
    exact ⟨e 0, e 1, e 2⟩
  have HZ : Hid (∀ W, Below W0.heap.size W0 W → BxT (w.heap.size + 1) zT (.slice none 0 0) (.slice none 0 0) (.slice none 0 0) W) := fun W h => BxT.of ((h.block _ (by omega)).trans hn2)
  have HF1 : Hid (∀ W, Below W0.heap.size W0 W → ∀ j, W.frozen? ⟨w.heap.size + 1, j, none⟩ = false) := fun W h j => Lib.frozen_of_heap ((h.block _ (by omega)).trans hn2) j
  have HSz : Hid (∀ W, Below W0.heap.size W0 W → w.heap.size + 1 < W.heap.size ∧ w.heap.size < W.heap.size) := fun W h => by have := h.size; omega
  have HBw : Hid (∀ W, Below W0.heap.size W0 W → Below w.heap.size w W) := fun W h => hA.trans (h.mono hA.size)
  have HIs : Hid (∀ W, Below W0.heap.size W0 W → Calls Tryz.prog 31 #[.slice al L.length cl] W fun e w' => e = .returned (.bool (isB (tys L))) ∧ Below W.heap.size W w') := fun W h => is_any _ L W (hL.below (HBw.out W h)) hl0 nL (hW.below (HBw.out W h))
  have HN : Hid (∀ W, Calls Tryz.prog 35 #[.string s] W fun e w' => e = .returned (.int .i64 (checkL s.data.toList)) ∧ Below W.heap.size W w') := fun W => check_any _ W (Nat.le_trans hs (by decide))
  have HP1 : Hid (isB (tys L) = true → ∀ W, Below W0.heap.size W0 W → Calls Tryz.prog 36 #[.slice al L.length cl, .string s] W fun e w' => PlP L s W e w') := fun hi W h => place_any _ L s W (hL.below (HBw.out W h)).1 (by have := ((isB_iff _).1 hi).1; rw [tys_len] at this; omega) (nmN nL) hs (Utf8Tabs_below hW.t (HBw.out W h)) ((isB_iff _).1 hi).2.2.1
  have HP2 : Hid (isB (tys L) = true → ∀ W, Below W0.heap.size W0 W → Calls Tryz.prog 36 #[.slice al L.length cl, .string p] W fun e w' => PlP L p W e w') := fun hi W h => place_any _ L p W (hL.below (HBw.out W h)).1 (by have := ((isB_iff _).1 hi).1; rw [tys_len] at this; omega) (nmN nL) hp (Utf8Tabs_below hW.t (HBw.out W h)) ((isB_iff _).1 hi).2.2.1
  have HRt : Hid (∀ W, Below W0.heap.size W0 W → Calls Tryz.prog 18 #[.string s, .slice ao own.length co, idV a b c] W fun e w' => MkP (rootR s own a b c) W e w') := fun W h => root_any s _ own a b c W hs (hr.below (HBw.out W h)) hl hn (Utf8Tabs_below hW.t (HBw.out W h)) (ML_below hW.m (HBw.out W h))
  have HBe : Hid (∀ (x : LT), x ∈ L → ∀ W, Below W0.heap.size W0 W → Calls Tryz.prog 15 #[ltV x, .string s, .slice ao own.length co, idV a b c] W fun e w' => MkP (belR x.t s own a b c) W e w') := fun x hx W h => below_any x s _ own a b c W ((hL.2 x hx).below (HBw.out W h)) (nL x hx) hs (hr.below (HBw.out W h)) hl hn (hW.below (HBw.out W h))
  have HRw : Hid (∀ W, Below W0.heap.size W0 W → IsRow W 8 (.slice al L.length cl) L.length (tCells L)) := fun W h => hL.1.below (HBw.out W h)
  have HLw : Hid (IsRow w 8 (.slice al L.length cl) L.length (tCells L)) := hL.1
  have HD : Hid (mkR (tys L) s p own a b c = if isB (tys L) = true then (if checkL s.data.toList = 0 then (if (parN (tys L) s).isSome = true then (zT, 5) else if p.size = 0 then rootR s own a b c else (match parN (tys L) p with | none => (zT, 4) | some o => belR o s own a b c)) else (zT, checkL s.data.toList)) else (zT, 1)) := rfl
  generalize checkL s.data.toList = C at *
  generalize hRes : mkR (tys L) s p own a b c = R at *
  clear hRes hr hl hn hW hA hn1 hn2 hs hp hL nL hl0
  have HW0 : Hid (Below W0.heap.size W0 W0) := Below.refl _ _
  go_enter Tryz.func12, Tryz.ntmps12
  go_wp2_with fail
  rw [← hW0]
  clear hW0
  refine (HIs.out _ HW0.out).mono ?_
  rintro e w1 ⟨rfl, hb⟩
  have Hw1 : Hid (Below W0.heap.size W0 w1) := hb
  clear hb
  cases hi : isB (tys L)
  · have HE : Hid (R = (zT, 1)) := by show _ = _; rw [HD.out, hi, if_neg (by decide)]
    obtain ⟨⟨e0, e1, e2, e3⟩, e4, e5, e6, e7⟩ := HZ.out _ Hw1.out
    have f0 := HF1.out _ Hw1.out
    have HB : Hid (Below w.heap.size w w1) := HBw.out _ Hw1.out
    have HEnd : Hid (∀ u0 u1 u2 u3 u4 u5 u6 u7, MkP R w (.returned (.tuple #[tyV zT (.slice none 0 0) (.slice none 0 0) (.slice none 0 0), .int .i64 1])) ((((((((w1.setCell ⟨w.heap.size + 1, 0, none⟩ u0).setCell ⟨w.heap.size + 1, 1, none⟩ u1).setCell ⟨w.heap.size + 1, 2, none⟩ u2).setCell ⟨w.heap.size + 1, 3, none⟩ u3).setCell ⟨w.heap.size + 1, 4, none⟩ u4).setCell ⟨w.heap.size + 1, 5, none⟩ u5).setCell ⟨w.heap.size + 1, 6, none⟩ u6).setCell ⟨w.heap.size + 1, 7, none⟩ u7)) := fun u0 u1 u2 u3 u4 u5 u6 u7 => by
      rw [HE.out]
      exact MkP.zero 1 (below8 HB.out (Nat.le_add_right _ 1) u0 u1 u2 u3 u4 u5 u6 u7)
    clear hi HId3 HZ HF1 HSz HBw HIs HN HP1 HP2 HRt HBe HRw HD HE HB
    go_wp2_with fail
    try simp only [Exit.inBlock, Exit.then]
    refine bodyPost_ret (v := .tuple #[tyV zT (.slice none 0 0) (.slice none 0 0) (.slice none 0 0), .int .i64 1]) ?_ rfl (HEnd.out _ _ _ _ _ _ _ _)
    rw [results_c2 rfl]; go_simp
    first | done | exact ⟨rfl, rfl, rfl, rfl, rfl⟩
  have HD1 : Hid (R = if C = 0 then (if (parN (tys L) s).isSome = true then (zT, 5) else if p.size = 0 then rootR s own a b c else (match parN (tys L) p with | none => (zT, 4) | some o => belR o s own a b c)) else (zT, C)) := by
    show _ = _
    rw [HD.out, hi, if_pos rfl]
  have HP1' : Hid (∀ W, Below W0.heap.size W0 W → Calls Tryz.prog 36 #[.slice al L.length cl, .string s] W fun e w' => PlP L s W e w') := HP1.out hi
  have HP2' : Hid (∀ W, Below W0.heap.size W0 W → Calls Tryz.prog 36 #[.slice al L.length cl, .string p] W fun e w' => PlP L p W e w') := HP2.out hi
  have HRi : Hid (Rise (tys L)) := ((isB_iff _).1 hi).2.2.1
  clear hi
  go_wp2_with fail
  refine (HN.out _).mono ?_
  rintro e w2 ⟨rfl, hb⟩
  have Hw2 : Hid (Below W0.heap.size W0 w2) := Hw1.out.trans (hb.mono Hw1.out.size)
  clear hb
  by_cases hC : C = 0
  rotate_left
  · have dC : (C != 0) = true := by simp [hC]
    have dC' : (!(C == 0)) = true := by simp [hC]
    have dC'' : (C == 0) = false := by simp [hC]
    have HE : Hid (R = (zT, C)) := by show _ = _; rw [HD1.out, if_neg hC]
    obtain ⟨⟨e0, e1, e2, e3⟩, e4, e5, e6, e7⟩ := HZ.out _ Hw2.out
    have f0 := HF1.out _ Hw2.out
    have HB : Hid (Below w.heap.size w w2) := HBw.out _ Hw2.out
    have HEnd : Hid (∀ u0 u1 u2 u3 u4 u5 u6 u7, MkP R w (.returned (.tuple #[tyV zT (.slice none 0 0) (.slice none 0 0) (.slice none 0 0), .int .i64 C])) ((((((((w2.setCell ⟨w.heap.size + 1, 0, none⟩ u0).setCell ⟨w.heap.size + 1, 1, none⟩ u1).setCell ⟨w.heap.size + 1, 2, none⟩ u2).setCell ⟨w.heap.size + 1, 3, none⟩ u3).setCell ⟨w.heap.size + 1, 4, none⟩ u4).setCell ⟨w.heap.size + 1, 5, none⟩ u5).setCell ⟨w.heap.size + 1, 6, none⟩ u6).setCell ⟨w.heap.size + 1, 7, none⟩ u7)) := fun u0 u1 u2 u3 u4 u5 u6 u7 => by
      rw [HE.out]
      exact MkP.zero C (below8 HB.out (Nat.le_add_right _ 1) u0 u1 u2 u3 u4 u5 u6 u7)
    clear hC HD1 HP1' HP2' HRi HId3 HZ HF1 HSz HBw HIs HN HP1 HP2 HRt HBe HRw HD HE HB
    go_wp2_with fail
    try simp only [Exit.inBlock, Exit.then]
    refine bodyPost_ret (v := .tuple #[tyV zT (.slice none 0 0) (.slice none 0 0) (.slice none 0 0), .int .i64 C]) ?_ rfl (HEnd.out _ _ _ _ _ _ _ _)
    rw [results_c2 rfl]; go_simp
    first | done | exact ⟨rfl, rfl, rfl, rfl, rfl⟩
  have HD2 : Hid (R = if (parN (tys L) s).isSome = true then (zT, 5) else if p.size = 0 then rootR s own a b c else (match parN (tys L) p with | none => (zT, 4) | some o => belR o s own a b c)) := by
    show _ = _
    rw [HD1.out, if_pos hC]
  clear HD1
  subst hC
  go_wp2_with fail
  refine (HP1'.out _ Hw2.out).mono ?_
  rintro e w3 ⟨rfl, hb⟩
  have Hw3 : Hid (Below W0.heap.size W0 w3) := Hw2.out.trans (hb.mono Hw2.out.size)
  clear hb
  generalize plcN (tys L) s = pl1 at *
  cases hk : (parN (tys L) s).isSome
  rotate_left
  · have HE : Hid (R = (zT, 5)) := by show _ = _; rw [HD2.out, hk, if_pos rfl]
    obtain ⟨⟨e0, e1, e2, e3⟩, e4, e5, e6, e7⟩ := HZ.out _ Hw3.out
    have f0 := HF1.out _ Hw3.out
    have HB : Hid (Below w.heap.size w w3) := HBw.out _ Hw3.out
    have HEnd : Hid (∀ u0 u1 u2 u3 u4 u5 u6 u7, MkP R w (.returned (.tuple #[tyV zT (.slice none 0 0) (.slice none 0 0) (.slice none 0 0), .int .i64 5])) ((((((((w3.setCell ⟨w.heap.size + 1, 0, none⟩ u0).setCell ⟨w.heap.size + 1, 1, none⟩ u1).setCell ⟨w.heap.size + 1, 2, none⟩ u2).setCell ⟨w.heap.size + 1, 3, none⟩ u3).setCell ⟨w.heap.size + 1, 4, none⟩ u4).setCell ⟨w.heap.size + 1, 5, none⟩ u5).setCell ⟨w.heap.size + 1, 6, none⟩ u6).setCell ⟨w.heap.size + 1, 7, none⟩ u7)) := fun u0 u1 u2 u3 u4 u5 u6 u7 => by
      rw [HE.out]
      exact MkP.zero 5 (below8 HB.out (Nat.le_add_right _ 1) u0 u1 u2 u3 u4 u5 u6 u7)
    clear hk HD2 HP1' HP2' HRi HId3 HZ HF1 HSz HBw HIs HN HP1 HP2 HRt HBe HRw HD HE HB
    go_wp2_with fail
    try simp only [Exit.inBlock, Exit.then]
    refine bodyPost_ret (v := .tuple #[tyV zT (.slice none 0 0) (.slice none 0 0) (.slice none 0 0), .int .i64 5]) ?_ rfl (HEnd.out _ _ _ _ _ _ _ _)
    rw [results_c2 rfl]; go_simp
    first | done | exact ⟨rfl, rfl, rfl, rfl, rfl⟩
  have HD3 : Hid (R = if p.size = 0 then rootR s own a b c else (match parN (tys L) p with | none => (zT, 4) | some o => belR o s own a b c)) := by
    show _ = _
    rw [HD2.out, hk, if_neg (by decide)]
  clear HD2 hk HP1'
  have eP := str0 p
  have eP2 := str0' p
  by_cases hp0 : p.size = 0
  · have HE : Hid (R = rootR s own a b c) := by show _ = _; rw [HD3.out, if_pos hp0]
    rw [decide_eq_true hp0] at eP eP2
    obtain ⟨i0, i1, i2⟩ := HId3.out _ Hw3.out
    clear hp0 HD3
    go_wp2_with fail
    refine (HRt.out _ Hw3.out).mono ?_
    intro e w4 hmk
    obtain ⟨y, rfl, hyt, hyI, hyN, hb⟩ := hmk
    have hBw4 : Below W0.heap.size W0 w4 := Hw3.out.trans (hb.mono Hw3.out.size)
    obtain ⟨⟨e0, e1, e2, e3⟩, e4, e5, e6, e7⟩ := HZ.out _ hBw4
    have f0 := HF1.out _ hBw4
    have hlo : w.heap.size + 1 < w3.heap.size := (HSz.out _ Hw3.out).1
    have HEnd : Hid (∀ u0 u1 u2 u3 u4 u5 u6 u7, MkP R w (.returned (.tuple #[ltV y, .int .i64 (rootR s own a b c).2])) (((((((((w4.setCell ⟨w.heap.size + 1, 0, none⟩ u0).setCell ⟨w.heap.size + 1, 1, none⟩ u1).setCell ⟨w.heap.size + 1, 2, none⟩ u2).setCell ⟨w.heap.size + 1, 3, none⟩ u3).setCell ⟨w.heap.size + 1, 4, none⟩ u4).setCell ⟨w.heap.size + 1, 5, none⟩ u5).setCell ⟨w.heap.size + 1, 6, none⟩ u6).setCell ⟨w.heap.size + 1, 7, none⟩ u7))) := fun u0 u1 u2 u3 u4 u5 u6 u7 => by
      rw [HE.out]
      exact ⟨y, rfl, hyt, ty_far8 hyI hyN hlo _ _ _ _ _ _ _ _, hyN.le (by omega), below8 (HBw.out _ hBw4) (Nat.le_add_right _ 1) _ _ _ _ _ _ _ _⟩
    generalize (rootR s own a b c).2 = E2 at *
    clear hyt hyI hyN hb hBw4 HId3 HZ HF1 HSz HBw HIs HN HP1 HP2 HRt HBe HRw HD HE HP2' HRi i0 i1 i2
    go_wp2_with fail
    try simp only [Exit.inBlock, Exit.then]
    refine bodyPost_ret (v := .tuple #[ltV y, .int .i64 E2]) ?_ rfl (HEnd.out _ _ _ _ _ _ _ _)
    rw [results_c2 rfl]; go_simp
    first | done | exact ⟨rfl, rfl, rfl, rfl, rfl⟩
  have HD4 : Hid (R = (match parN (tys L) p with | none => (zT, 4) | some o => belR o s own a b c)) := by
    show _ = _
    rw [HD3.out, if_neg hp0]
  rw [decide_eq_false hp0] at eP eP2
  clear HD3 hp0
  go_wp2_with fail
  refine (HP2'.out _ Hw3.out).mono ?_
  rintro e w4 ⟨rfl, hb⟩
  have Hw4 : Hid (Below W0.heap.size W0 w4) := Hw3.out.trans (hb.mono Hw3.out.size)
  clear hb
  cases hk : (parN (tys L) p).isSome
  · generalize plcN (tys L) p = pl2 at *
    have hpn : parN (tys L) p = none := by simpa using hk
    have HE : Hid (R = (zT, 4)) := by show _ = _; rw [HD4.out, hpn]
    obtain ⟨⟨e0, e1, e2, e3⟩, e4, e5, e6, e7⟩ := HZ.out _ Hw4.out
    have f0 := HF1.out _ Hw4.out
    have HB : Hid (Below w.heap.size w w4) := HBw.out _ Hw4.out
    have HEnd : Hid (∀ u0 u1 u2 u3 u4 u5 u6 u7, MkP R w (.returned (.tuple #[tyV zT (.slice none 0 0) (.slice none 0 0) (.slice none 0 0), .int .i64 4])) ((((((((w4.setCell ⟨w.heap.size + 1, 0, none⟩ u0).setCell ⟨w.heap.size + 1, 1, none⟩ u1).setCell ⟨w.heap.size + 1, 2, none⟩ u2).setCell ⟨w.heap.size + 1, 3, none⟩ u3).setCell ⟨w.heap.size + 1, 4, none⟩ u4).setCell ⟨w.heap.size + 1, 5, none⟩ u5).setCell ⟨w.heap.size + 1, 6, none⟩ u6).setCell ⟨w.heap.size + 1, 7, none⟩ u7)) := fun u0 u1 u2 u3 u4 u5 u6 u7 => by
      rw [HE.out]
      exact MkP.zero 4 (below8 HB.out (Nat.le_add_right _ 1) u0 u1 u2 u3 u4 u5 u6 u7)
    clear hk hpn HD4 HP2' HRi HId3 HZ HF1 HSz HBw HIs HN HP1 HP2 HRt HBe HRw HD HE HB
    go_wp2_with fail
    try simp only [Exit.inBlock, Exit.then]
    refine bodyPost_ret (v := .tuple #[tyV zT (.slice none 0 0) (.slice none 0 0) (.slice none 0 0), .int .i64 4]) ?_ rfl (HEnd.out _ _ _ _ _ _ _ _)
    rw [results_c2 rfl]; go_simp
    first | done | exact ⟨rfl, rfl, rfl, rfl, rfl⟩
  obtain ⟨hkm, hpar⟩ := par_plcL HRi.out hk
  have HE : Hid (R = belR L[plcN (tys L) p].t s own a b c) := by show _ = _; rw [HD4.out, hpar]
  have HBx : Hid (∀ W, Below W0.heap.size W0 W → Calls Tryz.prog 15 #[ltV L[plcN (tys L) p], .string s, .slice ao own.length co, idV a b c] W fun e w' => MkP (belR L[plcN (tys L) p].t s own a b c) W e w') := fun W h => HBe.out _ (List.getElem_mem hkm) W h
  obtain ⟨bl, off, rfl, hbl, -, hcap, hc⟩ := t_at HLw.out (by omega)
  have hcm := hc _ hkm
  generalize L[plcN (tys L) p]'hkm = x at *
  generalize plcN (tys L) p = m at *
  obtain ⟨⟨y0, y1, y2, y3⟩, y4, y5, y6, y7⟩ := hcm
  have j1 : (0 : Int) ≤ (m : Int) := by omega
  have j2 : (m : Int) < (L.length : Int) := by omega
  have HS : Hid (∀ W, Below W0.heap.size W0 W → W.cell? ⟨bl, off + m * 8, none⟩ = some (.string x.t.n) ∧ W.cell? ⟨bl, off + m * 8 + 1, none⟩ = some (.string x.t.p) ∧ W.cell? ⟨bl, off + m * 8 + 2, none⟩ = some x.vo ∧ W.cell? ⟨bl, off + m * 8 + 3, none⟩ = some x.va ∧ W.cell? ⟨bl, off + m * 8 + 4, none⟩ = some x.vc ∧ W.cell? ⟨bl, off + m * 8 + 5, none⟩ = some (.int .i64 x.t.nd) ∧ W.cell? ⟨bl, off + m * 8 + 6, none⟩ = some (.int .i64 x.t.lf) ∧ W.cell? ⟨bl, off + m * 8 + 7, none⟩ = some (.int .i64 x.t.sq) ∧ W.cell? ⟨w.heap.size, 0, none⟩ = some (.int .i64 a) ∧ W.cell? ⟨w.heap.size, 1, none⟩ = some (.int .i64 b) ∧ W.cell? ⟨w.heap.size, 2, none⟩ = some (.int .i64 c)) := fun W h => by
    have k : ∀ j, W.cell? ⟨bl, j, none⟩ = w.cell? ⟨bl, j, none⟩ := fun j => (HBw.out W h).cell (p := ⟨bl, j, none⟩) hbl
    obtain ⟨i0, i1, i2⟩ := HId3.out W h
    exact ⟨(k _).trans y0, (k _).trans y1, (k _).trans y2, (k _).trans y3, (k _).trans y4, (k _).trans y5, (k _).trans y6, (k _).trans y7, i0, i1, i2⟩
  have HK8 : Hid (∀ WE : World, (WE.cell? ⟨bl, off + m * 8, none⟩ = some (.string x.t.n) ∧ WE.cell? ⟨bl, off + m * 8 + 1, none⟩ = some (.string x.t.p) ∧ WE.cell? ⟨bl, off + m * 8 + 2, none⟩ = some x.vo ∧ WE.cell? ⟨bl, off + m * 8 + 3, none⟩ = some x.va ∧ WE.cell? ⟨bl, off + m * 8 + 4, none⟩ = some x.vc ∧ WE.cell? ⟨bl, off + m * 8 + 5, none⟩ = some (.int .i64 x.t.nd) ∧ WE.cell? ⟨bl, off + m * 8 + 6, none⟩ = some (.int .i64 x.t.lf) ∧ WE.cell? ⟨bl, off + m * 8 + 7, none⟩ = some (.int .i64 x.t.sq) ∧ WE.cell? ⟨w.heap.size, 0, none⟩ = some (.int .i64 a) ∧ WE.cell? ⟨w.heap.size, 1, none⟩ = some (.int .i64 b) ∧ WE.cell? ⟨w.heap.size, 2, none⟩ = some (.int .i64 c)) → ∀ u0 u1 u2 u3 u4 u5 u6 u7, ((((((((WE.setCell ⟨w.heap.size + 1, 0, none⟩ u0).setCell ⟨w.heap.size + 1, 1, none⟩ u1).setCell ⟨w.heap.size + 1, 2, none⟩ u2).setCell ⟨w.heap.size + 1, 3, none⟩ u3).setCell ⟨w.heap.size + 1, 4, none⟩ u4).setCell ⟨w.heap.size + 1, 5, none⟩ u5).setCell ⟨w.heap.size + 1, 6, none⟩ u6).setCell ⟨w.heap.size + 1, 7, none⟩ u7).cell? ⟨bl, off + m * 8, none⟩ = some (.string x.t.n) ∧ ((((((((WE.setCell ⟨w.heap.size + 1, 0, none⟩ u0).setCell ⟨w.heap.size + 1, 1, none⟩ u1).setCell ⟨w.heap.size + 1, 2, none⟩ u2).setCell ⟨w.heap.size + 1, 3, none⟩ u3).setCell ⟨w.heap.size + 1, 4, none⟩ u4).setCell ⟨w.heap.size + 1, 5, none⟩ u5).setCell ⟨w.heap.size + 1, 6, none⟩ u6).setCell ⟨w.heap.size + 1, 7, none⟩ u7).cell? ⟨bl, off + m * 8 + 1, none⟩ = some (.string x.t.p) ∧ ((((((((WE.setCell ⟨w.heap.size + 1, 0, none⟩ u0).setCell ⟨w.heap.size + 1, 1, none⟩ u1).setCell ⟨w.heap.size + 1, 2, none⟩ u2).setCell ⟨w.heap.size + 1, 3, none⟩ u3).setCell ⟨w.heap.size + 1, 4, none⟩ u4).setCell ⟨w.heap.size + 1, 5, none⟩ u5).setCell ⟨w.heap.size + 1, 6, none⟩ u6).setCell ⟨w.heap.size + 1, 7, none⟩ u7).cell? ⟨bl, off + m * 8 + 2, none⟩ = some x.vo ∧ ((((((((WE.setCell ⟨w.heap.size + 1, 0, none⟩ u0).setCell ⟨w.heap.size + 1, 1, none⟩ u1).setCell ⟨w.heap.size + 1, 2, none⟩ u2).setCell ⟨w.heap.size + 1, 3, none⟩ u3).setCell ⟨w.heap.size + 1, 4, none⟩ u4).setCell ⟨w.heap.size + 1, 5, none⟩ u5).setCell ⟨w.heap.size + 1, 6, none⟩ u6).setCell ⟨w.heap.size + 1, 7, none⟩ u7).cell? ⟨bl, off + m * 8 + 3, none⟩ = some x.va ∧ ((((((((WE.setCell ⟨w.heap.size + 1, 0, none⟩ u0).setCell ⟨w.heap.size + 1, 1, none⟩ u1).setCell ⟨w.heap.size + 1, 2, none⟩ u2).setCell ⟨w.heap.size + 1, 3, none⟩ u3).setCell ⟨w.heap.size + 1, 4, none⟩ u4).setCell ⟨w.heap.size + 1, 5, none⟩ u5).setCell ⟨w.heap.size + 1, 6, none⟩ u6).setCell ⟨w.heap.size + 1, 7, none⟩ u7).cell? ⟨bl, off + m * 8 + 4, none⟩ = some x.vc ∧ ((((((((WE.setCell ⟨w.heap.size + 1, 0, none⟩ u0).setCell ⟨w.heap.size + 1, 1, none⟩ u1).setCell ⟨w.heap.size + 1, 2, none⟩ u2).setCell ⟨w.heap.size + 1, 3, none⟩ u3).setCell ⟨w.heap.size + 1, 4, none⟩ u4).setCell ⟨w.heap.size + 1, 5, none⟩ u5).setCell ⟨w.heap.size + 1, 6, none⟩ u6).setCell ⟨w.heap.size + 1, 7, none⟩ u7).cell? ⟨bl, off + m * 8 + 5, none⟩ = some (.int .i64 x.t.nd) ∧ ((((((((WE.setCell ⟨w.heap.size + 1, 0, none⟩ u0).setCell ⟨w.heap.size + 1, 1, none⟩ u1).setCell ⟨w.heap.size + 1, 2, none⟩ u2).setCell ⟨w.heap.size + 1, 3, none⟩ u3).setCell ⟨w.heap.size + 1, 4, none⟩ u4).setCell ⟨w.heap.size + 1, 5, none⟩ u5).setCell ⟨w.heap.size + 1, 6, none⟩ u6).setCell ⟨w.heap.size + 1, 7, none⟩ u7).cell? ⟨bl, off + m * 8 + 6, none⟩ = some (.int .i64 x.t.lf) ∧ ((((((((WE.setCell ⟨w.heap.size + 1, 0, none⟩ u0).setCell ⟨w.heap.size + 1, 1, none⟩ u1).setCell ⟨w.heap.size + 1, 2, none⟩ u2).setCell ⟨w.heap.size + 1, 3, none⟩ u3).setCell ⟨w.heap.size + 1, 4, none⟩ u4).setCell ⟨w.heap.size + 1, 5, none⟩ u5).setCell ⟨w.heap.size + 1, 6, none⟩ u6).setCell ⟨w.heap.size + 1, 7, none⟩ u7).cell? ⟨bl, off + m * 8 + 7, none⟩ = some (.int .i64 x.t.sq) ∧ ((((((((WE.setCell ⟨w.heap.size + 1, 0, none⟩ u0).setCell ⟨w.heap.size + 1, 1, none⟩ u1).setCell ⟨w.heap.size + 1, 2, none⟩ u2).setCell ⟨w.heap.size + 1, 3, none⟩ u3).setCell ⟨w.heap.size + 1, 4, none⟩ u4).setCell ⟨w.heap.size + 1, 5, none⟩ u5).setCell ⟨w.heap.size + 1, 6, none⟩ u6).setCell ⟨w.heap.size + 1, 7, none⟩ u7).cell? ⟨w.heap.size, 0, none⟩ = some (.int .i64 a) ∧ ((((((((WE.setCell ⟨w.heap.size + 1, 0, none⟩ u0).setCell ⟨w.heap.size + 1, 1, none⟩ u1).setCell ⟨w.heap.size + 1, 2, none⟩ u2).setCell ⟨w.heap.size + 1, 3, none⟩ u3).setCell ⟨w.heap.size + 1, 4, none⟩ u4).setCell ⟨w.heap.size + 1, 5, none⟩ u5).setCell ⟨w.heap.size + 1, 6, none⟩ u6).setCell ⟨w.heap.size + 1, 7, none⟩ u7).cell? ⟨w.heap.size, 1, none⟩ = some (.int .i64 b) ∧ ((((((((WE.setCell ⟨w.heap.size + 1, 0, none⟩ u0).setCell ⟨w.heap.size + 1, 1, none⟩ u1).setCell ⟨w.heap.size + 1, 2, none⟩ u2).setCell ⟨w.heap.size + 1, 3, none⟩ u3).setCell ⟨w.heap.size + 1, 4, none⟩ u4).setCell ⟨w.heap.size + 1, 5, none⟩ u5).setCell ⟨w.heap.size + 1, 6, none⟩ u6).setCell ⟨w.heap.size + 1, 7, none⟩ u7).cell? ⟨w.heap.size, 2, none⟩ = some (.int .i64 c)) := fun WE h u0 u1 u2 u3 u4 u5 u6 u7 => by
    have o1 : ∀ (W : World) (j k : Nat) (v : Value), (W.setCell ⟨w.heap.size + 1, j, none⟩ v).cell? ⟨w.heap.size, k, none⟩ = W.cell? ⟨w.heap.size, k, none⟩ := fun W j k v => World.cell?_setCell_other _ _ _ _ (by simp only [ne_eq, Addr.mk.injEq, not_and]; intro e; omega)
    have o2 : ∀ (W : World) (j k : Nat) (v : Value), (W.setCell ⟨w.heap.size + 1, j, none⟩ v).cell? ⟨bl, k, none⟩ = W.cell? ⟨bl, k, none⟩ := fun W j k v => World.cell?_setCell_other _ _ _ _ (by simp only [ne_eq, Addr.mk.injEq, not_and]; intro e; omega)
    simp only [o1, o2]
    exact h
  have HR1 : Hid (Below W0.heap.size W0 w4.drew) := Hw4.out.drew
  have HFin : Hid (∀ (wE : World) (y : LT), y.t = (belR x.t s own a b c).1 → IsTy wE y.t y.vo y.va y.vc → NewT (w.heap.size + 2) y → Below W0.heap.size W0 wE → CtM w (belR x.t s own a b c).1 ((((((((wE.setCell ⟨w.heap.size + 1, 0, none⟩ (.string y.t.n)).setCell ⟨w.heap.size + 1, 1, none⟩ (.string y.t.p)).setCell ⟨w.heap.size + 1, 2, none⟩ y.vo).setCell ⟨w.heap.size + 1, 3, none⟩ y.va).setCell ⟨w.heap.size + 1, 4, none⟩ y.vc).setCell ⟨w.heap.size + 1, 5, none⟩ (.int .i64 y.t.nd)).setCell ⟨w.heap.size + 1, 6, none⟩ (.int .i64 y.t.lf)).setCell ⟨w.heap.size + 1, 7, none⟩ (.int .i64 y.t.sq))) := fun wE y h1 h2 h3 h4 => ⟨y, h1, ty_far8 h2 h3 (by omega) _ _ _ _ _ _ _ _, h3, below8 (HBw.out _ h4) (Nat.le_add_right _ 1) _ _ _ _ _ _ _ _, (HZ.out _ h4).put8 y.t _ _ _⟩
  obtain ⟨E2, hE2⟩ : ∃ E2, E2 = (belR x.t s own a b c).2 := ⟨_, rfl⟩
  have HE2 : Hid ((belR x.t s own a b c).2 = E2) := hE2.symm
  clear hE2 y0 y1 y2 y3 y4 y5 y6 y7 hc hpar hk
  go_wp2_with fail
  go_cut [11] (fun e0 wx => e0 = .int .i64 E2 ∧ CtM w (belR x.t s own a b c).1 wx)
  case first =>
    refine wp_region_held_drew (S := fun w' => w'.cell? ⟨bl, off + m * 8, none⟩ = some (.string x.t.n) ∧ w'.cell? ⟨bl, off + m * 8 + 1, none⟩ = some (.string x.t.p) ∧ w'.cell? ⟨bl, off + m * 8 + 2, none⟩ = some x.vo ∧ w'.cell? ⟨bl, off + m * 8 + 3, none⟩ = some x.va ∧ w'.cell? ⟨bl, off + m * 8 + 4, none⟩ = some x.vc ∧ w'.cell? ⟨bl, off + m * 8 + 5, none⟩ = some (.int .i64 x.t.nd) ∧ w'.cell? ⟨bl, off + m * 8 + 6, none⟩ = some (.int .i64 x.t.lf) ∧ w'.cell? ⟨bl, off + m * 8 + 7, none⟩ = some (.int .i64 x.t.sq) ∧ w'.cell? ⟨w.heap.size, 0, none⟩ = some (.int .i64 a) ∧ w'.cell? ⟨w.heap.size, 1, none⟩ = some (.int .i64 b) ∧ w'.cell? ⟨w.heap.size, 2, none⟩ = some (.int .i64 c)) (by kernel_rfl) (HS.out _ HR1.out) (fun hHeld => ?_)
    generalize w4.drew = wd at *
    refine wpAnyH_take (i := 0) (v := ?_) rfl (by kernel_rfl) (by kernel_rfl) (by kernel_rfl) (fun _ _ _ h => h) (Or.inl ⟨by rfl, ?_⟩) hHeld ?_
    rotate_left 1
    · intro w9 hSw; obtain ⟨g0, g1, g2, g3, g4, g5, g6, g7, i0, i1, i2⟩ := hSw; go_simp; try with_reducible rfl
    change wpAnyH _ _ _ _ _ _ _ (Act.put _ (some 52) _) _
    simp only [Act.put, List.setIfInBounds_toArray, List.set_cons_zero, List.set_cons_succ]
    refine wpAnyH_take (i := 1) (v := ?_) rfl (by kernel_rfl) (by kernel_rfl) (by kernel_rfl) (fun _ _ _ h => h) (Or.inl ⟨by rfl, ?_⟩) hHeld ?_
    rotate_left 1
    · intro w9 hSw; obtain ⟨g0, g1, g2, g3, g4, g5, g6, g7, i0, i1, i2⟩ := hSw; go_simp; try with_reducible rfl
    change wpAnyH _ _ _ _ _ _ _ (Act.put _ (some 53) _) _
    simp only [Act.put, List.setIfInBounds_toArray, List.set_cons_zero, List.set_cons_succ]
    refine wpAnyH_take (i := 2) (v := ?_) rfl (by kernel_rfl) (by kernel_rfl) (by kernel_rfl) (fun _ _ _ h => h) (Or.inl ⟨by rfl, ?_⟩) hHeld ?_
    rotate_left 1
    · intro w9 hSw; obtain ⟨g0, g1, g2, g3, g4, g5, g6, g7, i0, i1, i2⟩ := hSw; go_simp; try with_reducible rfl
    change wpAnyH _ _ _ _ _ _ _ (Act.put _ (some 54) _) _
    simp only [Act.put, List.setIfInBounds_toArray, List.set_cons_zero, List.set_cons_succ]
    refine wpAnyH_take (i := 3) (v := ?_) rfl (by kernel_rfl) (by kernel_rfl) (by kernel_rfl) (fun _ _ _ h => h) (Or.inl ⟨by rfl, ?_⟩) hHeld ?_
    rotate_left 1
    · intro w9 hSw; obtain ⟨g0, g1, g2, g3, g4, g5, g6, g7, i0, i1, i2⟩ := hSw; go_simp; try with_reducible rfl
    change wpAnyH _ _ _ _ _ _ _ (Act.put _ (some 55) _) _
    simp only [Act.put, List.setIfInBounds_toArray, List.set_cons_zero, List.set_cons_succ]
    refine wpAnyH_take (i := 4) (v := ?_) rfl (by kernel_rfl) (by kernel_rfl) (by kernel_rfl) (fun _ _ _ h => h) (Or.inl ⟨by rfl, ?_⟩) hHeld ?_
    rotate_left 1
    · intro w9 hSw; obtain ⟨g0, g1, g2, g3, g4, g5, g6, g7, i0, i1, i2⟩ := hSw; go_simp; try with_reducible rfl
    change wpAnyH _ _ _ _ _ _ _ (Act.put _ (some 56) _) _
    simp only [Act.put, List.setIfInBounds_toArray, List.set_cons_zero, List.set_cons_succ]
    refine wpAnyH_take (i := 5) (v := ?_) rfl (by kernel_rfl) (by kernel_rfl) (by kernel_rfl) (fun _ _ _ h => h) (Or.inl ⟨by rfl, ?_⟩) hHeld ?_
    rotate_left 1
    · intro w9 hSw; obtain ⟨g0, g1, g2, g3, g4, g5, g6, g7, i0, i1, i2⟩ := hSw; go_simp; try with_reducible rfl
    change wpAnyH _ _ _ _ _ _ _ (Act.put _ (some 57) _) _
    simp only [Act.put, List.setIfInBounds_toArray, List.set_cons_zero, List.set_cons_succ]
    refine wpAnyH_take (i := 6) (v := ?_) rfl (by kernel_rfl) (by kernel_rfl) (by kernel_rfl) (fun _ _ _ h => h) (Or.inl ⟨by rfl, ?_⟩) hHeld ?_
    rotate_left 1
    · intro w9 hSw; obtain ⟨g0, g1, g2, g3, g4, g5, g6, g7, i0, i1, i2⟩ := hSw; go_simp; try with_reducible rfl
    change wpAnyH _ _ _ _ _ _ _ (Act.put _ (some 58) _) _
    simp only [Act.put, List.setIfInBounds_toArray, List.set_cons_zero, List.set_cons_succ]
    refine wpAnyH_ready (rs := [7]) (by kernel_rfl) (by simp) ?_
    refine AllReadyH.cons rfl (fun K hK => ?_) AllReadyH.nil
    go_simp
    refine (HBx.out _ HR1.out).mono ?_
    intro e w5 hmk
    obtain ⟨y, rfl, hyt, hyI, hyN, hb⟩ := hmk
    rw [HE2.out]
    have HYt : Hid (y.t = (belR x.t s own a b c).1) := hyt
    clear hyt
    have hb5 : Below W0.heap.size W0 w5 := HR1.out.trans (hb.mono HR1.out.size)
    go_simp
    refine hK.out _ _ (HS.out _ hb5) (fun hHeld => ?_)
    clear hK K
    refine wpAnyH_take (i := 8) (v := ?_) rfl (by kernel_rfl) (by kernel_rfl) (by kernel_rfl) (fun _ _ _ h => h) (Or.inl ⟨by rfl, ?_⟩) hHeld ?_
    rotate_left 1
    · intro w9 hSw; obtain ⟨g0, g1, g2, g3, g4, g5, g6, g7, i0, i1, i2⟩ := hSw; go_simp; try with_reducible rfl
    change wpAnyH _ _ _ _ _ _ _ (Act.put _ (some 60) _) _
    simp only [Act.put, List.setIfInBounds_toArray, List.set_cons_zero, List.set_cons_succ]
    refine wpAnyH_take (i := 9) (v := ?_) rfl (by kernel_rfl) (by kernel_rfl) (by kernel_rfl) (fun _ _ _ h => h) (Or.inl ⟨by rfl, ?_⟩) hHeld ?_
    rotate_left 1
    · intro w9 hSw; obtain ⟨g0, g1, g2, g3, g4, g5, g6, g7, i0, i1, i2⟩ := hSw; go_simp; try with_reducible rfl
    change wpAnyH _ _ _ _ _ _ _ (Act.put _ (some 61) _) _
    simp only [Act.put, List.setIfInBounds_toArray, List.set_cons_zero, List.set_cons_succ]
    obtain ⟨⟨m0, m1, m2, m3⟩, m4, m5, m6, m7⟩ := HZ.out _ hb5
    have mf := HF1.out _ hb5
    have hlo : w.heap.size + 1 < wd.heap.size := (HSz.out _ HR1.out).1
    have HCt : Hid _ := HFin.out w5 y HYt.out hyI (hyN.le (by omega)) hb5
    have HC3 := HS.out _ hb5
    refine wpAnyH_ready (rs := [10]) (by kernel_rfl) (by simp) ?_
    refine AllReadyH.cons rfl (fun K hK => ?_) AllReadyH.nil
    go_simp
    refine hK.out _ _ (HK8.out w5 HC3 _ _ _ _ _ _ _ _) (fun hHeld => ?_)
    clear hK K
    refine wpAnyH_ready (rs := [11]) (by kernel_rfl) (by simp) ?_
    refine AllReadyH.cons rfl (fun K hK => ?_) AllReadyH.nil
    go_simp
    refine hK.out _ _ hHeld (fun hHeld => ?_)
    clear hK K
    refine wpAnyH_done (by kernel_rfl) ?_ _
    try go_wp2_with fail
    go_meet
    exact ⟨rfl, HCt.out⟩
  case rest =>
    obtain ⟨rfl, y, hy, HT, HN1, HB1, HX1⟩ := hcut
    obtain ⟨⟨c0, c1, c2, c3⟩, c4, c5, c6, c7⟩ := HX1.out
    have HEnd : Hid (MkP R w (.returned (.tuple #[ltV y, .int .i64 E2])) wc) := by
      rw [HE.out]
      exact ⟨y, by rw [HE2.out], hy, HT.out, HN1.out.le (by omega), HB1.out⟩
    clear HX1 HT HN1 HB1 HFin HR1 HSz HZ HF1 HBw HN HId3 HK8 hy HS HD HIs HP1 HP2 HP2' HRt HBe HBx HRw HLw HRi HD4 HE HE2
    go_wp2_with fail
    try simp only [Exit.inBlock, Exit.then]
    refine bodyPost_ret (v := .tuple #[ltV y, .int .i64 E2]) ?_ rfl HEnd.out
    rw [results_c2 rfl]; go_simp
end Go.Proofs.YtkcnkjaeidbjbaaGreatDoor
