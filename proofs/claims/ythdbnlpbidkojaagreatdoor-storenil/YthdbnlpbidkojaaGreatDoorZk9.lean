/- forest.Root: a walk. -/
import Derived.Test.YthdbnlpbidkojaaGreatDoorZk8
import Derived.Test.YthdbnlpbidkojaaGreatDoorZk4
import Derived.Deep.QuietTactic
import Derived.BigQuiet
namespace Go.Proofs.YthdbnlpbidkojaaGreatDoor
open Go.RowKit Go.ChangeMaps

/-- Behind the store of a type that is made. -/
def CtR (w : World) (t : Ty) (wx : World) : Prop := ∃ y : LT, y.t = t ∧ Hid (IsTy wx y.t y.vo y.va y.vc) ∧ Hid (NewT (w.heap.size + 2) y) ∧ Hid (Below w.heap.size w wx) ∧ Hid (BxT (w.heap.size + 1) y.t y.vo y.va y.vc wx)
set_option maxRecDepth 100000 in
set_option maxHeartbeats 4000000 in
theorem root_any (s : ByteArray) (v : Value) (own : List Fd) (a b c : Int) (w : World) (hs : s.size ≤ 1000000) (hr : IsRow w 3 v own.length (fCells own)) (hl : own.length ≤ 1000) (hn : NmF own) (hU : UT w) (hM : ML w) :
    Calls Tryz.prog 25 #[.string s, v, idV a b c] w fun e w' => MkP (rootR s own a b c) w e w' := by
  obtain ⟨ao, co, rfl⟩ := hr.form
  obtain ⟨W0, hW0⟩ : ∃ W0, W0 = (w.alloc (.cells #[.int .i64 a, .int .i64 b, .int .i64 c] 33)).alloc (.cells zTyA 35) := ⟨_, rfl⟩
  have hA : Below w.heap.size w W0 := by rw [hW0]; exact (al_b w _).trans ((al_b _ _).mono (by simp))
  have hz : W0.heap.size = w.heap.size + 2 := by rw [hW0]; simp
  have hn0 : W0.heap[w.heap.size]? = some (.cells #[.int .i64 a, .int .i64 b, .int .i64 c] 33 (0, 0)) := by
    rw [hW0]
    show ((w.heap.push _).push _)[w.heap.size]? = _
    rw [Array.getElem?_push, if_neg (by simp), Array.getElem?_push, if_pos rfl]
  have hn1 : W0.heap[w.heap.size + 1]? = some (.cells zTyA 35 (0, 0)) := by
    rw [hW0]
    show ((w.heap.push _).push _)[w.heap.size + 1]? = _
    rw [Array.getElem?_push, if_pos (by simp)]
  have HId3 : Hid (∀ W, Below W0.heap.size W0 W → W.cell? ⟨w.heap.size, 0, none⟩ = some (.int .i64 a) ∧ W.cell? ⟨w.heap.size, 1, none⟩ = some (.int .i64 b) ∧ W.cell? ⟨w.heap.size, 2, none⟩ = some (.int .i64 c)) := fun W h => by
    have e : ∀ j, W.cell? ⟨w.heap.size, j, none⟩ = (#[.int .i64 a, .int .i64 b, .int .i64 c] : Array Value)[j]? := fun j => by rw [Lib.cell_of_heap ((h.block _ (by omega)).trans hn0)]
    exact ⟨e 0, e 1, e 2⟩
  have HZ : Hid (∀ W, Below W0.heap.size W0 W → BxT (w.heap.size + 1) zT (.slice none 0 0) (.slice none 0 0) (.slice none 0 0) W) := fun W h => BxT.of ((h.block _ (by omega)).trans hn1)
  have HF1 : Hid (∀ W, Below W0.heap.size W0 W → ∀ j, W.frozen? ⟨w.heap.size + 1, j, none⟩ = false) := fun W h j => Lib.frozen_of_heap ((h.block _ (by omega)).trans hn1) j
  have HBw : Hid (∀ W, Below W0.heap.size W0 W → Below w.heap.size w W) := fun W h => hA.trans (h.mono hA.size)
  have HN : Hid (∀ W, Calls Tryz.prog 56 #[.string s] W fun e w' => e = .returned (.int .i64 (checkL s.data.toList)) ∧ Below W.heap.size W w') := fun W => check_any _ W (Nat.le_trans hs (by decide))
  have HC : Hid (∀ W, Below W0.heap.size W0 W → Calls Tryz.prog 48 #[.slice ao own.length co] W fun e w' => e = .returned (.bool (chkF own)) ∧ Below W.heap.size W w') := fun W h => checkF_any _ own W (hr.below (HBw.out W h)) (by omega) hn (Utf8Tabs_below hU (HBw.out W h)) (ML_below hM (HBw.out W h))
  have HI : Hid (∀ W, Calls Tryz.prog 47 #[idV a b c] W fun e w' => e = .returned (.bool (idB a b c)) ∧ Below W.heap.size W w') := fun W => isID_any _ _ _ W
  have HCl : Hid (∀ W, Below W0.heap.size W0 W → Calls Tryz.prog 57 #[.slice ao own.length co] W fun e w' => ∃ x y, e = .returned (.slice x own.length y) ∧ Hid (w'.ownsRow W0.heap.size 95 3 (.slice x own.length y) own.length (fCells own)) ∧ Below W0.heap.size W0 w' ∧ Below W.heap.size W w') := fun W h => (cloneF_any _ own W (hr.below (HBw.out W h)) hl).mono fun e w' ⟨v, he, ho, hb⟩ => by
    obtain ⟨x, y, rfl⟩ := (IsRow.own ho).form
    exact ⟨x, y, he, own_leT ho h.size, h.trans (hb.mono h.size), hb⟩
  have hR : rootR s own a b c = if checkL s.data.toList = 0 then (if (chkF own && idB a b c) = true then (⟨s, ⟨#[]⟩, own, own, [s], a, b, c⟩, 0) else (zT, 1)) else (zT, checkL s.data.toList) := rfl
  generalize checkL s.data.toList = C at *
  clear hr hl hn hU hM hA hn0 hn1 hs
  by_cases hC : C = 0
  rotate_left
  · rw [hR, if_neg hC]
    have dC : (C != 0) = true := by simp [hC]
    have dC' : (!(C == 0)) = true := by simp [hC]
    have dC'' : (C == 0) = false := by simp [hC]
    clear hR HC HI HCl
    go_enter Tryz.func25, Tryz.ntmps25
    go_wp2_with fail
    rw [← hW0]
    clear hW0
    refine (HN.out _).mono ?_
    rintro e w1 ⟨rfl, hb1⟩
    obtain ⟨⟨e0, e1, e2, e3⟩, e4, e5, e6, e7⟩ := HZ.out _ hb1
    have f0 := HF1.out _ hb1
    have HB : Hid (Below w.heap.size w w1) := HBw.out _ hb1
    have HEnd : Hid (∀ u0 u1 u2 u3 u4 u5 u6 u7, MkP (zT, C) w (.returned (.tuple #[tyV zT (.slice none 0 0) (.slice none 0 0) (.slice none 0 0), .int .i64 C])) ((((((((w1.setCell ⟨w.heap.size + 1, 0, none⟩ u0).setCell ⟨w.heap.size + 1, 1, none⟩ u1).setCell ⟨w.heap.size + 1, 2, none⟩ u2).setCell ⟨w.heap.size + 1, 3, none⟩ u3).setCell ⟨w.heap.size + 1, 4, none⟩ u4).setCell ⟨w.heap.size + 1, 5, none⟩ u5).setCell ⟨w.heap.size + 1, 6, none⟩ u6).setCell ⟨w.heap.size + 1, 7, none⟩ u7)) := fun u0 u1 u2 u3 u4 u5 u6 u7 => MkP.zero C (below8 HB.out (Nat.le_add_right _ 1) u0 u1 u2 u3 u4 u5 u6 u7)
    clear hb1 HZ HF1 HBw HN
    go_wp2_with fail
    try simp only [Exit.inBlock, Exit.then]
    refine bodyPost_ret (v := .tuple #[tyV zT (.slice none 0 0) (.slice none 0 0) (.slice none 0 0), .int .i64 C]) ?_ rfl (HEnd.out _ _ _ _ _ _ _ _)
    rw [results_c2 rfl]; go_simp
    exact ⟨rfl, rfl, rfl, rfl, rfl⟩
  have dC : (C != 0) = false := by simp [hC]
  have dC' : (!(C == 0)) = false := by simp [hC]
  have dC'' : (C == 0) = true := by simp [hC]
  rw [hR, if_pos hC]
  subst hC
  cases hc : chkF own
  · rw [hc] at HC
    rw [Bool.false_and, if_neg (by decide)]
    clear hR HI HCl HId3 hc
    go_enter Tryz.func25, Tryz.ntmps25
    go_wp2_with fail
    rw [← hW0]
    clear hW0
    refine (HN.out _).mono ?_
    rintro e w1 ⟨rfl, hb1⟩
    have HH1 : Hid (Below W0.heap.size W0 w1) := hb1
    clear hb1
    go_wp2_with fail
    refine (HC.out _ HH1.out).mono ?_
    rintro e w2 ⟨rfl, hb2⟩
    have HH2 : Hid (Below W0.heap.size W0 w2) := HH1.out.trans (hb2.mono HH1.out.size)
    clear hb2
    obtain ⟨⟨e0, e1, e2, e3⟩, e4, e5, e6, e7⟩ := HZ.out _ HH2.out
    have f0 := HF1.out _ HH2.out
    have HB : Hid (Below w.heap.size w w2) := HBw.out _ HH2.out
    have HEnd : Hid (∀ u0 u1 u2 u3 u4 u5 u6 u7, MkP (zT, 1) w (.returned (.tuple #[tyV zT (.slice none 0 0) (.slice none 0 0) (.slice none 0 0), .int .i64 1])) ((((((((w2.setCell ⟨w.heap.size + 1, 0, none⟩ u0).setCell ⟨w.heap.size + 1, 1, none⟩ u1).setCell ⟨w.heap.size + 1, 2, none⟩ u2).setCell ⟨w.heap.size + 1, 3, none⟩ u3).setCell ⟨w.heap.size + 1, 4, none⟩ u4).setCell ⟨w.heap.size + 1, 5, none⟩ u5).setCell ⟨w.heap.size + 1, 6, none⟩ u6).setCell ⟨w.heap.size + 1, 7, none⟩ u7)) := fun u0 u1 u2 u3 u4 u5 u6 u7 => MkP.zero 1 (below8 HB.out (Nat.le_add_right _ 1) u0 u1 u2 u3 u4 u5 u6 u7)
    clear HZ HF1 HBw HN HC
    go_wp2_with fail
    try simp only [Exit.inBlock, Exit.then]
    refine bodyPost_ret (v := .tuple #[tyV zT (.slice none 0 0) (.slice none 0 0) (.slice none 0 0), .int .i64 1]) ?_ rfl (HEnd.out _ _ _ _ _ _ _ _)
    rw [results_c2 rfl]; go_simp
    exact ⟨rfl, rfl, rfl, rfl, rfl⟩
  rw [hc] at HC
  rw [Bool.true_and]
  cases hi : idB a b c
  · rw [hi] at HI
    rw [if_neg (by decide)]
    clear hR HCl hc hi
    go_enter Tryz.func25, Tryz.ntmps25
    go_wp2_with fail
    rw [← hW0]
    clear hW0
    refine (HN.out _).mono ?_
    rintro e w1 ⟨rfl, hb1⟩
    have HH1 : Hid (Below W0.heap.size W0 w1) := hb1
    clear hb1
    go_wp2_with fail
    refine (HC.out _ HH1.out).mono ?_
    rintro e w2 ⟨rfl, hb2⟩
    have HH2 : Hid (Below W0.heap.size W0 w2) := HH1.out.trans (hb2.mono HH1.out.size)
    clear hb2
    obtain ⟨i0, i1, i2⟩ := HId3.out _ HH2.out
    go_wp2_with fail
    refine (HI.out _).mono ?_
    rintro e w3 ⟨rfl, hb3⟩
    have HH3 : Hid (Below W0.heap.size W0 w3) := HH2.out.trans (hb3.mono HH2.out.size)
    clear hb3 i0 i1 i2
    obtain ⟨⟨e0, e1, e2, e3⟩, e4, e5, e6, e7⟩ := HZ.out _ HH3.out
    have f0 := HF1.out _ HH3.out
    have HB : Hid (Below w.heap.size w w3) := HBw.out _ HH3.out
    have HEnd : Hid (∀ u0 u1 u2 u3 u4 u5 u6 u7, MkP (zT, 1) w (.returned (.tuple #[tyV zT (.slice none 0 0) (.slice none 0 0) (.slice none 0 0), .int .i64 1])) ((((((((w3.setCell ⟨w.heap.size + 1, 0, none⟩ u0).setCell ⟨w.heap.size + 1, 1, none⟩ u1).setCell ⟨w.heap.size + 1, 2, none⟩ u2).setCell ⟨w.heap.size + 1, 3, none⟩ u3).setCell ⟨w.heap.size + 1, 4, none⟩ u4).setCell ⟨w.heap.size + 1, 5, none⟩ u5).setCell ⟨w.heap.size + 1, 6, none⟩ u6).setCell ⟨w.heap.size + 1, 7, none⟩ u7)) := fun u0 u1 u2 u3 u4 u5 u6 u7 => MkP.zero 1 (below8 HB.out (Nat.le_add_right _ 1) u0 u1 u2 u3 u4 u5 u6 u7)
    clear HZ HF1 HBw HN HC HId3 HI
    go_wp2_with fail
    try simp only [Exit.inBlock, Exit.then]
    refine bodyPost_ret (v := .tuple #[tyV zT (.slice none 0 0) (.slice none 0 0) (.slice none 0 0), .int .i64 1]) ?_ rfl (HEnd.out _ _ _ _ _ _ _ _)
    rw [results_c2 rfl]; go_simp
    exact ⟨rfl, rfl, rfl, rfl, rfl⟩
  rw [hi] at HI
  rw [if_pos rfl]
  clear hR hc hi
  go_enter Tryz.func25, Tryz.ntmps25
  go_wp2_with fail
  rw [← hW0]
  clear hW0
  refine (HN.out _).mono ?_
  rintro e w1 ⟨rfl, hb1⟩
  have HH1 : Hid (Below W0.heap.size W0 w1) := hb1
  clear hb1
  go_wp2_with fail
  refine (HC.out _ HH1.out).mono ?_
  rintro e w2 ⟨rfl, hb2⟩
  have HH2 : Hid (Below W0.heap.size W0 w2) := HH1.out.trans (hb2.mono HH1.out.size)
  clear hb2
  obtain ⟨i0, i1, i2⟩ := HId3.out _ HH2.out
  go_wp2_with fail
  refine (HI.out _).mono ?_
  rintro e w3 ⟨rfl, hb3⟩
  have HH3 : Hid (Below W0.heap.size W0 w3) := HH2.out.trans (hb3.mono HH2.out.size)
  clear hb3 i0 i1 i2
  have HSz : Hid (∀ W, Below W0.heap.size W0 W → w.heap.size + 1 < W.heap.size ∧ w.heap.size < W.heap.size) := fun W h => by have := h.size; omega
  have HR1 : Hid (Below W0.heap.size W0 w3.drew) := HH3.out.drew
  have HR3 : Hid (∀ W o, Below W0.heap.size W0 W → Below W0.heap.size W0 (W.alloc o)) := fun W o h => h.trans ((al_b _ o).mono h.size)
  have HFin : Hid (∀ (wA wB wE : World) (x1 : Option Addr) (y1 : Nat) (x2 : Option Addr) (y2 : Nat) (g : Nat), Hid (wA.ownsRow W0.heap.size 95 3 (.slice x1 own.length y1) own.length (fCells own)) → Hid (wB.ownsRow W0.heap.size 95 3 (.slice x2 own.length y2) own.length (fCells own)) → Below wA.heap.size wA wE → Below wB.heap.size wB wE → wE.heap[g]? = some (.cells #[.string s] 9 (0, 0)) → W0.heap.size ≤ g → Below W0.heap.size W0 wE → CtR w ⟨s, ⟨#[]⟩, own, own, [s], a, b, c⟩ ((((((((wE.setCell ⟨w.heap.size + 1, 0, none⟩ (.string s)).setCell ⟨w.heap.size + 1, 1, none⟩ (.string ⟨#[]⟩)).setCell ⟨w.heap.size + 1, 2, none⟩ (.slice x1 own.length y1)).setCell ⟨w.heap.size + 1, 3, none⟩ (.slice x2 own.length y2)).setCell ⟨w.heap.size + 1, 4, none⟩ (.slice (some ⟨g, 0, none⟩) 1 1)).setCell ⟨w.heap.size + 1, 5, none⟩ (.int .i64 a)).setCell ⟨w.heap.size + 1, 6, none⟩ (.int .i64 b)).setCell ⟨w.heap.size + 1, 7, none⟩ (.int .i64 c))) := fun wA wB wE x1 y1 x2 y2 g o1 o2 bA bB hg hg0 hE => by
    have hN : NewT (w.heap.size + 2) ⟨⟨s, ⟨#[]⟩, own, own, [s], a, b, c⟩, x1, y1, x2, y2, some ⟨g, 0, none⟩, 1⟩ := ⟨(NewA.own o1.out).le (by omega), (NewA.own o2.out).le (by omega), fun g' e => by obtain rfl := Option.some.inj e; show _ ≤ g; omega⟩
    have hT : IsTy wE (⟨s, ⟨#[]⟩, own, own, [s], a, b, c⟩ : Ty) (.slice x1 own.length y1) (.slice x2 own.length y2) (.slice (some ⟨g, 0, none⟩) 1 1) := ⟨(IsRow.own o1.out).below bA, (IsRow.own o2.out).below bB, row_one hg⟩
    exact ⟨⟨⟨s, ⟨#[]⟩, own, own, [s], a, b, c⟩, x1, y1, x2, y2, some ⟨g, 0, none⟩, 1⟩, rfl, ty_far8 (y := ⟨⟨s, ⟨#[]⟩, own, own, [s], a, b, c⟩, x1, y1, x2, y2, some ⟨g, 0, none⟩, 1⟩) hT hN (by omega) _ _ _ _ _ _ _ _, hN, below8 (HBw.out _ hE) (Nat.le_add_right _ 1) _ _ _ _ _ _ _ _, (HZ.out _ hE).put8 ⟨s, ⟨#[]⟩, own, own, [s], a, b, c⟩ _ _ _⟩
  have HG1 : Hid (∀ wd w4 w5 : World, Below (wd.alloc (.cells #[.string s] 9)).heap.size (wd.alloc (.cells #[.string s] 9)) w4 → Below w4.heap.size w4 w5 → w5.heap[wd.heap.size]? = some (.cells #[.string s] 9 (0, 0))) := fun wd w4 w5 h1 h2 => by
    have e0 : (wd.alloc (.cells #[.string s] 9)).heap[wd.heap.size]? = some (.cells #[.string s] 9 (0, 0)) := new_at wd _
    have hl := (Array.getElem?_eq_some_iff.1 e0).1
    have e1 := (h1.block _ hl).trans e0
    exact (h2.block _ (Array.getElem?_eq_some_iff.1 e1).1).trans e1
  have HG2 : Hid (∀ w4 w5 : World, Below (w4.alloc (.cells #[.string s] 9)).heap.size (w4.alloc (.cells #[.string s] 9)) w5 → w5.heap[w4.heap.size]? = some (.cells #[.string s] 9 (0, 0))) := fun w4 w5 h1 => by
    have e0 : (w4.alloc (.cells #[.string s] 9)).heap[w4.heap.size]? = some (.cells #[.string s] 9 (0, 0)) := new_at w4 _
    exact (h1.block _ (Array.getElem?_eq_some_iff.1 e0).1).trans e0
  have HG3 : Hid (∀ w5 : World, (w5.alloc (.cells #[.string s] 9)).heap[w5.heap.size]? = some (.cells #[.string s] 9 (0, 0))) := fun w5 => new_at w5 _
  have HT2 : Hid (∀ (w4 w5 : World) (o : Obj), Below (w4.alloc o).heap.size (w4.alloc o) w5 → Below w4.heap.size w4 w5) := fun w4 w5 o h => (al_b w4 o).trans (h.mono (al_b w4 o).size)
  have HT3 : Hid (∀ (w4 w5 : World) (o : Obj), Below w4.heap.size w4 w5 → Below w4.heap.size w4 (w5.alloc o)) := fun w4 w5 o h => h.trans ((al_b w5 o).mono h.size)
  have HK8 : Hid (∀ WE : World, (WE.cell? ⟨w.heap.size, 0, none⟩ = some (.int .i64 a) ∧ WE.cell? ⟨w.heap.size, 1, none⟩ = some (.int .i64 b) ∧ WE.cell? ⟨w.heap.size, 2, none⟩ = some (.int .i64 c)) → ∀ u0 u1 u2 u3 u4 u5 u6 u7, ((((((((WE.setCell ⟨w.heap.size + 1, 0, none⟩ u0).setCell ⟨w.heap.size + 1, 1, none⟩ u1).setCell ⟨w.heap.size + 1, 2, none⟩ u2).setCell ⟨w.heap.size + 1, 3, none⟩ u3).setCell ⟨w.heap.size + 1, 4, none⟩ u4).setCell ⟨w.heap.size + 1, 5, none⟩ u5).setCell ⟨w.heap.size + 1, 6, none⟩ u6).setCell ⟨w.heap.size + 1, 7, none⟩ u7).cell? ⟨w.heap.size, 0, none⟩ = some (.int .i64 a) ∧ ((((((((WE.setCell ⟨w.heap.size + 1, 0, none⟩ u0).setCell ⟨w.heap.size + 1, 1, none⟩ u1).setCell ⟨w.heap.size + 1, 2, none⟩ u2).setCell ⟨w.heap.size + 1, 3, none⟩ u3).setCell ⟨w.heap.size + 1, 4, none⟩ u4).setCell ⟨w.heap.size + 1, 5, none⟩ u5).setCell ⟨w.heap.size + 1, 6, none⟩ u6).setCell ⟨w.heap.size + 1, 7, none⟩ u7).cell? ⟨w.heap.size, 1, none⟩ = some (.int .i64 b) ∧ ((((((((WE.setCell ⟨w.heap.size + 1, 0, none⟩ u0).setCell ⟨w.heap.size + 1, 1, none⟩ u1).setCell ⟨w.heap.size + 1, 2, none⟩ u2).setCell ⟨w.heap.size + 1, 3, none⟩ u3).setCell ⟨w.heap.size + 1, 4, none⟩ u4).setCell ⟨w.heap.size + 1, 5, none⟩ u5).setCell ⟨w.heap.size + 1, 6, none⟩ u6).setCell ⟨w.heap.size + 1, 7, none⟩ u7).cell? ⟨w.heap.size, 2, none⟩ = some (.int .i64 c)) := fun WE h u0 u1 u2 u3 u4 u5 u6 u7 => by
    have o : ∀ (W : World) (j k : Nat) (v : Value), (W.setCell ⟨w.heap.size + 1, j, none⟩ v).cell? ⟨w.heap.size, k, none⟩ = W.cell? ⟨w.heap.size, k, none⟩ := fun W j k v => World.cell?_setCell_other _ _ _ _ (by simp only [ne_eq, Addr.mk.injEq, not_and]; intro e; omega)
    simp only [o]
    exact h
  go_wp2_with fail
  go_cut [7] (fun e0 wx => e0 = .int .i64 0 ∧ CtR w ⟨s, ⟨#[]⟩, own, own, [s], a, b, c⟩ wx)
  case first =>
    refine wp_region_held_drew (S := fun w' => w'.cell? ⟨w.heap.size, 0, none⟩ = some (.int .i64 a) ∧ w'.cell? ⟨w.heap.size, 1, none⟩ = some (.int .i64 b) ∧ w'.cell? ⟨w.heap.size, 2, none⟩ = some (.int .i64 c)) (by kernel_rfl) (HId3.out _ HR1.out) (fun hHeld => ?_)
    generalize w3.drew = wd at *
    refine wpAnyH_take (i := 0) (v := ?_) rfl (by kernel_rfl) (by kernel_rfl) (by kernel_rfl) (fun _ _ _ h => h) (Or.inl ⟨by rfl, ?_⟩) hHeld ?_
    rotate_left 1
    · intro w9 hSw; obtain ⟨g0, g1, g2⟩ := hSw; go_simp; try with_reducible rfl
    change wpAnyH _ _ _ _ _ _ _ (Act.put _ (some 24) _) _
    simp only [Act.put, List.setIfInBounds_toArray, List.set_cons_zero, List.set_cons_succ]
    refine wpAnyH_take (i := 1) (v := ?_) rfl (by kernel_rfl) (by kernel_rfl) (by kernel_rfl) (fun _ _ _ h => h) (Or.inl ⟨by rfl, ?_⟩) hHeld ?_
    rotate_left 1
    · intro w9 hSw; obtain ⟨g0, g1, g2⟩ := hSw; go_simp; try with_reducible rfl
    change wpAnyH _ _ _ _ _ _ _ (Act.put _ (some 25) _) _
    simp only [Act.put, List.setIfInBounds_toArray, List.set_cons_zero, List.set_cons_succ]
    refine wpAnyH_take (i := 3) (v := ?_) rfl (by kernel_rfl) (by kernel_rfl) (by kernel_rfl) (fun _ _ _ h => h) (Or.inl ⟨by rfl, ?_⟩) hHeld ?_
    rotate_left 1
    · intro w9 hSw; obtain ⟨g0, g1, g2⟩ := hSw; go_simp; try with_reducible rfl
    change wpAnyH _ _ _ _ _ _ _ (Act.put _ (some 27) _) _
    simp only [Act.put, List.setIfInBounds_toArray, List.set_cons_zero, List.set_cons_succ]
    refine wpAnyH_take (i := 5) (v := ?_) rfl (by kernel_rfl) (by kernel_rfl) (by kernel_rfl) (fun _ _ _ h => h) (Or.inl ⟨by rfl, ?_⟩) hHeld ?_
    rotate_left 1
    · intro w9 hSw; obtain ⟨g0, g1, g2⟩ := hSw; go_simp; try with_reducible rfl
    change wpAnyH _ _ _ _ _ _ _ (Act.put _ (some 29) _) _
    simp only [Act.put, List.setIfInBounds_toArray, List.set_cons_zero, List.set_cons_succ]
    refine wpAnyH_take (i := 7) (v := ?_) rfl (by kernel_rfl) (by kernel_rfl) (by kernel_rfl) (fun _ _ _ h => h) (Or.inl ⟨by rfl, ?_⟩) hHeld ?_
    rotate_left 1
    · intro w9 hSw; obtain ⟨g0, g1, g2⟩ := hSw; go_simp; try with_reducible rfl
    change wpAnyH _ _ _ _ _ _ _ (Act.put _ (some 31) _) _
    simp only [Act.put, List.setIfInBounds_toArray, List.set_cons_zero, List.set_cons_succ]
    refine wpAnyH_ready (rs := [2, 6]) (by kernel_rfl) (by simp) ?_
    refine AllReadyH.cons rfl (fun K hK => ?_) (AllReadyH.cons rfl (fun K hK => ?_) AllReadyH.nil)
    · go_simp
      refine (HCl.out _ (HR1.out)).mono ?_
      rintro e w4 ⟨x1, y1, rfl, HO1, hb4, hc4⟩
      go_simp
      refine hK.out _ _ (HId3.out _ hb4) (fun hHeld => ?_)
      clear hK K
      refine wpAnyH_ready (rs := [4, 6]) (by kernel_rfl) (by simp) ?_
      refine AllReadyH.cons rfl (fun K hK => ?_) (AllReadyH.cons rfl (fun K hK => ?_) AllReadyH.nil)
      · go_simp
        refine (HCl.out _ (hb4)).mono ?_
        rintro e w5 ⟨x2, y2, rfl, HO2, hb5, hc5⟩
        go_simp
        refine hK.out _ _ (HId3.out _ hb5) (fun hHeld => ?_)
        clear hK K
        refine wpAnyH_ready (rs := [6]) (by kernel_rfl) (by simp) ?_
        refine AllReadyH.cons rfl (fun K hK => ?_) AllReadyH.nil
        go_simp
        refine hK.out _ _ (HId3.out _ (HR3.out _ _ (hb5))) (fun hHeld => ?_)
        clear hK K
        refine wpAnyH_take (i := 8) (v := ?_) rfl (by kernel_rfl) (by kernel_rfl) (by kernel_rfl) (fun _ _ _ h => h) (Or.inl ⟨by rfl, ?_⟩) hHeld ?_
        rotate_left 1
        · intro w9 hSw; obtain ⟨g0, g1, g2⟩ := hSw; go_simp; try with_reducible rfl
        change wpAnyH _ _ _ _ _ _ _ (Act.put _ (some 32) _) _
        simp only [Act.put, List.setIfInBounds_toArray, List.set_cons_zero, List.set_cons_succ]
        obtain ⟨⟨m0, m1, m2, m3⟩, m4, m5, m6, m7⟩ := HZ.out _ (HR3.out w5 (.cells #[.string s] 9) hb5)
        have mf := HF1.out _ (HR3.out w5 (.cells #[.string s] 9) hb5)
        obtain ⟨ms1, ms2⟩ := HSz.out _ (HR3.out w5 (.cells #[.string s] 9) hb5)
        have HCt : Hid _ := HFin.out w4 w5 (w5.alloc (.cells #[.string s] 9)) x1 y1 x2 y2 w5.heap.size HO1 HO2 (HT3.out _ _ _ hc5) (al_b w5 _) (HG3.out w5) hb5.size (HR3.out _ _ hb5)
        have HB9 : Hid (Below W0.heap.size W0 (w5.alloc (.cells #[.string s] 9))) := HR3.out w5 (.cells #[.string s] 9) hb5
        have HC3 := HId3.out _ HB9.out
        generalize (w5.alloc (.cells #[.string s] 9)) = WE at *
        refine wpAnyH_ready (rs := [9]) (by kernel_rfl) (by simp) ?_
        refine AllReadyH.cons rfl (fun K hK => ?_) AllReadyH.nil
        go_simp
        refine hK.out _ _ (HK8.out WE HC3 _ _ _ _ _ _ _ _) (fun hHeld => ?_)
        clear hK K
        refine wpAnyH_ready (rs := [10]) (by kernel_rfl) (by simp) ?_
        refine AllReadyH.cons rfl (fun K hK => ?_) AllReadyH.nil
        go_simp
        refine hK.out _ _ hHeld (fun hHeld => ?_)
        clear hK K
        refine wpAnyH_done (by kernel_rfl) ?_ _
        try go_wp2_with fail
        go_meet
        exact ⟨rfl, HCt.out⟩
      · go_simp
        refine hK.out _ _ (HId3.out _ (HR3.out _ _ (hb4))) (fun hHeld => ?_)
        clear hK K
        refine wpAnyH_ready (rs := [4]) (by kernel_rfl) (by simp) ?_
        refine AllReadyH.cons rfl (fun K hK => ?_) AllReadyH.nil
        go_simp
        refine (HCl.out _ (HR3.out _ _ hb4)).mono ?_
        rintro e w5 ⟨x2, y2, rfl, HO2, hb5, hc5⟩
        go_simp
        refine hK.out _ _ (HId3.out _ hb5) (fun hHeld => ?_)
        clear hK K
        refine wpAnyH_take (i := 8) (v := ?_) rfl (by kernel_rfl) (by kernel_rfl) (by kernel_rfl) (fun _ _ _ h => h) (Or.inl ⟨by rfl, ?_⟩) hHeld ?_
        rotate_left 1
        · intro w9 hSw; obtain ⟨g0, g1, g2⟩ := hSw; go_simp; try with_reducible rfl
        change wpAnyH _ _ _ _ _ _ _ (Act.put _ (some 32) _) _
        simp only [Act.put, List.setIfInBounds_toArray, List.set_cons_zero, List.set_cons_succ]
        obtain ⟨⟨m0, m1, m2, m3⟩, m4, m5, m6, m7⟩ := HZ.out _ (hb5)
        have mf := HF1.out _ (hb5)
        obtain ⟨ms1, ms2⟩ := HSz.out _ (hb5)
        have HCt : Hid _ := HFin.out w4 w5 w5 x1 y1 x2 y2 w4.heap.size HO1 HO2 (HT2.out _ _ _ hc5) (Below.refl _ _) (HG2.out _ _ hc5) hb4.size hb5
        have HB9 : Hid (Below W0.heap.size W0 w5) := hb5
        have HC3 := HId3.out _ HB9.out
        obtain ⟨WE, rfl⟩ : ∃ WE, WE = w5 := ⟨_, rfl⟩
        refine wpAnyH_ready (rs := [9]) (by kernel_rfl) (by simp) ?_
        refine AllReadyH.cons rfl (fun K hK => ?_) AllReadyH.nil
        go_simp
        refine hK.out _ _ (HK8.out WE HC3 _ _ _ _ _ _ _ _) (fun hHeld => ?_)
        clear hK K
        refine wpAnyH_ready (rs := [10]) (by kernel_rfl) (by simp) ?_
        refine AllReadyH.cons rfl (fun K hK => ?_) AllReadyH.nil
        go_simp
        refine hK.out _ _ hHeld (fun hHeld => ?_)
        clear hK K
        refine wpAnyH_done (by kernel_rfl) ?_ _
        try go_wp2_with fail
        go_meet
        exact ⟨rfl, HCt.out⟩
    · go_simp
      refine hK.out _ _ (HId3.out _ (HR3.out _ _ (HR1.out))) (fun hHeld => ?_)
      clear hK K
      refine wpAnyH_ready (rs := [2]) (by kernel_rfl) (by simp) ?_
      refine AllReadyH.cons rfl (fun K hK => ?_) AllReadyH.nil
      go_simp
      refine (HCl.out _ (HR3.out _ _ HR1.out)).mono ?_
      rintro e w4 ⟨x1, y1, rfl, HO1, hb4, hc4⟩
      go_simp
      refine hK.out _ _ (HId3.out _ hb4) (fun hHeld => ?_)
      clear hK K
      refine wpAnyH_ready (rs := [4]) (by kernel_rfl) (by simp) ?_
      refine AllReadyH.cons rfl (fun K hK => ?_) AllReadyH.nil
      go_simp
      refine (HCl.out _ (hb4)).mono ?_
      rintro e w5 ⟨x2, y2, rfl, HO2, hb5, hc5⟩
      go_simp
      refine hK.out _ _ (HId3.out _ hb5) (fun hHeld => ?_)
      clear hK K
      refine wpAnyH_take (i := 8) (v := ?_) rfl (by kernel_rfl) (by kernel_rfl) (by kernel_rfl) (fun _ _ _ h => h) (Or.inl ⟨by rfl, ?_⟩) hHeld ?_
      rotate_left 1
      · intro w9 hSw; obtain ⟨g0, g1, g2⟩ := hSw; go_simp; try with_reducible rfl
      change wpAnyH _ _ _ _ _ _ _ (Act.put _ (some 32) _) _
      simp only [Act.put, List.setIfInBounds_toArray, List.set_cons_zero, List.set_cons_succ]
      obtain ⟨⟨m0, m1, m2, m3⟩, m4, m5, m6, m7⟩ := HZ.out _ (hb5)
      have mf := HF1.out _ (hb5)
      obtain ⟨ms1, ms2⟩ := HSz.out _ (hb5)
      have HCt : Hid _ := HFin.out w4 w5 w5 x1 y1 x2 y2 wd.heap.size HO1 HO2 hc5 (Below.refl _ _) (HG1.out wd w4 w5 hc4 hc5) HR1.out.size hb5
      have HB9 : Hid (Below W0.heap.size W0 w5) := hb5
      have HC3 := HId3.out _ HB9.out
      obtain ⟨WE, rfl⟩ : ∃ WE, WE = w5 := ⟨_, rfl⟩
      refine wpAnyH_ready (rs := [9]) (by kernel_rfl) (by simp) ?_
      refine AllReadyH.cons rfl (fun K hK => ?_) AllReadyH.nil
      go_simp
      refine hK.out _ _ (HK8.out WE HC3 _ _ _ _ _ _ _ _) (fun hHeld => ?_)
      clear hK K
      refine wpAnyH_ready (rs := [10]) (by kernel_rfl) (by simp) ?_
      refine AllReadyH.cons rfl (fun K hK => ?_) AllReadyH.nil
      go_simp
      refine hK.out _ _ hHeld (fun hHeld => ?_)
      clear hK K
      refine wpAnyH_done (by kernel_rfl) ?_ _
      try go_wp2_with fail
      go_meet
      exact ⟨rfl, HCt.out⟩
  case rest =>
    obtain ⟨rfl, y, hy, HT, HN1, HB1, HX1⟩ := hcut
    obtain ⟨⟨c0, c1, c2, c3⟩, c4, c5, c6, c7⟩ := HX1.out
    have HEnd : Hid (MkP (⟨s, ⟨#[]⟩, own, own, [s], a, b, c⟩, 0) w (.returned (.tuple #[ltV y, .int .i64 0])) wc) := ⟨y, rfl, hy, HT.out, HN1.out.le (by omega), HB1.out⟩
    clear HX1 HT HN1 HB1 HFin HG1 HG2 HG3 HT2 HT3 HR1 HR3 HSz HZ HF1 HBw HN HC HI HCl HId3 HK8 hy
    go_wp2_with fail
    try simp only [Exit.inBlock, Exit.then]
    refine bodyPost_ret (v := .tuple #[ltV y, .int .i64 0]) ?_ rfl HEnd.out
    rw [results_c2 rfl]; go_simp
end Go.Proofs.YthdbnlpbidkojaaGreatDoor
/- forest.Of: its walk. -/
namespace Go.Proofs.YthdbnlpbidkojaaGreatDoor
open Go.RowKit Go.ChangeMaps

def ixO (s : ByteArray) (l : List ByteArray) : Int := match l.findIdx? (fun u => sameL u.data.toList s.data.toList) with | some k => (k : Int) | none => -1
theorem ixO_at {s : ByteArray} {l : List ByteArray} {k : Nat} (hk : k < l.length) (h1 : ∀ (j : Nat) (h : j < l.length), j < k → sameL l[j].data.toList s.data.toList = false) (h2 : sameL l[k].data.toList s.data.toList = true) : ixO s l = (k : Int) := by
  have : l.findIdx? (fun u => sameL u.data.toList s.data.toList) = some k := by
    rw [List.findIdx?_eq_some_iff_getElem]
    exact ⟨hk, h2, fun j hj => by simp [h1 j (by omega) hj]⟩
  unfold ixO
  rw [this]
theorem ixO_none {s : ByteArray} {l : List ByteArray} (h1 : ∀ (j : Nat) (h : j < l.length), sameL l[j].data.toList s.data.toList = false) : ixO s l = -1 := by
  have : l.findIdx? (fun u => sameL u.data.toList s.data.toList) = none := by
    rw [List.findIdx?_eq_none_iff]
    intro x hx
    obtain ⟨j, hj, rfl⟩ := List.mem_iff_getElem.1 hx
    exact h1 j hj
  unfold ixO
  rw [this]
theorem ixO_any (s : ByteArray) (l : List ByteArray) : decide (0 ≤ ixO s l) = l.any fun u => sameL u.data.toList s.data.toList := by
  unfold ixO
  cases h : l.findIdx? (fun u => sameL u.data.toList s.data.toList) with
  | none =>
    rw [List.findIdx?_eq_none_iff] at h
    have : (l.any fun u => sameL u.data.toList s.data.toList) = false := by
      rw [List.any_eq_false]
      intro x hx
      rw [h x hx]
      decide
    rw [this]
    decide
  | some k =>
    obtain ⟨hk, h2, -⟩ := List.findIdx?_eq_some_iff_getElem.1 h
    have : (l.any fun u => sameL u.data.toList s.data.toList) = true := List.any_eq_true.2 ⟨_, List.getElem_mem hk, h2⟩
    rw [this]
    simp
end Go.Proofs.YthdbnlpbidkojaaGreatDoor
/- slices.Grow of nothing, slices.Concat of two rows of names: walks. -/
namespace Go.Proofs.YthdbnlpbidkojaaGreatDoor
open Go.RowKit Go.ChangeMaps

def preS (a b : List ByteArray) (k : Nat) : List ByteArray := if k = 0 then [] else if k = 1 then a else a ++ b
end Go.Proofs.YthdbnlpbidkojaaGreatDoor
/- What is made can be added: plain mathematics of forests. -/
namespace Go.Proofs.YthdbnlpbidkojaaGreatDoor
open Go.RowKit

/-- All names of a chain are names, none the same as another one. -/
theorem clm_full : ∀ (ch : List ByteArray) (b : List (List UInt8)), b.length + ch.length ≤ (clm b ch).length ↔ (∀ s ∈ ch, checkL s.data.toList = 0) ∧ (ch.map fun s => foldL s.data.toList).Nodup ∧ ∀ s ∈ ch, ¬ foldL s.data.toList ∈ b
  | [], b => by simp [clm]
  | s :: r, b => by
    rw [clm]
    split
    · rename_i h
      have ih := clm_full r (b ++ [foldL s.data.toList])
      rw [List.length_append, List.length_singleton] at ih
      rw [List.length_cons, show b.length + (r.length + 1) = b.length + 1 + r.length by omega, ih, List.map_cons, List.nodup_cons]
      constructor
      · rintro ⟨h1, h2, h3⟩
        refine ⟨?_, ⟨?_, h2⟩, ?_⟩
        · intro x hx
          rcases List.mem_cons.1 hx with rfl | hx
          · exact h.1
          · exact h1 x hx
        · intro hm
          obtain ⟨x, hx, e⟩ := List.mem_map.1 hm
          exact h3 x hx (by rw [e]; simp)
        · intro x hx
          rcases List.mem_cons.1 hx with rfl | hx
          · exact h.2
          · intro hb; exact h3 x hx (by simp [hb])
      · rintro ⟨h1, ⟨h2, h3⟩, h4⟩
        refine ⟨fun x hx => h1 x (by simp [hx]), h3, fun x hx hm => ?_⟩
        rcases List.mem_append.1 hm with hm | hm
        · exact h4 x (by simp [hx]) hm
        · have := List.mem_singleton.1 hm
          exact h2 (List.mem_map.2 ⟨x, hx, this⟩)
    · rename_i h
      constructor
      · intro hl; rw [List.length_cons] at hl; omega
      · rintro ⟨h1, h2, h3⟩
        exact absurd ⟨h1 s (by simp), h3 s (by simp)⟩ h
theorem chain_iff (ch : List ByteArray) : ch.length ≤ (clm [] ch).length ↔ (∀ s ∈ ch, checkL s.data.toList = 0) ∧ (ch.map fun s => foldL s.data.toList).Nodup := by
  have := clm_full ch []
  simpa using this
theorem chkT_iff (t : Ty) : chkT t = true ↔ 1 ≤ t.ch.length ∧ t.ch.length ≤ 8 ∧ t.ch[0]? = some t.n ∧ ((∀ s ∈ t.ch, checkL s.data.toList = 0) ∧ (t.ch.map fun s => foldL s.data.toList).Nodup) ∧ chkR t = true := by
  unfold chkT
  simp only [Bool.and_eq_true, decide_eq_true_eq, chain_iff]
theorem chkT_zT : chkT zT = false := by
  cases h : chkT zT
  · rfl
  · have := ((chkT_iff _).1 h).1
    simp [zT] at this
theorem checkL_nil : checkL [] ≠ 0 := by decide
theorem chkT_name {t : Ty} (h : chkT t = true) : checkL t.n.data.toList = 0 := by
  obtain ⟨h1, h2, h3, ⟨h4, -⟩, -⟩ := (chkT_iff t).1 h
  exact h4 _ (List.mem_of_getElem? h3)
theorem size_name {s : ByteArray} (h : checkL s.data.toList = 0) : s.size ≠ 0 := by
  intro e
  have : s.data.toList = [] := List.eq_nil_of_length_eq_zero (by simpa using e)
  rw [this] at h
  exact checkL_nil h
theorem sameR_self (l : List Fd) : sameR l l = true := (sameR_iff l l).2 rfl
theorem root_chk {s : ByteArray} {own : List Fd} {a b c : Int} {t : Ty} (h : rootR s own a b c = (t, 0)) : t = ⟨s, ⟨#[]⟩, own, own, [s], a, b, c⟩ ∧ chkT t = true := by
  unfold rootR at h
  split at h
  · rename_i hc
    split at h
    · rename_i hk
      obtain rfl := (Prod.mk.inj h).1
      rw [Bool.and_eq_true] at hk
      refine ⟨rfl, (chkT_iff _).2 ⟨by simp, by simp, rfl, ⟨by simpa using hc, by simp⟩, ?_⟩⟩
      unfold chkR
      simp only [hk.1, hk.2, sameR_self, List.length_singleton, if_true, Bool.true_and, Bool.and_true]
      rfl
    · have := (Prod.mk.inj h).2
      cases this
  · rename_i hc
    exact absurd (Prod.mk.inj h).2 hc
theorem bel_chk {o : Ty} {s : ByteArray} {own : List Fd} {a b c : Int} {t : Ty} (h : belR o s own a b c = (t, 0)) : t = ⟨s, o.n, own, (mgL o.all own).1, s :: o.ch, a, b, c⟩ ∧ chkT t = true ∧ belB t o = true ∧ t.p.size ≠ 0 := by
  unfold belR at h
  split at h
  · rename_i hc
    split at h
    · rename_i hk
      rw [Bool.and_eq_true, Bool.and_eq_true] at hk
      split at h
      · exact absurd (Prod.mk.inj h).2 (by decide)
      · rename_i hof
        split at h
        · exact absurd (Prod.mk.inj h).2 (by decide)
        · rename_i h8
          split at h
          · rename_i hm
            obtain rfl := (Prod.mk.inj h).1
            obtain ⟨g1, g2, g3, ⟨g4, g5⟩, -⟩ := (chkT_iff o).1 hk.1
            refine ⟨rfl, (chkT_iff _).2 ⟨by simp, by simp only [List.length_cons]; omega, rfl, ⟨?_, ?_⟩, ?_⟩, ?_, size_name (chkT_name hk.1)⟩
            · intro x hx
              rcases List.mem_cons.1 hx with rfl | hx
              · exact hc
              · exact g4 x hx
            · rw [List.map_cons, List.nodup_cons]
              refine ⟨fun hmem => hof ?_, g5⟩
              obtain ⟨x, hx, e⟩ := List.mem_map.1 hmem
              exact List.any_eq_true.2 ⟨x, hx, by unfold sameL; exact decide_eq_true e⟩
            · unfold chkR
              have e1 : ¬ (s :: o.ch).length = 1 := by simp only [List.length_cons]; omega
              have e2 : (s :: o.ch)[1]? = some o.n := by simpa using g3
              simp only [if_neg e1, e2, hk.2.1, hk.2.2, mgL_chk hm, (mgL_within hm).2, decide_true, Bool.and_self]
            · unfold belB
              simp only [hm, sameR_self, sameS, List.tail_cons, decide_true, Bool.and_self]
          · rename_i hm
            exact absurd (Prod.mk.inj h).2 hm
    · exact absurd (Prod.mk.inj h).2 (by decide)
  · rename_i hc
    exact absurd (Prod.mk.inj h).2 hc
theorem isB_iff (l : List Ty) : isB l = true ↔ l.length ≤ 200 ∧ (∀ t ∈ l, chkT t = true) ∧ Rise l ∧ ∀ t ∈ l, parB l t = true := by
  unfold isB
  simp only [Bool.and_eq_true, decide_eq_true_eq, List.all_eq_true, riseB_iff]
theorem parN_mem {l : List Ty} (hr : Rise l) {o : Ty} (ho : o ∈ l) {s : ByteArray} (h : nmC o s = 0) : parN l s = some o := by
  obtain ⟨k, hk, rfl⟩ := List.mem_iff_getElem.1 ho
  exact (par_at hr hk h).2
theorem parN_some {l : List Ty} {o : Ty} {s : ByteArray} (h : parN l s = some o) : o ∈ l ∧ nmC o s = 0 := by
  unfold parN at h
  have h1 := List.find?_some h
  exact ⟨List.mem_of_find?_eq_some h, sameL_iff.1 h1⟩
/-- What can be added to a forest. -/
def CanAdd (l : List Ty) (t : Ty) : Prop := chkT t = true ∧ parN l t.n = none ∧ (t.p.size = 0 ∨ ∃ o, parN l t.p = some o ∧ belB t o = true)
theorem make_can {l : List Ty} {s p : ByteArray} {own : List Fd} {a b c : Int} {t : Ty} (h : mkR l s p own a b c = (t, 0)) : isB l = true ∧ t.n = s ∧ CanAdd l t := by
  unfold mkR at h
  split at h
  · rename_i hi
    obtain ⟨i1, i2, i3, i4⟩ := (isB_iff l).1 hi
    split at h
    · split at h
      · exact absurd (Prod.mk.inj h).2 (by decide)
      · rename_i hp
        have hpn : parN l s = none := by simpa using hp
        split at h
        · obtain ⟨rfl, hc⟩ := root_chk h
          exact ⟨hi, rfl, hc, hpn, .inl rfl⟩
        · split at h
          · exact absurd (Prod.mk.inj h).2 (by decide)
          · rename_i o ho
            obtain ⟨rfl, hc, hb, -⟩ := bel_chk h
            have hom := (parN_some ho).1
            exact ⟨hi, rfl, hc, hpn, .inr ⟨o, parN_mem i3 hom (cmpL_irr _), hb⟩⟩
    · rename_i hc
      exact absurd (Prod.mk.inj h).2 hc
  · exact absurd (Prod.mk.inj h).2 (by decide)
theorem insT_mem {l : List Ty} {k : Nat} {t x : Ty} : x ∈ insT l k t ↔ x = t ∨ x ∈ l := by
  unfold insT
  rw [List.mem_append, List.mem_cons]
  have h2 := List.take_append_drop k l
  constructor
  · rintro (h | h | h)
    · exact .inr (List.mem_of_mem_take h)
    · exact .inl h
    · exact .inr (List.mem_of_mem_drop h)
  · rintro (h | h)
    · exact .inr (.inl h)
    · rw [← h2] at h
      rcases List.mem_append.1 h with h | h
      · exact .inl h
      · exact .inr (.inr h)
theorem insT_len {l : List Ty} {k : Nat} {t : Ty} (hk : k ≤ l.length) : (insT l k t).length = l.length + 1 := by
  unfold insT
  rw [List.length_append, List.length_cons, List.length_take, List.length_drop]
  omega
theorem insT_rise {l : List Ty} {t : Ty} (hr : Rise l) (hn : parN l t.n = none) : Rise (insT l (plcN l t.n) t) := by
  have hne : ∀ x ∈ l, nmC x t.n ≠ 0 := fun x hx h => by
    have := parN_mem hr hx h
    rw [hn] at this
    cases this
  have hsplit := List.take_append_drop (plcN l t.n) l
  have hr2 : (l.take (plcN l t.n) ++ l.drop (plcN l t.n)).Pairwise fun t u => nmC t u.n < 0 := by rw [hsplit]; exact hr
  obtain ⟨p1, p2, p3⟩ := List.pairwise_append.1 hr2
  have hlo : ∀ x ∈ l.take (plcN l t.n), nmC x t.n < 0 := fun x hx => by
    obtain ⟨i, hi, rfl⟩ := List.mem_iff_getElem.1 hx
    rw [List.length_take] at hi
    rw [List.getElem_take]
    exact plc_lt (by omega) (by omega)
  have hhi : ∀ x ∈ l.drop (plcN l t.n), nmC t x.n < 0 := fun x hx => by
    obtain ⟨i, hi, rfl⟩ := List.mem_iff_getElem.1 hx
    rw [List.length_drop] at hi
    rw [List.getElem_drop]
    have h0 := plc_ge l t.n (by omega)
    have h1 : ¬ nmC (l[plcN l t.n + i]'(by omega)) t.n < 0 := fun hlt => h0 (rise_mono hr (Nat.le_add_right _ i) (by omega) hlt)
    have h2 := hne _ (List.getElem_mem (by omega : plcN l t.n + i < l.length))
    unfold nmC at *
    rw [cmpL_anti]
    omega
  unfold Rise insT
  rw [List.pairwise_append]
  refine ⟨p1, List.pairwise_cons.2 ⟨hhi, p2⟩, fun x hx y hy => ?_⟩
  rcases List.mem_cons.1 hy with rfl | hy
  · exact hlo x hx
  · exact p3 x hx y hy
theorem parN_ins {l : List Ty} {t : Ty} (hr : Rise l) (hn : parN l t.n = none) {s : ByteArray} {o : Ty} (h : parN l s = some o) : parN (insT l (plcN l t.n) t) s = some o := by
  obtain ⟨h1, h2⟩ := parN_some h
  exact parN_mem (insT_rise hr hn) (insT_mem.2 (.inr h1)) h2
theorem parB_ins {l : List Ty} {t : Ty} (hr : Rise l) (hn : parN l t.n = none) {u : Ty} (h : parB l u = true) : parB (insT l (plcN l t.n) t) u = true := by
  unfold parB at *
  rw [Bool.or_eq_true] at *
  rcases h with h | h
  · exact .inl h
  · refine .inr ?_
    cases hp : parN l u.p with
    | none => rw [hp] at h; cases h
    | some o => rw [parN_ins hr hn hp]; rw [hp] at h; exact h
/-- WHAT CAN BE ADDED IS ADDED, and a forest stays one. -/
theorem add_can {l : List Ty} {t : Ty} (hi : isB l = true) (hc : CanAdd l t) (hl : l.length < 200) : addR l t = (insT l (plcN l t.n) t, 0) ∧ isB (insT l (plcN l t.n) t) = true ∧ (insT l (plcN l t.n) t).length = l.length + 1 ∧ parN (insT l (plcN l t.n) t) t.n = some t := by
  obtain ⟨i1, i2, i3, i4⟩ := (isB_iff l).1 hi
  obtain ⟨c1, c2, c3⟩ := hc
  refine ⟨?_, (isB_iff _).2 ⟨?_, ?_, insT_rise i3 c2, ?_⟩, insT_len (plcN_le _ _), parN_mem (insT_rise i3 c2) (insT_mem.2 (.inl rfl)) (cmpL_irr _)⟩
  · unfold addR
    rw [hi, c1, Bool.and_self, if_pos rfl, c2, if_neg (by simp), if_neg (by omega)]
    rcases c3 with h | ⟨o, h1, h2⟩
    · rw [if_pos h]
    · by_cases hp : t.p.size = 0
      · rw [if_pos hp]
      · rw [if_neg hp, h1]
        simp only [h2, if_true]
  · rw [insT_len (plcN_le _ _)]; omega
  · intro x hx
    rcases insT_mem.1 hx with rfl | hx
    · exact c1
    · exact i2 x hx
  · intro x hx
    rcases insT_mem.1 hx with rfl | hx
    · unfold parB
      rw [Bool.or_eq_true]
      rcases c3 with h | ⟨o, h1, h2⟩
      · exact .inl (decide_eq_true h)
      · rw [parN_ins i3 c2 h1]
        exact .inr h2
    · exact parB_ins i3 c2 (i4 x hx)
/-- Where none is made it is none. -/
theorem root_bad {s : ByteArray} {own : List Fd} {a b c : Int} (h : (rootR s own a b c).2 ≠ 0) : (rootR s own a b c).1 = zT := by
  unfold rootR at *
  split
  · split
    · rename_i h1 h2
      rw [if_pos h1, if_pos h2] at h
      exact absurd rfl h
    · rfl
  · rfl
theorem bel_bad {o : Ty} {s : ByteArray} {own : List Fd} {a b c : Int} (h : (belR o s own a b c).2 ≠ 0) : (belR o s own a b c).1 = zT := by
  unfold belR at *
  split
  · split
    · split
      · rfl
      · split
        · rfl
        · split
          · rename_i h1 h2 h3 h4 h5
            rw [if_pos h1, if_pos h2, if_neg h3, if_neg h4, if_pos h5] at h
            exact absurd rfl h
          · rfl
    · rfl
  · rfl
theorem make_bad {l : List Ty} {s p : ByteArray} {own : List Fd} {a b c : Int} (h : (mkR l s p own a b c).2 ≠ 0) : (mkR l s p own a b c).1 = zT := by
  unfold mkR at *
  split
  · split
    · split
      · rfl
      · split
        · rename_i h1 h2 h3 h4
          rw [if_pos h1, if_pos h2, if_neg h3, if_pos h4] at h
          exact root_bad h
        · rename_i h1 h2 h3 h4
          rw [if_pos h1, if_pos h2, if_neg h3, if_neg h4] at h
          split
          · rfl
          · rename_i o ho
            rw [ho] at h
            exact bel_bad h
    · rfl
  · rfl
end Go.Proofs.YthdbnlpbidkojaaGreatDoor
/- forest.Below: its walk. -/
namespace Go.Proofs.YthdbnlpbidkojaaGreatDoor
open Go.RowKit Go.ChangeMaps

/-- Behind the store of a type that is made. -/
def CtB (w : World) (t : Ty) (wx : World) : Prop := ∃ y : LT, y.t = t ∧ Hid (IsTy wx y.t y.vo y.va y.vc) ∧ Hid (NewT (w.heap.size + 3) y) ∧ Hid (Below w.heap.size w wx) ∧ Hid (BxT (w.heap.size + 2) y.t y.vo y.va y.vc wx)
end Go.Proofs.YthdbnlpbidkojaaGreatDoor
/- forest.isBelow: its walk. -/
namespace Go.Proofs.YthdbnlpbidkojaaGreatDoor
open Go.RowKit Go.ChangeMaps

/-- A row of names without its first one, as the walk has it. -/
theorem row_tail {w : World} {b off cc : Nat} {l : List ByteArray} (h : IsRow w 1 (.slice (some ⟨b, off, none⟩) l.length cc) l.length (sVals l)) (h1 : 1 ≤ l.length) : IsRow w 1 (.slice (if cc = 1 then some ⟨b, off, none⟩ else some ⟨b, off + 1, none⟩) (l.length - 1) (cc - 1)) l.tail.length (sVals l.tail) := by
  obtain ⟨b', off', cap', hv, hlt, q1, q2, hc⟩ := h.open (by omega)
  simp only [Value.slice.injEq, Option.some.injEq, Addr.mk.injEq, and_true, true_and] at hv
  obtain ⟨⟨rfl, rfl⟩, rfl⟩ := hv
  have hl : l.tail.length = l.length - 1 := List.length_tail
  by_cases e : cc = 1
  · rw [if_pos e]
    have h0 : l.length - 1 = 0 := by omega
    have hn : l.tail = [] := List.eq_nil_of_length_eq_zero (by omega)
    rw [h0, hn]
    exact ⟨rfl, .inl ⟨rfl, _, _, rfl⟩⟩
  · rw [if_neg e, hl]
    refine ⟨by simp [sVals], .inr ⟨b, off + 1, cc - 1, rfl, hlt, by omega, by omega, fun j u hu => ?_⟩⟩
    have hu' : (sVals l)[j + 1]? = some u := by
      cases l with
      | nil => simp at h1
      | cons y l => simpa [sVals] using hu
    have := hc (j + 1) u hu'
    rwa [show off + 1 + j = off + (j + 1) by omega]
end Go.Proofs.YthdbnlpbidkojaaGreatDoor
