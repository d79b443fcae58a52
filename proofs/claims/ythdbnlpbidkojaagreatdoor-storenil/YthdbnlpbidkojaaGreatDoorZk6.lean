/- forest.Root: a walk. -/
import Derived.Test.YthdbnlpbidkojaaGreatDoorZk5
import Derived.Test.YthdbnlpbidkojaaGreatDoorZk3
import Derived.Test.YthdbnlpbidkojaaGreatDoorZk4
import Derived.Deep.QuietTactic
import Derived.BigQuiet
import Derived.Laws.MakeOwn
import Derived.Laws.CopyOwn
import Derived.Laws.CopyRow
import Derived.Lib.AppendZeros
import Derived.Deep.WholeRow
namespace Go.Proofs.YthdbnlpbidkojaaGreatDoor
open Go.RowKit Go.ChangeMaps

/-- Behind the store of a type that is made. -/
def CtR (w : World) (t : Ty) (wx : World) : Prop := ∃ y : LT, y.t = t ∧ Hid (IsTy wx y.t y.vo y.va y.vc) ∧ Hid (NewT (w.heap.size + 2) y) ∧ Hid (Below w.heap.size w wx) ∧ Hid (BxT (w.heap.size + 1) y.t y.vo y.va y.vc wx)
set_option maxRecDepth 100000 in
set_option maxHeartbeats 4000000 in
theorem root_any (s : ByteArray) (v : Value) (own : List Fd) (a b c : Int) (w : World) (hs : s.size ≤ 1000000) (hr : IsRow w 3 v own.length (fCells own)) (hl : own.length ≤ 1000) (hn : NmF own) (hU : UT w) (hM : ML w) :
    Calls Tryz.prog 25 #[.string s, v, idV a b c] w fun e w' => MkP (rootR s own a b c) w e w' := by
  obtain ⟨ao, co, rfl⟩ := hr.form
  obtain ⟨W0, hW0⟩ : ∃ W0, W0 = (w.alloc (.cells #[.int .i64 a, .int .i64 b, .int .i64 c] 33)).alloc (.cells zTyA 35) := ⟨_, rfl⟩
  have hA : Below w.heap.size w W0 := by rw [hW0]; exact (al_b w _).trans ((al_b _ _).mono (by simp))
  have hz : W0.heap.size = w.heap.size + 2 := by rw [hW0]; simp
  have hn0 : W0.heap[w.heap.size]? = some (.cells #[.int .i64 a, .int .i64 b, .int .i64 c] 33 (0, 0)) := by
    rw [hW0]
    show ((w.heap.push _).push _)[w.heap.size]? = _
    rw [Array.getElem?_push, if_neg (by simp), Array.getElem?_push, if_pos rfl]
  have hn1 : W0.heap[w.heap.size + 1]? = some (.cells zTyA 35 (0, 0)) := by
    rw [hW0]
    show ((w.heap.push _).push _)[w.heap.size + 1]? = _
    rw [Array.getElem?_push, if_pos (by simp)]
  have HId3 : Hid (∀ W, Below W0.heap.size W0 W → W.cell? ⟨w.heap.size, 0, none⟩ = some (.int .i64 a) ∧ W.cell? ⟨w.heap.size, 1, none⟩ = some (.int .i64 b) ∧ W.cell? ⟨w.heap.size, 2, none⟩ = some (.int .i64 c)) := fun W h => by
    have e : ∀ j, W.cell? ⟨w.heap.size, j, none⟩ = (#[.int .i64 a, .int .i64 b, .int .i64 c] : Array Value)[j]? := fun j => by rw [Lib.cell_of_heap ((h.block _ (by omega)).trans hn0)]
    exact ⟨e 0, e 1, e 2⟩
  have HZ : Hid (∀ W, Below W0.heap.size W0 W → BxT (w.heap.size + 1) zT (.slice none 0 0) (.slice none 0 0) (.slice none 0 0) W) := fun W h => BxT.of ((h.block _ (by omega)).trans hn1)
  have HF1 : Hid (∀ W, Below W0.heap.size W0 W → ∀ j, W.frozen? ⟨w.heap.size + 1, j, none⟩ = false) := fun W h j => Lib.frozen_of_heap ((h.block _ (by omega)).trans hn1) j
  have HBw : Hid (∀ W, Below W0.heap.size W0 W → Below w.heap.size w W) := fun W h => hA.trans (h.mono hA.size)
  have HN : Hid (∀ W, Calls Tryz.prog 56 #[.string s] W fun e w' => e = .returned (.int .i64 (checkL s.data.toList)) ∧ Below W.heap.size W w') := fun W => check_any _ W (Nat.le_trans hs (by decide))
  have HC : Hid (∀ W, Below W0.heap.size W0 W → Calls Tryz.prog 48 #[.slice ao own.length co] W fun e w' => e = .returned (.bool (chkF own)) ∧ Below W.heap.size W w') := fun W h => checkF_any _ own W (hr.below (HBw.out W h)) (by omega) hn (Utf8Tabs_below hU (HBw.out W h)) (ML_below hM (HBw.out W h))
  have HI : Hid (∀ W, Calls Tryz.prog 47 #[idV a b c] W fun e w' => e = .returned (.bool (idB a b c)) ∧ Below W.heap.size W w') := fun W => isID_any _ _ _ W
  have HCl : Hid (∀ W, Below W0.heap.size W0 W → Calls Tryz.prog 57 #[.slice ao own.length co] W fun e w' => ∃ x y, e = .returned (.slice x own.length y) ∧ Hid (w'.ownsRow W0.heap.size 95 3 (.slice x own.length y) own.length (fCells own)) ∧ Below W0.heap.size W0 w' ∧ Below W.heap.size W w') := fun W h => (cloneF_any _ own W (hr.below (HBw.out W h)) hl).mono fun e w' ⟨v, he, ho, hb⟩ => by
    obtain ⟨x, y, rfl⟩ := (IsRow.own ho).form
    exact ⟨x, y, he, own_leT ho h.size, h.trans (hb.mono h.size), hb⟩
  have hR : rootR s own a b c = if checkL s.data.toList = 0 then (if (chkF own && idB a b c) = true then (⟨s, ⟨#[]⟩, own, own, [s], a, b, c⟩, 0) else (zT, 1)) else (zT, checkL s.data.toList) := rfl
  generalize checkL s.data.toList = C at *
  clear hr hl hn hU hM hA hn0 hn1 hs
  by_cases hC : C = 0
  rotate_left
  · rw [hR, if_neg hC]
    have dC : (C != 0) = true := by simp [hC]
    have dC' : (!(C == 0)) = true := by simp [hC]
    have dC'' : (C == 0) = false := by simp [hC]
    clear hR HC HI HCl
    go_enter Tryz.func25, Tryz.ntmps25
    go_wp2_with fail
    rw [← hW0]
    clear hW0
    refine (HN.out _).mono ?_
    rintro e w1 ⟨rfl, hb1⟩
    obtain ⟨⟨e0, e1, e2, e3⟩, e4, e5, e6, e7⟩ := HZ.out _ hb1
    have f0 := HF1.out _ hb1
    have HB : Hid (Below w.heap.size w w1) := HBw.out _ hb1
    have HEnd : Hid (∀ u0 u1 u2 u3 u4 u5 u6 u7, MkP (zT, C) w (.returned (.tuple #[tyV zT (.slice none 0 0) (.slice none 0 0) (.slice none 0 0), .int .i64 C])) ((((((((w1.setCell ⟨w.heap.size + 1, 0, none⟩ u0).setCell ⟨w.heap.size + 1, 1, none⟩ u1).setCell ⟨w.heap.size + 1, 2, none⟩ u2).setCell ⟨w.heap.size + 1, 3, none⟩ u3).setCell ⟨w.heap.size + 1, 4, none⟩ u4).setCell ⟨w.heap.size + 1, 5, none⟩ u5).setCell ⟨w.heap.size + 1, 6, none⟩ u6).setCell ⟨w.heap.size + 1, 7, none⟩ u7)) := fun u0 u1 u2 u3 u4 u5 u6 u7 => MkP.zero C (below8 HB.out (Nat.le_add_right _ 1) u0 u1 u2 u3 u4 u5 u6 u7)
    clear hb1 HZ HF1 HBw HN
    go_wp2_with fail
    try simp only [Exit.inBlock, Exit.then]
    refine bodyPost_ret (v := .tuple #[tyV zT (.slice none 0 0) (.slice none 0 0) (.slice none 0 0), .int .i64 C]) ?_ rfl (HEnd.out _ _ _ _ _ _ _ _)
    rw [results_c2 rfl]; go_simp
    exact ⟨rfl, rfl, rfl, rfl, rfl⟩
  have dC : (C != 0) = false := by simp [hC]
  have dC' : (!(C == 0)) = false := by simp [hC]
  have dC'' : (C == 0) = true := by simp [hC]
  rw [hR, if_pos hC]
  subst hC
  cases hc : chkF own
  · rw [hc] at HC
    rw [Bool.false_and, if_neg (by decide)]
    clear hR HI HCl HId3 hc
    go_enter Tryz.func25, Tryz.ntmps25
    go_wp2_with fail
    rw [← hW0]
    clear hW0
    refine (HN.out _).mono ?_
    rintro e w1 ⟨rfl, hb1⟩
    have HH1 : Hid (Below W0.heap.size W0 w1) := hb1
    clear hb1
    go_wp2_with fail
    refine (HC.out _ HH1.out).mono ?_
    rintro e w2 ⟨rfl, hb2⟩
    have HH2 : Hid (Below W0.heap.size W0 w2) := HH1.out.trans (hb2.mono HH1.out.size)
    clear hb2
    obtain ⟨⟨e0, e1, e2, e3⟩, e4, e5, e6, e7⟩ := HZ.out _ HH2.out
    have f0 := HF1.out _ HH2.out
    have HB : Hid (Below w.heap.size w w2) := HBw.out _ HH2.out
    have HEnd : Hid (∀ u0 u1 u2 u3 u4 u5 u6 u7, MkP (zT, 1) w (.returned (.tuple #[tyV zT (.slice none 0 0) (.slice none 0 0) (.slice none 0 0), .int .i64 1])) ((((((((w2.setCell ⟨w.heap.size + 1, 0, none⟩ u0).setCell ⟨w.heap.size + 1, 1, none⟩ u1).setCell ⟨w.heap.size + 1, 2, none⟩ u2).setCell ⟨w.heap.size + 1, 3, none⟩ u3).setCell ⟨w.heap.size + 1, 4, none⟩ u4).setCell ⟨w.heap.size + 1, 5, none⟩ u5).setCell ⟨w.heap.size + 1, 6, none⟩ u6).setCell ⟨w.heap.size + 1, 7, none⟩ u7)) := fun u0 u1 u2 u3 u4 u5 u6 u7 => MkP.zero 1 (below8 HB.out (Nat.le_add_right _ 1) u0 u1 u2 u3 u4 u5 u6 u7)
    clear HZ HF1 HBw HN HC
    go_wp2_with fail
    try simp only [Exit.inBlock, Exit.then]
    refine bodyPost_ret (v := .tuple #[tyV zT (.slice none 0 0) (.slice none 0 0) (.slice none 0 0), .int .i64 1]) ?_ rfl (HEnd.out _ _ _ _ _ _ _ _)
    rw [results_c2 rfl]; go_simp
    exact ⟨rfl, rfl, rfl, rfl, rfl⟩
  rw [hc] at HC
  rw [Bool.true_and]
  cases hi : idB a b c
  · rw [hi] at HI
    rw [if_neg (by decide)]
    clear hR HCl hc hi
    go_enter Tryz.func25, Tryz.ntmps25
    go_wp2_with fail
    rw [← hW0]
    clear hW0
    refine (HN.out _).mono ?_
    rintro e w1 ⟨rfl, hb1⟩
    have HH1 : Hid (Below W0.heap.size W0 w1) := hb1
    clear hb1
    go_wp2_with fail
    refine (HC.out _ HH1.out).mono ?_
    rintro e w2 ⟨rfl, hb2⟩
    have HH2 : Hid (Below W0.heap.size W0 w2) := HH1.out.trans (hb2.mono HH1.out.size)
    clear hb2
    obtain ⟨i0, i1, i2⟩ := HId3.out _ HH2.out
    go_wp2_with fail
    refine (HI.out _).mono ?_
    rintro e w3 ⟨rfl, hb3⟩
    have HH3 : Hid (Below W0.heap.size W0 w3) := HH2.out.trans (hb3.mono HH2.out.size)
    clear hb3 i0 i1 i2
    obtain ⟨⟨e0, e1, e2, e3⟩, e4, e5, e6, e7⟩ := HZ.out _ HH3.out
    have f0 := HF1.out _ HH3.out
    have HB : Hid (Below w.heap.size w w3) := HBw.out _ HH3.out
    have HEnd : Hid (∀ u0 u1 u2 u3 u4 u5 u6 u7, MkP (zT, 1) w (.returned (.tuple #[tyV zT (.slice none 0 0) (.slice none 0 0) (.slice none 0 0), .int .i64 1])) ((((((((w3.setCell ⟨w.heap.size + 1, 0, none⟩ u0).setCell ⟨w.heap.size + 1, 1, none⟩ u1).setCell ⟨w.heap.size + 1, 2, none⟩ u2).setCell ⟨w.heap.size + 1, 3, none⟩ u3).setCell ⟨w.heap.size + 1, 4, none⟩ u4).setCell ⟨w.heap.size + 1, 5, none⟩ u5).setCell ⟨w.heap.size + 1, 6, none⟩ u6).setCell ⟨w.heap.size + 1, 7, none⟩ u7)) := fun u0 u1 u2 u3 u4 u5 u6 u7 => MkP.zero 1 (below8 HB.out (Nat.le_add_right _ 1) u0 u1 u2 u3 u4 u5 u6 u7)
    clear HZ HF1 HBw HN HC HId3 HI
    go_wp2_with fail
    try simp only [Exit.inBlock, Exit.then]
    refine bodyPost_ret (v := .tuple #[tyV zT (.slice none 0 0) (.slice none 0 0) (.slice none 0 0), .int .i64 1]) ?_ rfl (HEnd.out _ _ _ _ _ _ _ _)
    rw [results_c2 rfl]; go_simp
    exact ⟨rfl, rfl, rfl, rfl, rfl⟩
  rw [hi] at HI
  rw [if_pos rfl]
  clear hR hc hi
  go_enter Tryz.func25, Tryz.ntmps25
  go_wp2_with fail
  rw [← hW0]
  clear hW0
  refine (HN.out _).mono ?_
  rintro e w1 ⟨rfl, hb1⟩
  have HH1 : Hid (Below W0.heap.size W0 w1) := hb1
  clear hb1
  go_wp2_with fail
  refine (HC.out _ HH1.out).mono ?_
  rintro e w2 ⟨rfl, hb2⟩
  have HH2 : Hid (Below W0.heap.size W0 w2) := HH1.out.trans (hb2.mono HH1.out.size)
  clear hb2
  obtain ⟨i0, i1, i2⟩ := HId3.out _ HH2.out
  go_wp2_with fail
  refine (HI.out _).mono ?_
  rintro e w3 ⟨rfl, hb3⟩
  have HH3 : Hid (Below W0.heap.size W0 w3) := HH2.out.trans (hb3.mono HH2.out.size)
  clear hb3 i0 i1 i2
  have HSz : Hid (∀ W, Below W0.heap.size W0 W → w.heap.size + 1 < W.heap.size ∧ w.heap.size < W.heap.size) := fun W h => by have := h.size; omega
  have HR1 : Hid (Below W0.heap.size W0 w3.drew) := HH3.out.drew
  have HR3 : Hid (∀ W o, Below W0.heap.size W0 W → Below W0.heap.size W0 (W.alloc o)) := fun W o h => h.trans ((al_b _ o).mono h.size)
  have HFin : Hid (∀ (wA wB wE : World) (x1 : Option Addr) (y1 : Nat) (x2 : Option Addr) (y2 : Nat) (g : Nat), Hid (wA.ownsRow W0.heap.size 95 3 (.slice x1 own.length y1) own.length (fCells own)) → Hid (wB.ownsRow W0.heap.size 95 3 (.slice x2 own.length y2) own.length (fCells own)) → Below wA.heap.size wA wE → Below wB.heap.size wB wE → wE.heap[g]? = some (.cells #[.string s] 9 (0, 0)) → W0.heap.size ≤ g → Below W0.heap.size W0 wE → CtR w ⟨s, ⟨#[]⟩, own, own, [s], a, b, c⟩ ((((((((wE.setCell ⟨w.heap.size + 1, 0, none⟩ (.string s)).setCell ⟨w.heap.size + 1, 1, none⟩ (.string ⟨#[]⟩)).setCell ⟨w.heap.size + 1, 2, none⟩ (.slice x1 own.length y1)).setCell ⟨w.heap.size + 1, 3, none⟩ (.slice x2 own.length y2)).setCell ⟨w.heap.size + 1, 4, none⟩ (.slice (some ⟨g, 0, none⟩) 1 1)).setCell ⟨w.heap.size + 1, 5, none⟩ (.int .i64 a)).setCell ⟨w.heap.size + 1, 6, none⟩ (.int .i64 b)).setCell ⟨w.heap.size + 1, 7, none⟩ (.int .i64 c))) := fun wA wB wE x1 y1 x2 y2 g o1 o2 bA bB hg hg0 hE => by
    have hN : NewT (w.heap.size + 2) ⟨⟨s, ⟨#[]⟩, own, own, [s], a, b, c⟩, x1, y1, x2, y2, some ⟨g, 0, none⟩, 1⟩ := ⟨(NewA.own o1.out).le (by omega), (NewA.own o2.out).le (by omega), fun g' e => by obtain rfl := Option.some.inj e; show _ ≤ g; omega⟩
    have hT : IsTy wE (⟨s, ⟨#[]⟩, own, own, [s], a, b, c⟩ : Ty) (.slice x1 own.length y1) (.slice x2 own.length y2) (.slice (some ⟨g, 0, none⟩) 1 1) := ⟨(IsRow.own o1.out).below bA, (IsRow.own o2.out).below bB, row_one hg⟩
    exact ⟨⟨⟨s, ⟨#[]⟩, own, own, [s], a, b, c⟩, x1, y1, x2, y2, some ⟨g, 0, none⟩, 1⟩, rfl, ty_far8 (y := ⟨⟨s, ⟨#[]⟩, own, own, [s], a, b, c⟩, x1, y1, x2, y2, some ⟨g, 0, none⟩, 1⟩) hT hN (by omega) _ _ _ _ _ _ _ _, hN, below8 (HBw.out _ hE) (Nat.le_add_right _ 1) _ _ _ _ _ _ _ _, (HZ.out _ hE).put8 ⟨s, ⟨#[]⟩, own, own, [s], a, b, c⟩ _ _ _⟩
  have HG1 : Hid (∀ wd w4 w5 : World, Below (wd.alloc (.cells #[.string s] 9)).heap.size (wd.alloc (.cells #[.string s] 9)) w4 → Below w4.heap.size w4 w5 → w5.heap[wd.heap.size]? = some (.cells #[.string s] 9 (0, 0))) := fun wd w4 w5 h1 h2 => by
    have e0 : (wd.alloc (.cells #[.string s] 9)).heap[wd.heap.size]? = some (.cells #[.string s] 9 (0, 0)) := new_at wd _
    have hl := (Array.getElem?_eq_some_iff.1 e0).1
    have e1 := (h1.block _ hl).trans e0
    exact (h2.block _ (Array.getElem?_eq_some_iff.1 e1).1).trans e1
  have HG2 : Hid (∀ w4 w5 : World, Below (w4.alloc (.cells #[.string s] 9)).heap.size (w4.alloc (.cells #[.string s] 9)) w5 → w5.heap[w4.heap.size]? = some (.cells #[.string s] 9 (0, 0))) := fun w4 w5 h1 => by
    have e0 : (w4.alloc (.cells #[.string s] 9)).heap[w4.heap.size]? = some (.cells #[.string s] 9 (0, 0)) := new_at w4 _
    exact (h1.block _ (Array.getElem?_eq_some_iff.1 e0).1).trans e0
  have HG3 : Hid (∀ w5 : World, (w5.alloc (.cells #[.string s] 9)).heap[w5.heap.size]? = some (.cells #[.string s] 9 (0, 0))) := fun w5 => new_at w5 _
  have HT2 : Hid (∀ (w4 w5 : World) (o : Obj), Below (w4.alloc o).heap.size (w4.alloc o) w5 → Below w4.heap.size w4 w5) := fun w4 w5 o h => (al_b w4 o).trans (h.mono (al_b w4 o).size)
  have HT3 : Hid (∀ (w4 w5 : World) (o : Obj), Below w4.heap.size w4 w5 → Below w4.heap.size w4 (w5.alloc o)) := fun w4 w5 o h => h.trans ((al_b w5 o).mono h.size)
  have HK8 : Hid (∀ WE : World, (WE.cell? ⟨w.heap.size, 0, none⟩ = some (.int .i64 a) ∧ WE.cell? ⟨w.heap.size, 1, none⟩ = some (.int .i64 b) ∧ WE.cell? ⟨w.heap.size, 2, none⟩ = some (.int .i64 c)) → ∀ u0 u1 u2 u3 u4 u5 u6 u7, ((((((((WE.setCell ⟨w.heap.size + 1, 0, none⟩ u0).setCell ⟨w.heap.size + 1, 1, none⟩ u1).setCell ⟨w.heap.size + 1, 2, none⟩ u2).setCell ⟨w.heap.size + 1, 3, none⟩ u3).setCell ⟨w.heap.size + 1, 4, none⟩ u4).setCell ⟨w.heap.size + 1, 5, none⟩ u5).setCell ⟨w.heap.size + 1, 6, none⟩ u6).setCell ⟨w.heap.size + 1, 7, none⟩ u7).cell? ⟨w.heap.size, 0, none⟩ = some (.int .i64 a) ∧ ((((((((WE.setCell ⟨w.heap.size + 1, 0, none⟩ u0).setCell ⟨w.heap.size + 1, 1, none⟩ u1).setCell ⟨w.heap.size + 1, 2, none⟩ u2).setCell ⟨w.heap.size + 1, 3, none⟩ u3).setCell ⟨w.heap.size + 1, 4, none⟩ u4).setCell ⟨w.heap.size + 1, 5, none⟩ u5).setCell ⟨w.heap.size + 1, 6, none⟩ u6).setCell ⟨w.heap.size + 1, 7, none⟩ u7).cell? ⟨w.heap.size, 1, none⟩ = some (.int .i64 b) ∧ ((((((((WE.setCell ⟨w.heap.size + 1, 0, none⟩ u0).setCell ⟨w.heap.size + 1, 1, none⟩ u1).setCell ⟨w.heap.size + 1, 2, none⟩ u2).setCell ⟨w.heap.size + 1, 3, none⟩ u3).setCell ⟨w.heap.size + 1, 4, none⟩ u4).setCell ⟨w.heap.size + 1, 5, none⟩ u5).setCell ⟨w.heap.size + 1, 6, none⟩ u6).setCell ⟨w.heap.size + 1, 7, none⟩ u7).cell? ⟨w.heap.size, 2, none⟩ = some (.int .i64 c)) := fun WE h u0 u1 u2 u3 u4 u5 u6 u7 => by
    have o : ∀ (W : World) (j k : Nat) (v : Value), (W.setCell ⟨w.heap.size + 1, j, none⟩ v).cell? ⟨w.heap.size, k, none⟩ = W.cell? ⟨w.heap.size, k, none⟩ := fun W j k v => World.cell?_setCell_other _ _ _ _ (by simp only [ne_eq, Addr.mk.injEq, not_and]; intro e; omega)
    simp only [o]
    exact h
  go_wp2_with fail
  go_cut [7] (fun e0 wx => e0 = .int .i64 0 ∧ CtR w ⟨s, ⟨#[]⟩, own, own, [s], a, b, c⟩ wx)
  case first =>
    refine wp_region_held_drew (S := fun w' => w'.cell? ⟨w.heap.size, 0, none⟩ = some (.int .i64 a) ∧ w'.cell? ⟨w.heap.size, 1, none⟩ = some (.int .i64 b) ∧ w'.cell? ⟨w.heap.size, 2, none⟩ = some (.int .i64 c)) (by kernel_rfl) (HId3.out _ HR1.out) (fun hHeld => ?_)
    generalize w3.drew = wd at *
    refine wpAnyH_take (i := 0) (v := ?_) rfl (by kernel_rfl) (by kernel_rfl) (by kernel_rfl) (fun _ _ _ h => h) (Or.inl ⟨by rfl, ?_⟩) hHeld ?_
    rotate_left 1
    · intro w9 hSw; obtain ⟨g0, g1, g2⟩ := hSw; go_simp; try with_reducible rfl
    change wpAnyH _ _ _ _ _ _ _ (Act.put _ (some 24) _) _
    simp only [Act.put, List.setIfInBounds_toArray, List.set_cons_zero, List.set_cons_succ]
    refine wpAnyH_take (i := 1) (v := ?_) rfl (by kernel_rfl) (by kernel_rfl) (by kernel_rfl) (fun _ _ _ h => h) (Or.inl ⟨by rfl, ?_⟩) hHeld ?_
    rotate_left 1
    · intro w9 hSw; obtain ⟨g0, g1, g2⟩ := hSw; go_simp; try with_reducible rfl
    change wpAnyH _ _ _ _ _ _ _ (Act.put _ (some 25) _) _
    simp only [Act.put, List.setIfInBounds_toArray, List.set_cons_zero, List.set_cons_succ]
    refine wpAnyH_take (i := 3) (v := ?_) rfl (by kernel_rfl) (by kernel_rfl) (by kernel_rfl) (fun _ _ _ h => h) (Or.inl ⟨by rfl, ?_⟩) hHeld ?_
    rotate_left 1
    · intro w9 hSw; obtain ⟨g0, g1, g2⟩ := hSw; go_simp; try with_reducible rfl
    change wpAnyH _ _ _ _ _ _ _ (Act.put _ (some 27) _) _
    simp only [Act.put, List.setIfInBounds_toArray, List.set_cons_zero, List.set_cons_succ]
    refine wpAnyH_take (i := 5) (v := ?_) rfl (by kernel_rfl) (by kernel_rfl) (by kernel_rfl) (fun _ _ _ h => h) (Or.inl ⟨by rfl, ?_⟩) hHeld ?_
    rotate_left 1
    · intro w9 hSw; obtain ⟨g0, g1, g2⟩ := hSw; go_simp; try with_reducible rfl
    change wpAnyH _ _ _ _ _ _ _ (Act.put _ (some 29) _) _
    simp only [Act.put, List.setIfInBounds_toArray, List.set_cons_zero, List.set_cons_succ]
    refine wpAnyH_take (i := 7) (v := ?_) rfl (by kernel_rfl) (by kernel_rfl) (by kernel_rfl) (fun _ _ _ h => h) (Or.inl ⟨by rfl, ?_⟩) hHeld ?_
    rotate_left 1
    · intro w9 hSw; obtain ⟨g0, g1, g2⟩ := hSw; go_simp; try with_reducible rfl
    change wpAnyH _ _ _ _ _ _ _ (Act.put _ (some 31) _) _
    simp only [Act.put, List.setIfInBounds_toArray, List.set_cons_zero, List.set_cons_succ]
    refine wpAnyH_ready (rs := [2, 6]) (by kernel_rfl) (by simp) ?_
    refine AllReadyH.cons rfl (fun K hK => ?_) (AllReadyH.cons rfl (fun K hK => ?_) AllReadyH.nil)
    · go_simp
      refine (HCl.out _ (HR1.out)).mono ?_
      rintro e w4 ⟨x1, y1, rfl, HO1, hb4, hc4⟩
      go_simp
      refine hK.out _ _ (HId3.out _ hb4) (fun hHeld => ?_)
      clear hK K
      refine wpAnyH_ready (rs := [4, 6]) (by kernel_rfl) (by simp) ?_
      refine AllReadyH.cons rfl (fun K hK => ?_) (AllReadyH.cons rfl (fun K hK => ?_) AllReadyH.nil)
      · go_simp
        refine (HCl.out _ (hb4)).mono ?_
        rintro e w5 ⟨x2, y2, rfl, HO2, hb5, hc5⟩
        go_simp
        refine hK.out _ _ (HId3.out _ hb5) (fun hHeld => ?_)
        clear hK K
        refine wpAnyH_ready (rs := [6]) (by kernel_rfl) (by simp) ?_
        refine AllReadyH.cons rfl (fun K hK => ?_) AllReadyH.nil
        go_simp
        refine hK.out _ _ (HId3.out _ (HR3.out _ _ (hb5))) (fun hHeld => ?_)
        clear hK K
        refine wpAnyH_take (i := 8) (v := ?_) rfl (by kernel_rfl) (by kernel_rfl) (by kernel_rfl) (fun _ _ _ h => h) (Or.inl ⟨by rfl, ?_⟩) hHeld ?_
        rotate_left 1
        · intro w9 hSw; obtain ⟨g0, g1, g2⟩ := hSw; go_simp; try with_reducible rfl
        change wpAnyH _ _ _ _ _ _ _ (Act.put _ (some 32) _) _
        simp only [Act.put, List.setIfInBounds_toArray, List.set_cons_zero, List.set_cons_succ]
        obtain ⟨⟨m0, m1, m2, m3⟩, m4, m5, m6, m7⟩ := HZ.out _ (HR3.out w5 (.cells #[.string s] 9) hb5)
        have mf := HF1.out _ (HR3.out w5 (.cells #[.string s] 9) hb5)
        obtain ⟨ms1, ms2⟩ := HSz.out _ (HR3.out w5 (.cells #[.string s] 9) hb5)
        have HCt : Hid _ := HFin.out w4 w5 (w5.alloc (.cells #[.string s] 9)) x1 y1 x2 y2 w5.heap.size HO1 HO2 (HT3.out _ _ _ hc5) (al_b w5 _) (HG3.out w5) hb5.size (HR3.out _ _ hb5)
        have HB9 : Hid (Below W0.heap.size W0 (w5.alloc (.cells #[.string s] 9))) := HR3.out w5 (.cells #[.string s] 9) hb5
        have HC3 := HId3.out _ HB9.out
        generalize (w5.alloc (.cells #[.string s] 9)) = WE at *
        refine wpAnyH_ready (rs := [9]) (by kernel_rfl) (by simp) ?_
        refine AllReadyH.cons rfl (fun K hK => ?_) AllReadyH.nil
        go_simp
        refine hK.out _ _ (HK8.out WE HC3 _ _ _ _ _ _ _ _) (fun hHeld => ?_)
        clear hK K
        refine wpAnyH_ready (rs := [10]) (by kernel_rfl) (by simp) ?_
        refine AllReadyH.cons rfl (fun K hK => ?_) AllReadyH.nil
        go_simp
        refine hK.out _ _ hHeld (fun hHeld => ?_)
        clear hK K
        refine wpAnyH_done (by kernel_rfl) ?_ _
        try go_wp2_with fail
        go_meet
        exact ⟨rfl, HCt.out⟩
      · go_simp
        refine hK.out _ _ (HId3.out _ (HR3.out _ _ (hb4))) (fun hHeld => ?_)
        clear hK K
        refine wpAnyH_ready (rs := [4]) (by kernel_rfl) (by simp) ?_
        refine AllReadyH.cons rfl (fun K hK => ?_) AllReadyH.nil
        go_simp
        refine (HCl.out _ (HR3.out _ _ hb4)).mono ?_
        rintro e w5 ⟨x2, y2, rfl, HO2, hb5, hc5⟩
        go_simp
        refine hK.out _ _ (HId3.out _ hb5) (fun hHeld => ?_)
        clear hK K
        refine wpAnyH_take (i := 8) (v := ?_) rfl (by kernel_rfl) (by kernel_rfl) (by kernel_rfl) (fun _ _ _ h => h) (Or.inl ⟨by rfl, ?_⟩) hHeld ?_
        rotate_left 1
        · intro w9 hSw; obtain ⟨g0, g1, g2⟩ := hSw; go_simp; try with_reducible rfl
        change wpAnyH _ _ _ _ _ _ _ (Act.put _ (some 32) _) _
        simp only [Act.put, List.setIfInBounds_toArray, List.set_cons_zero, List.set_cons_succ]
        obtain ⟨⟨m0, m1, m2, m3⟩, m4, m5, m6, m7⟩ := HZ.out _ (hb5)
        have mf := HF1.out _ (hb5)
        obtain ⟨ms1, ms2⟩ := HSz.out _ (hb5)
        have HCt : Hid _ := HFin.out w4 w5 w5 x1 y1 x2 y2 w4.heap.size HO1 HO2 (HT2.out _ _ _ hc5) (Below.refl _ _) (HG2.out _ _ hc5) hb4.size hb5
        have HB9 : Hid (Below W0.heap.size W0 w5) := hb5
        have HC3 := HId3.out _ HB9.out
        obtain ⟨WE, rfl⟩ : ∃ WE, WE = w5 := ⟨_, rfl⟩
        refine wpAnyH_ready (rs := [9]) (by kernel_rfl) (by simp) ?_
        refine AllReadyH.cons rfl (fun K hK => ?_) AllReadyH.nil
        go_simp
        refine hK.out _ _ (HK8.out WE HC3 _ _ _ _ _ _ _ _) (fun hHeld => ?_)
        clear hK K
        refine wpAnyH_ready (rs := [10]) (by kernel_rfl) (by simp) ?_
        refine AllReadyH.cons rfl (fun K hK => ?_) AllReadyH.nil
        go_simp
        refine hK.out _ _ hHeld (fun hHeld => ?_)
        clear hK K
        refine wpAnyH_done (by kernel_rfl) ?_ _
        try go_wp2_with fail
        go_meet
        exact ⟨rfl, HCt.out⟩
    · go_simp
      refine hK.out _ _ (HId3.out _ (HR3.out _ _ (HR1.out))) (fun hHeld => ?_)
      clear hK K
      refine wpAnyH_ready (rs := [2]) (by kernel_rfl) (by simp) ?_
      refine AllReadyH.cons rfl (fun K hK => ?_) AllReadyH.nil
      go_simp
      refine (HCl.out _ (HR3.out _ _ HR1.out)).mono ?_
      rintro e w4 ⟨x1, y1, rfl, HO1, hb4, hc4⟩
      go_simp
      refine hK.out _ _ (HId3.out _ hb4) (fun hHeld => ?_)
      clear hK K
      refine wpAnyH_ready (rs := [4]) (by kernel_rfl) (by simp) ?_
      refine AllReadyH.cons rfl (fun K hK => ?_) AllReadyH.nil
      go_simp
      refine (HCl.out _ (hb4)).mono ?_
      rintro e w5 ⟨x2, y2, rfl, HO2, hb5, hc5⟩
      go_simp
      refine hK.out _ _ (HId3.out _ hb5) (fun hHeld => ?_)
      clear hK K
      refine wpAnyH_take (i := 8) (v := ?_) rfl (by kernel_rfl) (by kernel_rfl) (by kernel_rfl) (fun _ _ _ h => h) (Or.inl ⟨by rfl, ?_⟩) hHeld ?_
      rotate_left 1
      · intro w9 hSw; obtain ⟨g0, g1, g2⟩ := hSw; go_simp; try with_reducible rfl
      change wpAnyH _ _ _ _ _ _ _ (Act.put _ (some 32) _) _
      simp only [Act.put, List.setIfInBounds_toArray, List.set_cons_zero, List.set_cons_succ]
      obtain ⟨⟨m0, m1, m2, m3⟩, m4, m5, m6, m7⟩ := HZ.out _ (hb5)
      have mf := HF1.out _ (hb5)
      obtain ⟨ms1, ms2⟩ := HSz.out _ (hb5)
      have HCt : Hid _ := HFin.out w4 w5 w5 x1 y1 x2 y2 wd.heap.size HO1 HO2 hc5 (Below.refl _ _) (HG1.out wd w4 w5 hc4 hc5) HR1.out.size hb5
      have HB9 : Hid (Below W0.heap.size W0 w5) := hb5
      have HC3 := HId3.out _ HB9.out
      obtain ⟨WE, rfl⟩ : ∃ WE, WE = w5 := ⟨_, rfl⟩
      refine wpAnyH_ready (rs := [9]) (by kernel_rfl) (by simp) ?_
      refine AllReadyH.cons rfl (fun K hK => ?_) AllReadyH.nil
      go_simp
      refine hK.out _ _ (HK8.out WE HC3 _ _ _ _ _ _ _ _) (fun hHeld => ?_)
      clear hK K
      refine wpAnyH_ready (rs := [10]) (by kernel_rfl) (by simp) ?_
      refine AllReadyH.cons rfl (fun K hK => ?_) AllReadyH.nil
      go_simp
      refine hK.out _ _ hHeld (fun hHeld => ?_)
      clear hK K
      refine wpAnyH_done (by kernel_rfl) ?_ _
      try go_wp2_with fail
      go_meet
      exact ⟨rfl, HCt.out⟩
  case rest =>
    obtain ⟨rfl, y, hy, HT, HN1, HB1, HX1⟩ := hcut
    obtain ⟨⟨c0, c1, c2, c3⟩, c4, c5, c6, c7⟩ := HX1.out
    have HEnd : Hid (MkP (⟨s, ⟨#[]⟩, own, own, [s], a, b, c⟩, 0) w (.returned (.tuple #[ltV y, .int .i64 0])) wc) := ⟨y, rfl, hy, HT.out, HN1.out.le (by omega), HB1.out⟩
    clear HX1 HT HN1 HB1 HFin HG1 HG2 HG3 HT2 HT3 HR1 HR3 HSz HZ HF1 HBw HN HC HI HCl HId3 HK8 hy
    go_wp2_with fail
    try simp only [Exit.inBlock, Exit.then]
    refine bodyPost_ret (v := .tuple #[ltV y, .int .i64 0]) ?_ rfl HEnd.out
    rw [results_c2 rfl]; go_simp
end Go.Proofs.YthdbnlpbidkojaaGreatDoor
/- forest.Of: its walk. -/
namespace Go.Proofs.YthdbnlpbidkojaaGreatDoor
open Go.RowKit Go.ChangeMaps

end Go.Proofs.YthdbnlpbidkojaaGreatDoor
/- slices.Grow of nothing, slices.Concat of two rows of names: walks. -/
namespace Go.Proofs.YthdbnlpbidkojaaGreatDoor
open Go.RowKit Go.ChangeMaps

end Go.Proofs.YthdbnlpbidkojaaGreatDoor
/- What is made can be added: plain mathematics of forests. -/
namespace Go.Proofs.YthdbnlpbidkojaaGreatDoor
open Go.RowKit

end Go.Proofs.YthdbnlpbidkojaaGreatDoor
/- forest.Below: its walk. -/
namespace Go.Proofs.YthdbnlpbidkojaaGreatDoor
open Go.RowKit Go.ChangeMaps

end Go.Proofs.YthdbnlpbidkojaaGreatDoor
/- forest.isBelow: its walk. -/
namespace Go.Proofs.YthdbnlpbidkojaaGreatDoor
open Go.RowKit Go.ChangeMaps

end Go.Proofs.YthdbnlpbidkojaaGreatDoor
/- forest.Is: its walk. -/
namespace Go.Proofs.YthdbnlpbidkojaaGreatDoor
open Go.RowKit Go.ChangeMaps

end Go.Proofs.YthdbnlpbidkojaaGreatDoor
/- forest.Make: its walk. -/
namespace Go.Proofs.YthdbnlpbidkojaaGreatDoor
open Go.RowKit Go.ChangeMaps

end Go.Proofs.YthdbnlpbidkojaaGreatDoor
/- forest.copied: a walk. -/
namespace Go.Proofs.YthdbnlpbidkojaaGreatDoor
open Go.RowKit Go.ChangeMaps

theorem results_c1 {fn : Func} {p : Tmp} {ty : TypeId} (h : fn.results = #[.cell p ty]) (tmps : Array Value) (P : Program) (w : World) :
    (results fn tmps).run P w = ((asAddr (tmps.getD p undef)).run P w).andThen fun a w₁ => (loadVar ty a).run P w₁ := by
  simp only [results, h]
  simp [Sem.run_bind, Result.andThen]
/-- Behind the three stores. -/
def CtT (w : World) (t : Ty) (wx : World) : Prop := ∃ x1 y1 x2 y2 x3 y3, Hid (OwnTy (w.heap.size + 2) wx t (.slice x1 t.own.length y1) (.slice x2 t.all.length y2) (.slice x3 t.ch.length y3)) ∧ Hid (Below w.heap.size w wx) ∧ Hid (BxT w.heap.size t (.slice x1 t.own.length y1) (.slice x2 t.all.length y2) (.slice x3 t.ch.length y3) wx) ∧ Hid (∀ j, wx.frozen? ⟨w.heap.size + 1, j, none⟩ = false) ∧ Hid (BxT (w.heap.size + 1) ⟨⟨#[]⟩, ⟨#[]⟩, [], [], [], 0, 0, 0⟩ (.slice none 0 0) (.slice none 0 0) (.slice none 0 0) wx)
end Go.Proofs.YthdbnlpbidkojaaGreatDoor
/- forest.Find: its walk. -/
namespace Go.Proofs.YthdbnlpbidkojaaGreatDoor
open Go.RowKit Go.ChangeMaps

end Go.Proofs.YthdbnlpbidkojaaGreatDoor
/- forest.allCopied: its walk. -/
namespace Go.Proofs.YthdbnlpbidkojaaGreatDoor
open Go.RowKit Go.ChangeMaps

end Go.Proofs.YthdbnlpbidkojaaGreatDoor
/- slices.Insert of one type into a row without room: its walk. -/
namespace Go.Proofs.YthdbnlpbidkojaaGreatDoor
open Go.RowKit Go.ChangeMaps

def insL (M : List LT) (i : Nat) (y : LT) : List LT := M.take i ++ y :: M.drop i
theorem tys_insL (M : List LT) (i : Nat) (y : LT) : tys (insL M i y) = insT (tys M) i y.t := by simp [tys, insL, insT]
def InP (M : List LT) (i : Nat) (y : LT) (w : World) (e : Ending) (w' : World) : Prop := ∃ c, e = .returned (.slice (some ⟨w.heap.size, 0, none⟩) (M.length + 1) c) ∧ IsRow w' 8 (.slice (some ⟨w.heap.size, 0, none⟩) (M.length + 1) c) (M.length + 1) (tCells (insL M i y)) ∧ Below w.heap.size w w'
end Go.Proofs.YthdbnlpbidkojaaGreatDoor
/- forest.Add: its walk. -/
namespace Go.Proofs.YthdbnlpbidkojaaGreatDoor
open Go.RowKit Go.ChangeMaps

def AdP (r : List Ty × Int) (w : World) (e : Ending) (w' : World) : Prop := ∃ (sa : Option Addr) (sc : Nat) (K : List LT), e = .returned (.tuple #[.slice sa K.length sc, .int .i64 r.2]) ∧ tys K = r.1 ∧ IsTys w' (.slice sa K.length sc) K ∧ Below w.heap.size w w'
theorem AdP.ok {L M : List LT} {x y : LT} {w W0 wd w6 w7 w9 : World} {e : Ending} {k : Nat} (hB : ∀ W, Below W0.heap.size W0 W → Below w.heap.size w W) (hd : Below W0.heap.size W0 wd) (hM : tys M = tys L) (hMI : ∀ y ∈ M, IsTy w6 y.t y.vo y.va y.vc) (h6 : Below wd.heap.size wd w6) (hy : y.t = x.t) (hyI : IsTy w7 y.t y.vo y.va y.vc) (h7 : Below w6.heap.size w6 w7) (hi : InP M k y (w7.alloc (.cells (tyA y.t y.vo y.va y.vc) 35)) e w9) :
    ∃ sa sc, e = .returned (.slice sa (M.length + 1) sc) ∧ AdP (insT (tys L) k x.t, 0) w (.returned (.tuple #[.slice sa (M.length + 1) sc, .int .i64 0])) w9 := by
  obtain ⟨c, rfl, hrow, hb9⟩ := hi
  have hal := al_b w7 (.cells (tyA y.t y.vo y.va y.vc) 35)
  have b79 : Below w7.heap.size w7 w9 := hal.trans (hb9.mono hal.size)
  have b69 : Below w6.heap.size w6 w9 := h7.trans (b79.mono h7.size)
  have bd9 : Below wd.heap.size wd w9 := h6.trans (b69.mono h6.size)
  have hlen : (insL M k y).length = M.length + 1 := by
    unfold insL
    rw [List.length_append, List.length_cons, List.length_take, List.length_drop]
    omega
  refine ⟨_, c, rfl, _, c, insL M k y, by rw [hlen], by rw [tys_insL, hM, hy], ⟨by rw [hlen]; exact hrow, fun z hz => ?_⟩, hB _ (hd.trans (bd9.mono hd.size))⟩
  have hz' : z = y ∨ z ∈ M := by
    unfold insL at hz
    rcases List.mem_append.1 hz with h | h
    · exact .inr (List.mem_of_mem_take h)
    · rcases List.mem_cons.1 h with h | h
      · exact .inl h
      · exact .inr (List.mem_of_mem_drop h)
  rcases hz' with rfl | hz'
  · exact hyI.below b79
  · exact (hMI z hz').below b69
end Go.Proofs.YthdbnlpbidkojaaGreatDoor
/- law05's one and Few: walks. -/
namespace Go.Proofs.YthdbnlpbidkojaaGreatDoor
open Go.RowKit Go.ChangeMaps

/-- Is a type not more than statements go through? -/
def oneB (t : Ty) : Bool := decide (t.n.size ≤ 200) && (decide (t.p.size ≤ 200) && (decide (t.ch.length ≤ 12) && (decide (∀ s ∈ t.ch, s.size ≤ 200) && (fewF t.own && fewF t.all))))
/-- A type that came in. -/
def InT (t : Ty) : Prop := t.own.length ≤ 140737488355328 ∧ t.all.length ≤ 140737488355328 ∧ t.ch.length ≤ 140737488355328
set_option maxRecDepth 100000 in
set_option maxHeartbeats 4000000 in
theorem one_any (x : LT) (w : World) (hr : IsTy w x.t x.vo x.va x.vc) (hl : InT x.t) :
    Calls Tryz.prog 39 #[ltV x] w fun e w' => e = .returned (.bool (oneB x.t)) ∧ Below w.heap.size w w' := by
  obtain ⟨W0, hW0⟩ : ∃ W0, W0 = w.alloc (.cells (tyA x.t x.vo x.va x.vc) 35) := ⟨_, rfl⟩
  have hA : Below w.heap.size w W0 := by rw [hW0]; exact al_b w _
  have hn0 : W0.heap[w.heap.size]? = some (.cells (tyA x.t x.vo x.va x.vc) 35 (0, 0)) := by rw [hW0]; exact new_at w _
  obtain ⟨⟨g0, g1, g2, g3⟩, g4, g5, g6, g7⟩ := BxT.of hn0
  have HB : Hid (Below w.heap.size w W0) := hA
  have HF1 : Hid (Calls Tryz.prog 68 #[x.vo] W0 fun e w' => e = .returned (.bool (fewF x.t.own)) ∧ w' = W0) := fewF_any _ x.t.own _ (hr.1.below hA) hl.1
  have HF2 : Hid (Calls Tryz.prog 68 #[x.va] W0 fun e w' => e = .returned (.bool (fewF x.t.all)) ∧ w' = W0) := fewF_any _ x.t.all _ (hr.2.1.below hA) hl.2.1
  have HR : Hid (IsRow W0 1 x.vc x.t.ch.length (sVals x.t.ch)) := hr.2.2.below hA
  have HD : Hid (oneB x.t = (decide (x.t.n.size ≤ 200) && (decide (x.t.p.size ≤ 200) && (decide (x.t.ch.length ≤ 12) && (decide (∀ s ∈ x.t.ch, s.size ≤ 200) && (fewF x.t.own && fewF x.t.all)))))) := rfl
  generalize oneB x.t = R at *
  generalize fewF x.t.own = F1 at *
  generalize fewF x.t.all = F2 at *
  clear hr hl hn0 hA
  by_cases h1 : x.t.n.size ≤ 200
  rotate_left
  · have hR : R = false := by rw [HD.out, decide_eq_false h1, Bool.false_and]
    have d1 : decide ((200 : Int) < (x.t.n.size : Int)) = true := by simp; omega
    subst hR
    clear HD HF1 HF2 HR h1
    go_enter Tryz.func39, Tryz.ntmps39
    go_wp2_with fail
    rw [← hW0]
    clear hW0
    go_wp2
    go_ret
    exact ⟨rfl, HB.out⟩
  have d1 : decide ((200 : Int) < (x.t.n.size : Int)) = false := by simp; omega
  by_cases h2 : x.t.p.size ≤ 200
  rotate_left
  · have hR : R = false := by rw [HD.out, decide_eq_false h2, Bool.false_and, Bool.and_false]
    have d2 : decide ((200 : Int) < (x.t.p.size : Int)) = true := by simp; omega
    subst hR
    clear HD HF1 HF2 HR h1 h2
    go_enter Tryz.func39, Tryz.ntmps39
    go_wp2_with fail
    rw [← hW0]
    clear hW0
    go_wp2
    go_ret
    exact ⟨rfl, HB.out⟩
  have d2 : decide ((200 : Int) < (x.t.p.size : Int)) = false := by simp; omega
  by_cases h3 : x.t.ch.length ≤ 12
  rotate_left
  · have hR : R = false := by rw [HD.out, decide_eq_false h3, Bool.false_and, Bool.and_false, Bool.and_false]
    have d3 : decide ((12 : Int) < (x.t.ch.length : Int)) = true := by simp; omega
    subst hR
    clear HD HF1 HF2 HR h1 h2 h3
    go_enter Tryz.func39, Tryz.ntmps39
    go_wp2_with fail
    rw [← hW0]
    clear hW0
    go_wp2
    go_ret
    exact ⟨rfl, HB.out⟩
  have d3 : decide ((12 : Int) < (x.t.ch.length : Int)) = false := by simp; omega
  have HD1 : Hid (R = (decide (∀ s ∈ x.t.ch, s.size ≤ 200) && (F1 && F2))) := by show _ = _; rw [HD.out, decide_eq_true h1, decide_eq_true h2, decide_eq_true h3, Bool.true_and, Bool.true_and, Bool.true_and]
  clear HD h1 h2
  go_enter Tryz.func39, Tryz.ntmps39
  go_wp2_with fail
  rw [← hW0]
  clear hW0
  go_wp2_with fail
  go_loopw [3] (fun i wr => ∃ k : Nat, k ≤ x.t.ch.length ∧ i = .int .i64 (k : Int) ∧ Hid (∀ (j : Nat) (h : j < x.t.ch.length), j < k → x.t.ch[j].size ≤ 200) ∧ W0 = wr) (fun i _ => x.t.ch.length - (intOf i).toNat)
  case atStart => exact ⟨0, Nat.zero_le _, rfl, (fun j h hj => absurd hj (Nat.not_lt_zero _)), rfl⟩
  case round =>
    obtain ⟨k, hk, rfl, HO, rfl⟩ := hrel
    by_cases hlk : k < x.t.ch.length
    · have dk : decide ((k : Int) < (x.t.ch.length : Int)) = true := by simp; omega
      obtain ⟨b, off, hac, -, hlt, hcap, hc⟩ := s_at HR.out (by omega)
      have y0 := hc k hlk
      have i1 : (0 : Int) ≤ (k : Int) := by omega
      have i2 : (k : Int) < (x.t.ch.length : Int) := by omega
      have HNo : Hid (¬ x.t.ch[k].size ≤ 200 → R = false) := fun h => by
        rw [HD1.out, decide_eq_false (fun hh => h (hh _ (List.getElem_mem hlk))), Bool.false_and]
      have HYes : Hid (x.t.ch[k].size ≤ 200 → ∀ (j : Nat) (h : j < x.t.ch.length), j < k + 1 → x.t.ch[j].size ≤ 200) := fun hs j h hj => by
        by_cases e : j = k
        · subst e; exact hs
        · exact HO.out j h (by omega)
      generalize x.t.ch[k]'hlk = s at *
      obtain ⟨xt, xao, xco, xaa, xca, xac, xcc⟩ := x
      dsimp only [LT.vc] at *
      subst hac
      by_cases hs : s.size ≤ 200
      · have ds : decide ((200 : Int) < (s.size : Int)) = false := by simp; omega
        have HO2 : Hid (∀ (j : Nat) (h : j < xt.ch.length), j < k + 1 → xt.ch[j].size ≤ 200) := HYes.out hs
        clear HNo HYes hs hc HO HF1 HF2 HR HD1
        go_wp2
        go_roundw
        case rel => exact ⟨k + 1, by omega, by simp, HO2, trivial⟩
        case measure => simp [intOf]; omega
      · have ds : decide ((200 : Int) < (s.size : Int)) = true := by simp; omega
        have hR : Hid (R = false) := HNo.out hs
        clear HNo HYes hs hc HO HF1 HF2 HR HD1
        go_wp2
        go_ret
        exact ⟨by rw [hR.out]; rfl, HB.out⟩
    · have dk : decide ((k : Int) < (x.t.ch.length : Int)) = false := by simp; omega
      have hR : R = (F1 && F2) := by
        rw [HD1.out, decide_eq_true (fun s hs => by
          obtain ⟨j, hj, rfl⟩ := List.mem_iff_getElem.1 hs
          exact HO.out j hj (by omega)), Bool.true_and]
      clear HO HD1 HR
      go_wp2_with fail
      refine HF1.out.mono ?_
      rintro e w1 ⟨rfl, h1⟩
      obtain rfl := h1.symm
      cases F1
      · rw [Bool.false_and] at hR
        subst hR
        clear HF1 HF2
        go_wp2
        go_ret
        exact ⟨rfl, HB.out⟩
      · rw [Bool.true_and] at hR
        subst hR
        clear HF1
        go_wp2_with fail
        refine HF2.out.mono ?_
        rintro e w2 ⟨rfl, h2⟩
        obtain rfl := h2.symm
        clear HF2
        go_wp2
        go_ret
        exact ⟨rfl, HB.out⟩
/-- Are types not more? -/
def fewL (l : List Ty) : Bool := decide (∀ (k : Nat) (h : k < l.length), k ≤ 25 ∧ oneB l[k] = true)
set_option maxRecDepth 100000 in
set_option maxHeartbeats 4000000 in
theorem fewT_any (v : Value) (L : List LT) (w : World) (hr : IsTys w v L) (hl : L.length ≤ 140737488355328) (hi : ∀ x ∈ L, InT x.t) :
    Calls Tryz.prog 13 #[v] w fun e w' => e = .returned (.bool (fewL (tys L))) ∧ Below w.heap.size w w' := by
  obtain ⟨a0, cap0, rfl⟩ := hr.1.form
  have HR : Hid (∀ W, Below w.heap.size w W → IsRow W 8 (.slice a0 L.length cap0) L.length (tCells L)) := fun W h => hr.1.below h
  have HC : Hid (∀ (k : Nat) (hk : k < L.length) W, Below w.heap.size w W → Calls Tryz.prog 39 #[ltV L[k]] W fun e w' => e = .returned (.bool (oneB L[k].t)) ∧ Below W.heap.size W w') := fun k hk W h => one_any _ W ((hr.2 _ (List.getElem_mem hk)).below h) (hi _ (List.getElem_mem hk))
  have HNo : Hid (∀ (k : Nat) (hk : k < L.length), ¬ (k ≤ 25 ∧ oneB L[k].t = true) → fewL (tys L) = false) := fun k hk h => decide_eq_false fun hh => h (by
    have := hh k (by rw [tys_len]; exact hk)
    rwa [tys_at L k hk] at this)
  have HYes : Hid ((∀ (k : Nat) (hk : k < L.length), k ≤ 25 ∧ oneB L[k].t = true) → fewL (tys L) = true) := fun h => decide_eq_true fun k hk => by
    rw [tys_len] at hk
    rw [tys_at L k hk]
    exact h k hk
  generalize fewL (tys L) = R at *
  clear hr hi
  go_enter Tryz.func13, Tryz.ntmps13
  go_wp2_with fail
  go_loopw [3] (fun i wr => ∃ k : Nat, k ≤ L.length ∧ k ≤ 26 ∧ i = .int .i64 (k : Int) ∧ Hid (∀ (j : Nat) (h : j < L.length), j < k → j ≤ 25 ∧ oneB L[j].t = true) ∧ Hid (Below w.heap.size w wr)) (fun i _ => 27 - (intOf i).toNat)
  case atStart => exact ⟨0, Nat.zero_le _, by omega, rfl, (fun j h hj => absurd hj (Nat.not_lt_zero _)), Below.refl _ _⟩
  case round =>
    obtain ⟨k, hk, hk26, rfl, HO, HB⟩ := hrel
    have hsz := HB.out.size
    by_cases hlk : k < L.length
    · have dk : decide ((k : Int) < (L.length : Int)) = true := by simp; omega
      by_cases h25 : k ≤ 25
      · have d25 : decide ((25 : Int) < (k : Int)) = false := by simp; omega
        obtain ⟨b, off, rfl, hbl, -, hcap, hc⟩ := t_at (HR.out _ HB.out) (by omega)
        obtain ⟨⟨y0, y1, y2, y3⟩, y4, y5, y6, y7⟩ := hc k hlk
        have HC1 : Hid (Calls Tryz.prog 39 #[ltV L[k]] wr fun e w' => e = .returned (.bool (oneB L[k].t)) ∧ Below wr.heap.size wr w') := HC.out k hlk wr HB.out
        have HN1 : Hid (oneB L[k].t = false → R = false) := fun h => HNo.out k hlk (fun hh => by rw [h] at hh; cases hh.2)
        have HO1 : Hid (oneB L[k].t = true → ∀ (j : Nat) (h : j < L.length), j < k + 1 → j ≤ 25 ∧ oneB L[j].t = true) := fun ho j h hj => by
          by_cases e : j = k
          · subst e; exact ⟨h25, ho⟩
          · exact HO.out j h (by omega)
        have i1 : (0 : Int) ≤ (k : Int) := by omega
        have i2 : (k : Int) < (L.length : Int) := by omega
        generalize L[k]'hlk = x at *
        clear hc HR HC HNo HYes HO
        go_wp2_with fail
        refine HC1.out.mono ?_
        rintro e w1 ⟨rfl, hb⟩
        have HB1 : Hid (Below w.heap.size w w1) := HB.out.trans (hb.mono hsz)
        clear hb HC1 y0 y1 y2 y3 y4 y5 y6 y7
        cases ho : oneB x.t
        · have hR : Hid (R = false) := HN1.out ho
          clear HN1 HO1 ho
          go_wp2
          go_ret
          exact ⟨by rw [hR.out]; rfl, HB1.out⟩
        · have HO2 : Hid (∀ (j : Nat) (h : j < L.length), j < k + 1 → j ≤ 25 ∧ oneB L[j].t = true) := HO1.out ho
          clear HN1 HO1 ho
          go_wp2
          go_roundw
          case rel => exact ⟨k + 1, by omega, by omega, by simp, HO2, HB1⟩
          case measure => simp [intOf]; omega
      · have d25 : decide ((25 : Int) < (k : Int)) = true := by simp; omega
        have hR : Hid (R = false) := HNo.out k hlk (fun hh => h25 hh.1)
        clear HR HC HNo HYes HO
        go_wp2
        go_ret
        exact ⟨by rw [hR.out]; rfl, HB.out⟩
    · have dk : decide ((k : Int) < (L.length : Int)) = false := by simp; omega
      have hR : Hid (R = true) := HYes.out fun j h => HO.out j h (by omega)
      clear HR HC HNo HYes HO
      go_wp2
      go_ret
      exact ⟨by rw [hR.out]; rfl, HB.out⟩
end Go.Proofs.YthdbnlpbidkojaaGreatDoor
