/- schema.Merge at any fields; slices.Equal at names: walks. -/
import Derived.Test.YtlndgepoekllkaaGreatDoorZk7
import Derived.Test.YtlndgepoekllkaaGreatDoorZk5
import Derived.Test.YtlndgepoekllkaaGreatDoorZk4
import Derived.Deep.QuietTactic
import Derived.BigQuiet
namespace Go.Proofs.YtlndgepoekllkaaGreatDoor
open Go.RowKit Go.ChangeMaps

theorem NewA.none (b : Nat) : NewA b none := fun _ e => nomatch e
theorem sameS_no {a l : List ByteArray} {k : Nat} (h : k < a.length) (h2 : k < l.length) (he : a[k] ≠ l[k]) : sameS a l = false := by
  unfold sameS
  rw [decide_eq_false_iff_not]
  rintro rfl
  exact he rfl
set_option maxRecDepth 100000 in
set_option maxHeartbeats 2000000 in
theorem equalS_any (v u : Value) (a l : List ByteArray) (w : World) (hq : IsRow w 1 v a.length (sVals a)) (hr : IsRow w 1 u l.length (sVals l)) (hal : a.length ≤ 1000000) (hl : l.length ≤ 1000000) :
    Calls Tryz.prog 77 #[v, u] w fun e w' => e = .returned (.bool (sameS a l)) ∧ Below w.heap.size w w' := by
  obtain ⟨a0, cap0, rfl⟩ := hq.form
  obtain ⟨a1, cap1, rfl⟩ := hr.form
  have HQ : Hid (∀ w', Below w.heap.size w w' → IsRow w' 1 (.slice a0 a.length cap0) a.length (sVals a)) := fun w' h => hq.below h
  have HR : Hid (∀ w', Below w.heap.size w w' → IsRow w' 1 (.slice a1 l.length cap1) l.length (sVals l)) := fun w' h => hr.below h
  clear hq hr
  by_cases hln : a.length = l.length
  rotate_left
  · have e0 : sameS a l = false := by unfold sameS; rw [decide_eq_false_iff_not]; intro e; exact hln (by rw [e])
    have dn : ((a.length : Int) != (l.length : Int)) = true := by rw [bne_iff_ne]; omega
    rw [e0]
    go_enter Tryz.func77, Tryz.ntmps77
    go_wp2
    go_ret
    exact ⟨rfl, Below.refl _ _⟩
  have dn : ((a.length : Int) != (l.length : Int)) = false := by rw [hln]; simp
  have HL : Hid (a.length = l.length) := hln
  clear hln
  go_enter Tryz.func77, Tryz.ntmps77
  go_wp2_with fail
  go_loopw [4, 13] (fun r i wr => r = .bool false ∧ ∃ k : Nat, k ≤ a.length ∧ i = .int .i64 (k : Int) ∧ Hid (∀ (j : Nat) (h : j < a.length) (h2 : j < l.length), j < k → a[j] = l[j]) ∧ Hid (Below w.heap.size w wr)) (fun _ i _ => a.length - (intOf i).toNat)
  case atStart => exact ⟨rfl, 0, Nat.zero_le _, rfl, fun j h h2 hj => absurd hj (Nat.not_lt_zero _), Below.refl _ _⟩
  case round =>
    obtain ⟨rfl, k, hk, rfl, HO, HB⟩ := hrel
    by_cases hlk : k < a.length
    · have hlk2 : k < l.length := by have := HL.out; omega
      have dk : decide ((k : Int) < a.length) = true := by simp; omega
      obtain ⟨b, off, rfl, -, hlt, hcap, hc⟩ := s_at (HQ.out wr HB.out) (by omega)
      obtain ⟨b', off', rfl, -, hlt', hcap', hc'⟩ := s_at (HR.out wr HB.out) (by omega)
      have ck0 := hc k hlk
      have dk0 := hc' k hlk2
      have HO2 : Hid (a[k] = l[k] → ∀ (j : Nat) (h : j < a.length) (h2 : j < l.length), j < k + 1 → a[j] = l[j]) := fun hs j h h2 hj => by
        by_cases e : j = k
        · subst e; exact hs
        · exact HO.out j h h2 (by omega)
      have HN : Hid (a[k] ≠ l[k] → sameS a l = false) := sameS_no hlk hlk2
      generalize a[k]'hlk = x at *
      generalize l[k]'hlk2 = y at *
      have q1 : (0 : Int) ≤ (k : Int) := by omega
      have q2 : (k : Int) < (a.length : Int) := by omega
      have q3 : (k : Int) < (l.length : Int) := by omega
      have eS := strNe x y
      have eS' := strEqB x y
      have HBd : Hid (∀ q, Below w.heap.size w (wr.drewN q)) := fun q => ⟨HB.out.os, HB.out.tape, HB.out.output, HB.out.size, HB.out.block⟩
      clear hc hc' HO
      by_cases he : x = y
      · rw [decide_eq_true he] at eS eS'
        have HO3 : Hid (∀ (j : Nat) (h : j < a.length) (h2 : j < l.length), j < k + 1 → a[j] = l[j]) := HO2.out he
        clear HN HO2 he
        go_wp2_with fail
        go_quiet (fail)
        go_wp2
        go_roundw
        case rel => exact ⟨rfl, k + 1, by omega, by simp, HO3, HBd.out _⟩
        case measure => simp [intOf]; omega
      · rw [decide_eq_false he] at eS eS'
        have HN2 : Hid (sameS a l = false) := HN.out he
        clear HN HO2 he
        go_wp2_with fail
        go_quiet (fail)
        go_wp2
        go_ret
        exact ⟨by rw [HN2.out]; rfl, HBd.out _⟩
    · have hk' : k = a.length := by omega
      subst hk'
      have dk : decide ((a.length : Int) < a.length) = false := by simp
      have HY : Hid (sameS a l = true) := by
        show _ = _
        unfold sameS
        rw [decide_eq_true_eq]
        exact List.ext_getElem HL.out fun j h h2 => HO.out j h h2 h
      clear HO
      go_wp2
      go_ret
      exact ⟨by rw [HY.out]; rfl, HB.out⟩
end Go.Proofs.YtlndgepoekllkaaGreatDoor
/- forest.parentOf, isBelow: walks. -/
namespace Go.Proofs.YtlndgepoekllkaaGreatDoor
open Go.RowKit Go.ChangeMaps

theorem results_c2 {fn : Func} {p q : Tmp} {ty : TypeId} (h : fn.results = #[.cell p ty, .tmp q]) (tmps : Array Value) (P : Program) (w : World) :
    (results fn tmps).run P w = ((asAddr (tmps.getD p undef)).run P w).andThen fun a w₁ => ((loadVar ty a).run P w₁).andThen fun v w₂ => .ok (.tuple #[v, tmps.getD q undef]) w₂ := by
  simp only [results, h]
  simp [Sem.run_bind, Result.andThen]
theorem below8 {B g : Nat} {w w' : World} (h : Below B w w') (hg : B ≤ g) (u0 u1 u2 u3 u4 u5 u6 u7 : Value) : Below B w ((((((((w'.setCell ⟨g, 0, none⟩ u0).setCell ⟨g, 1, none⟩ u1).setCell ⟨g, 2, none⟩ u2).setCell ⟨g, 3, none⟩ u3).setCell ⟨g, 4, none⟩ u4).setCell ⟨g, 5, none⟩ u5).setCell ⟨g, 6, none⟩ u6).setCell ⟨g, 7, none⟩ u7) :=
  (((((((h.setCell (p := ⟨g, 0, none⟩) hg u0).setCell (p := ⟨g, 1, none⟩) hg u1).setCell (p := ⟨g, 2, none⟩) hg u2).setCell (p := ⟨g, 3, none⟩) hg u3).setCell (p := ⟨g, 4, none⟩) hg u4).setCell (p := ⟨g, 5, none⟩) hg u5).setCell (p := ⟨g, 6, none⟩) hg u6).setCell (p := ⟨g, 7, none⟩) hg u7
/-- No type. -/
def zLT : LT := ⟨zT, none, 0, none, 0, none, 0⟩
def PaP (L : List LT) (s : ByteArray) (w : World) (e : Ending) (w' : World) : Prop := ∃ y : LT, e = .returned (.tuple #[ltV y, .bool (parN (tys L) s).isSome]) ∧ ((parN (tys L) s = none ∧ y = zLT) ∨ (y ∈ L ∧ parN (tys L) s = some y.t)) ∧ Below w.heap.size w w'
theorem PaP.zero {L : List LT} {s : ByteArray} {w w' : World} (h : (parN (tys L) s).isSome = false) (hb : Below w.heap.size w w') : PaP L s w (.returned (.tuple #[tyV zT (.slice none 0 0) (.slice none 0 0) (.slice none 0 0), .bool false])) w' := by
  refine ⟨zLT, ?_, .inl ⟨by simpa using h, rfl⟩, hb⟩
  rw [h]
  rfl
end Go.Proofs.YtlndgepoekllkaaGreatDoor
/- Types whose rows lie behind a block; stores of types. -/
namespace Go.Proofs.YtlndgepoekllkaaGreatDoor
open Go.RowKit Go.ChangeMaps

/-- A type whose rows lie behind a block. -/
def NewT (base : Nat) (y : LT) : Prop := NewA base y.ao ∧ NewA base y.aa ∧ NewA base y.ac
theorem NewT.le {base base' : Nat} {y : LT} (h : NewT base y) (hb : base' ≤ base) : NewT base' y := ⟨h.1.le hb, h.2.1.le hb, h.2.2.le hb⟩
theorem row_far {w : World} {sz n m c base g : Nat} {a : Option Addr} {xs : List Value} (h : IsRow w sz (.slice a m c) n xs) (hN : NewA base a) (hg : g < base) (j : Nat) (v : Value) : IsRow (w.setCell ⟨g, j, none⟩ v) sz (.slice a m c) n xs := by
  refine ⟨h.1, ?_⟩
  rcases h.2 with h0 | ⟨b, off, cap, hv, hlt, q1, q2, hc⟩
  · exact .inl h0
  · have hb : base ≤ b := by
      simp only [Value.slice.injEq] at hv
      have := hN _ hv.1
      exact this
    refine .inr ⟨b, off, cap, hv, by simpa using hlt, q1, q2, fun k u hu => ?_⟩
    rw [World.cell?_setCell_other _ _ _ _ (by simp only [ne_eq, Addr.mk.injEq, not_and]; intro e; omega)]
    exact hc k u hu
theorem ty_far {w : World} {y : LT} {base g : Nat} (h : IsTy w y.t y.vo y.va y.vc) (hN : NewT base y) (hg : g < base) (j : Nat) (v : Value) : IsTy (w.setCell ⟨g, j, none⟩ v) y.t y.vo y.va y.vc := ⟨row_far h.1 hN.1 hg j v, row_far h.2.1 hN.2.1 hg j v, row_far h.2.2 hN.2.2 hg j v⟩
theorem ty_far8 {w : World} {y : LT} {base g : Nat} (h : IsTy w y.t y.vo y.va y.vc) (hN : NewT base y) (hg : g < base) (u0 u1 u2 u3 u4 u5 u6 u7 : Value) : IsTy ((((((((w.setCell ⟨g, 0, none⟩ u0).setCell ⟨g, 1, none⟩ u1).setCell ⟨g, 2, none⟩ u2).setCell ⟨g, 3, none⟩ u3).setCell ⟨g, 4, none⟩ u4).setCell ⟨g, 5, none⟩ u5).setCell ⟨g, 6, none⟩ u6).setCell ⟨g, 7, none⟩ u7) y.t y.vo y.va y.vc :=
  ty_far (ty_far (ty_far (ty_far (ty_far (ty_far (ty_far (ty_far h hN hg 0 u0) hN hg 1 u1) hN hg 2 u2) hN hg 3 u3) hN hg 4 u4) hN hg 5 u5) hN hg 6 u6) hN hg 7 u7
def MkP (r : Ty × Int) (w : World) (e : Ending) (w' : World) : Prop := ∃ y : LT, e = .returned (.tuple #[ltV y, .int .i64 r.2]) ∧ y.t = r.1 ∧ IsTy w' y.t y.vo y.va y.vc ∧ NewT w.heap.size y ∧ Below w.heap.size w w'
theorem ty_zLT (w : World) : IsTy w zLT.t zLT.vo zLT.va zLT.vc := ⟨IsRow.nil _ _, IsRow.nil _ _, IsRow.nil _ _⟩
theorem new_zLT (b : Nat) : NewT b zLT := ⟨NewA.none _, NewA.none _, NewA.none _⟩
theorem MkP.zero {w w' : World} (n : Int) (h : Below w.heap.size w w') : MkP (zT, n) w (.returned (.tuple #[tyV zT (.slice none 0 0) (.slice none 0 0) (.slice none 0 0), .int .i64 n])) w' := ⟨zLT, rfl, rfl, ty_zLT _, new_zLT _, h⟩
theorem BxT.put8 {g : Nat} {t0 : Ty} {a0 b0 c0 : Value} {w : World} (h : BxT g t0 a0 b0 c0 w) (t : Ty) (vo va vc : Value) : BxT g t vo va vc ((((((((w.setCell ⟨g, 0, none⟩ (.string t.n)).setCell ⟨g, 1, none⟩ (.string t.p)).setCell ⟨g, 2, none⟩ vo).setCell ⟨g, 3, none⟩ va).setCell ⟨g, 4, none⟩ vc).setCell ⟨g, 5, none⟩ (.int .i64 t.nd)).setCell ⟨g, 6, none⟩ (.int .i64 t.lf)).setCell ⟨g, 7, none⟩ (.int .i64 t.sq)) := by
  have o : ∀ (w : World) (i j : Nat) (v : Value), i ≠ j → (w.setCell ⟨g, i, none⟩ v).cell? ⟨g, j, none⟩ = w.cell? ⟨g, j, none⟩ := fun w i j v hij => World.cell?_setCell_other _ _ _ _ (by simp only [ne_eq, Addr.mk.injEq, not_and]; intro _ e; omega)
  obtain ⟨⟨c0, c1, c2, c3⟩, c4, c5, c6, c7⟩ := h
  refine ⟨⟨?_, ?_, ?_, ?_⟩, ?_, ?_, ?_, ?_⟩
  · rw [o _ 7 0 _ (by decide), o _ 6 0 _ (by decide), o _ 5 0 _ (by decide), o _ 4 0 _ (by decide), o _ 3 0 _ (by decide), o _ 2 0 _ (by decide), o _ 1 0 _ (by decide)]
    exact World.cell?_setCell_same _ _ _ c0
  · rw [o _ 7 1 _ (by decide), o _ 6 1 _ (by decide), o _ 5 1 _ (by decide), o _ 4 1 _ (by decide), o _ 3 1 _ (by decide), o _ 2 1 _ (by decide)]
    exact World.cell?_setCell_same _ _ _ ((o _ 0 1 _ (by decide)).trans c1)
  · rw [o _ 7 2 _ (by decide), o _ 6 2 _ (by decide), o _ 5 2 _ (by decide), o _ 4 2 _ (by decide), o _ 3 2 _ (by decide)]
    exact World.cell?_setCell_same _ _ _ ((o _ 1 2 _ (by decide)).trans ((o _ 0 2 _ (by decide)).trans c2))
  · rw [o _ 7 3 _ (by decide), o _ 6 3 _ (by decide), o _ 5 3 _ (by decide), o _ 4 3 _ (by decide)]
    exact World.cell?_setCell_same _ _ _ ((o _ 2 3 _ (by decide)).trans ((o _ 1 3 _ (by decide)).trans ((o _ 0 3 _ (by decide)).trans c3)))
  · rw [o _ 7 4 _ (by decide), o _ 6 4 _ (by decide), o _ 5 4 _ (by decide)]
    exact World.cell?_setCell_same _ _ _ ((o _ 3 4 _ (by decide)).trans ((o _ 2 4 _ (by decide)).trans ((o _ 1 4 _ (by decide)).trans ((o _ 0 4 _ (by decide)).trans c4))))
  · rw [o _ 7 5 _ (by decide), o _ 6 5 _ (by decide)]
    exact World.cell?_setCell_same _ _ _ ((o _ 4 5 _ (by decide)).trans ((o _ 3 5 _ (by decide)).trans ((o _ 2 5 _ (by decide)).trans ((o _ 1 5 _ (by decide)).trans ((o _ 0 5 _ (by decide)).trans c5)))))
  · rw [o _ 7 6 _ (by decide)]
    exact World.cell?_setCell_same _ _ _ ((o _ 5 6 _ (by decide)).trans ((o _ 4 6 _ (by decide)).trans ((o _ 3 6 _ (by decide)).trans ((o _ 2 6 _ (by decide)).trans ((o _ 1 6 _ (by decide)).trans ((o _ 0 6 _ (by decide)).trans c6))))))
  · exact World.cell?_setCell_same _ _ _ ((o _ 6 7 _ (by decide)).trans ((o _ 5 7 _ (by decide)).trans ((o _ 4 7 _ (by decide)).trans ((o _ 3 7 _ (by decide)).trans ((o _ 2 7 _ (by decide)).trans ((o _ 1 7 _ (by decide)).trans ((o _ 0 7 _ (by decide)).trans c7)))))))
theorem row_one {w : World} {g : Nat} {s : ByteArray} (h : w.heap[g]? = some (.cells #[.string s] 9 (0, 0))) : IsRow w 1 (.slice (some ⟨g, 0, none⟩) 1 1) 1 (sVals [s]) := by
  refine ⟨rfl, .inr ⟨g, 0, 1, rfl, (Array.getElem?_eq_some_iff.1 h).1, Nat.le_refl _, by decide, fun j u hu => ?_⟩⟩
  match j, hu with
  | 0, hu =>
    rw [Lib.cell_of_heap h]
    exact hu
  | j + 1, hu => simp [sVals] at hu
end Go.Proofs.YtlndgepoekllkaaGreatDoor
/- forest.Root: a walk. -/
namespace Go.Proofs.YtlndgepoekllkaaGreatDoor
open Go.RowKit Go.ChangeMaps

/-- Behind the store of a type that is made. -/
def CtR (w : World) (t : Ty) (wx : World) : Prop := ∃ y : LT, y.t = t ∧ Hid (IsTy wx y.t y.vo y.va y.vc) ∧ Hid (NewT (w.heap.size + 2) y) ∧ Hid (Below w.heap.size w wx) ∧ Hid (BxT (w.heap.size + 1) y.t y.vo y.va y.vc wx)
set_option maxRecDepth 100000 in
set_option maxHeartbeats 4000000 in
theorem root_any (s : ByteArray) (v : Value) (own : List Fd) (a b c : Int) (w : World) (hs : s.size ≤ 1000000) (hr : IsRow w 3 v own.length (fCells own)) (hl : own.length ≤ 1000) (hn : NmF own) (hU : UT w) (hM : ML w) :
    Calls Tryz.prog 11 #[.string s, v, idV a b c] w fun e w' => MkP (rootR s own a b c) w e w' := by
  obtain ⟨ao, co, rfl⟩ := hr.form
  obtain ⟨W0, hW0⟩ : ∃ W0, W0 = (w.alloc (.cells #[.int .i64 a, .int .i64 b, .int .i64 c] 33)).alloc (.cells zTyA 35) := ⟨_, rfl⟩
  have hA : Below w.heap.size w W0 := by rw [hW0]; exact (al_b w _).trans ((al_b _ _).mono (by simp))
  have hz : W0.heap.size = w.heap.size + 2 := by rw [hW0]; simp
  have hn0 : W0.heap[w.heap.size]? = some (.cells #[.int .i64 a, .int .i64 b, .int .i64 c] 33 (0, 0)) := by
    rw [hW0]
    show ((w.heap.push _).push _)[w.heap.size]? = _
    rw [Array.getElem?_push, if_neg (by simp), Array.getElem?_push, if_pos rfl]
  have hn1 : W0.heap[w.heap.size + 1]? = some (.cells zTyA 35 (0, 0)) := by
    rw [hW0]
    show ((w.heap.push _).push _)[w.heap.size + 1]? = _
    rw [Array.getElem?_push, if_pos (by simp)]
  have HId3 : Hid (∀ W, Below W0.heap.size W0 W → W.cell? ⟨w.heap.size, 0, none⟩ = some (.int .i64 a) ∧ W.cell? ⟨w.heap.size, 1, none⟩ = some (.int .i64 b) ∧ W.cell? ⟨w.heap.size, 2, none⟩ = some (.int .i64 c)) := fun W h => by
    have e : ∀ j, W.cell? ⟨w.heap.size, j, none⟩ = (#[.int .i64 a, .int .i64 b, .int .i64 c] : Array Value)[j]? := fun j => by rw [Lib.cell_of_heap ((h.block _ (by omega)).trans hn0)]
    exact ⟨e 0, e 1, e 2⟩
  have HZ : Hid (∀ W, Below W0.heap.size W0 W → BxT (w.heap.size + 1) zT (.slice none 0 0) (.slice none 0 0) (.slice none 0 0) W) := fun W h => BxT.of ((h.block _ (by omega)).trans hn1)
  have HF1 : Hid (∀ W, Below W0.heap.size W0 W → ∀ j, W.frozen? ⟨w.heap.size + 1, j, none⟩ = false) := fun W h j => Lib.frozen_of_heap ((h.block _ (by omega)).trans hn1) j
  have HBw : Hid (∀ W, Below W0.heap.size W0 W → Below w.heap.size w W) := fun W h => hA.trans (h.mono hA.size)
  have HN : Hid (∀ W, Calls Tryz.prog 33 #[.string s] W fun e w' => e = .returned (.int .i64 (checkL s.data.toList)) ∧ Below W.heap.size W w') := fun W => check_any _ W (Nat.le_trans hs (by decide))
  have HC : Hid (∀ W, Below W0.heap.size W0 W → Calls Tryz.prog 34 #[.slice ao own.length co] W fun e w' => e = .returned (.bool (chkF own)) ∧ Below W.heap.size W w') := fun W h => checkF_any _ own W (hr.below (HBw.out W h)) (by omega) hn (Utf8Tabs_below hU (HBw.out W h)) (ML_below hM (HBw.out W h))
  have HI : Hid (∀ W, Calls Tryz.prog 35 #[idV a b c] W fun e w' => e = .returned (.bool (idB a b c)) ∧ Below W.heap.size W w') := fun W => isID_any _ _ _ W
  have HCl : Hid (∀ W, Below W0.heap.size W0 W → Calls Tryz.prog 36 #[.slice ao own.length co] W fun e w' => ∃ x y, e = .returned (.slice x own.length y) ∧ Hid (w'.ownsRow W0.heap.size 94 3 (.slice x own.length y) own.length (fCells own)) ∧ Below W0.heap.size W0 w' ∧ Below W.heap.size W w') := fun W h => (cloneF_any _ own W (hr.below (HBw.out W h)) hl).mono fun e w' ⟨v, he, ho, hb⟩ => by
    obtain ⟨x, y, rfl⟩ := (IsRow.own ho).form
    exact ⟨x, y, he, own_leT ho h.size, h.trans (hb.mono h.size), hb⟩
  have hR : rootR s own a b c = if checkL s.data.toList = 0 then (if (chkF own && idB a b c) = true then (⟨s, ⟨#[]⟩, own, own, [s], a, b, c⟩, 0) else (zT, 1)) else (zT, checkL s.data.toList) := rfl
  generalize checkL s.data.toList = C at *
  clear hr hl hn hU hM hA hn0 hn1 hs
  by_cases hC : C = 0
  rotate_left
  · rw [hR, if_neg hC]
    have dC : (C != 0) = true := by simp [hC]
    have dC' : (!(C == 0)) = true := by simp [hC]
    have dC'' : (C == 0) = false := by simp [hC]
    clear hR HC HI HCl
    go_enter Tryz.func11, Tryz.ntmps11
    go_wp2_with fail
    rw [← hW0]
    clear hW0
    refine (HN.out _).mono ?_
    rintro e w1 ⟨rfl, hb1⟩
    obtain ⟨⟨e0, e1, e2, e3⟩, e4, e5, e6, e7⟩ := HZ.out _ hb1
    have f0 := HF1.out _ hb1
    have HB : Hid (Below w.heap.size w w1) := HBw.out _ hb1
    have HEnd : Hid (∀ u0 u1 u2 u3 u4 u5 u6 u7, MkP (zT, C) w (.returned (.tuple #[tyV zT (.slice none 0 0) (.slice none 0 0) (.slice none 0 0), .int .i64 C])) ((((((((w1.setCell ⟨w.heap.size + 1, 0, none⟩ u0).setCell ⟨w.heap.size + 1, 1, none⟩ u1).setCell ⟨w.heap.size + 1, 2, none⟩ u2).setCell ⟨w.heap.size + 1, 3, none⟩ u3).setCell ⟨w.heap.size + 1, 4, none⟩ u4).setCell ⟨w.heap.size + 1, 5, none⟩ u5).setCell ⟨w.heap.size + 1, 6, none⟩ u6).setCell ⟨w.heap.size + 1, 7, none⟩ u7)) := fun u0 u1 u2 u3 u4 u5 u6 u7 => MkP.zero C (below8 HB.out (Nat.le_add_right _ 1) u0 u1 u2 u3 u4 u5 u6 u7)
    clear hb1 HZ HF1 HBw HN
    go_wp2_with fail
    try simp only [Exit.inBlock, Exit.then]
    refine bodyPost_ret (v := .tuple #[tyV zT (.slice none 0 0) (.slice none 0 0) (.slice none 0 0), .int .i64 C]) ?_ rfl (HEnd.out _ _ _ _ _ _ _ _)
    rw [results_c2 rfl]; go_simp
    exact ⟨rfl, rfl, rfl, rfl, rfl⟩
  have dC : (C != 0) = false := by simp [hC]
  have dC' : (!(C == 0)) = false := by simp [hC]
  have dC'' : (C == 0) = true := by simp [hC]
  rw [hR, if_pos hC]
  subst hC
  cases hc : chkF own
  · rw [hc] at HC
    rw [Bool.false_and, if_neg (by decide)]
    clear hR HI HCl HId3 hc
    go_enter Tryz.func11, Tryz.ntmps11
    go_wp2_with fail
    rw [← hW0]
    clear hW0
    refine (HN.out _).mono ?_
    rintro e w1 ⟨rfl, hb1⟩
    have HH1 : Hid (Below W0.heap.size W0 w1) := hb1
    clear hb1
    go_wp2_with fail
    refine (HC.out _ HH1.out).mono ?_
    rintro e w2 ⟨rfl, hb2⟩
    have HH2 : Hid (Below W0.heap.size W0 w2) := HH1.out.trans (hb2.mono HH1.out.size)
    clear hb2
    obtain ⟨⟨e0, e1, e2, e3⟩, e4, e5, e6, e7⟩ := HZ.out _ HH2.out
    have f0 := HF1.out _ HH2.out
    have HB : Hid (Below w.heap.size w w2) := HBw.out _ HH2.out
    have HEnd : Hid (∀ u0 u1 u2 u3 u4 u5 u6 u7, MkP (zT, 1) w (.returned (.tuple #[tyV zT (.slice none 0 0) (.slice none 0 0) (.slice none 0 0), .int .i64 1])) ((((((((w2.setCell ⟨w.heap.size + 1, 0, none⟩ u0).setCell ⟨w.heap.size + 1, 1, none⟩ u1).setCell ⟨w.heap.size + 1, 2, none⟩ u2).setCell ⟨w.heap.size + 1, 3, none⟩ u3).setCell ⟨w.heap.size + 1, 4, none⟩ u4).setCell ⟨w.heap.size + 1, 5, none⟩ u5).setCell ⟨w.heap.size + 1, 6, none⟩ u6).setCell ⟨w.heap.size + 1, 7, none⟩ u7)) := fun u0 u1 u2 u3 u4 u5 u6 u7 => MkP.zero 1 (below8 HB.out (Nat.le_add_right _ 1) u0 u1 u2 u3 u4 u5 u6 u7)
    clear HZ HF1 HBw HN HC
    go_wp2_with fail
    try simp only [Exit.inBlock, Exit.then]
    refine bodyPost_ret (v := .tuple #[tyV zT (.slice none 0 0) (.slice none 0 0) (.slice none 0 0), .int .i64 1]) ?_ rfl (HEnd.out _ _ _ _ _ _ _ _)
    rw [results_c2 rfl]; go_simp
    exact ⟨rfl, rfl, rfl, rfl, rfl⟩
  rw [hc] at HC
  rw [Bool.true_and]
  cases hi : idB a b c
  · rw [hi] at HI
    rw [if_neg (by decide)]
    clear hR HCl hc hi
    go_enter Tryz.func11, Tryz.ntmps11
    go_wp2_with fail
    rw [← hW0]
    clear hW0
    refine (HN.out _).mono ?_
    rintro e w1 ⟨rfl, hb1⟩
    have HH1 : Hid (Below W0.heap.size W0 w1) := hb1
    clear hb1
    go_wp2_with fail
    refine (HC.out _ HH1.out).mono ?_
    rintro e w2 ⟨rfl, hb2⟩
    have HH2 : Hid (Below W0.heap.size W0 w2) := HH1.out.trans (hb2.mono HH1.out.size)
    clear hb2
    obtain ⟨i0, i1, i2⟩ := HId3.out _ HH2.out
    go_wp2_with fail
    refine (HI.out _).mono ?_
    rintro e w3 ⟨rfl, hb3⟩
    have HH3 : Hid (Below W0.heap.size W0 w3) := HH2.out.trans (hb3.mono HH2.out.size)
    clear hb3 i0 i1 i2
    obtain ⟨⟨e0, e1, e2, e3⟩, e4, e5, e6, e7⟩ := HZ.out _ HH3.out
    have f0 := HF1.out _ HH3.out
    have HB : Hid (Below w.heap.size w w3) := HBw.out _ HH3.out
    have HEnd : Hid (∀ u0 u1 u2 u3 u4 u5 u6 u7, MkP (zT, 1) w (.returned (.tuple #[tyV zT (.slice none 0 0) (.slice none 0 0) (.slice none 0 0), .int .i64 1])) ((((((((w3.setCell ⟨w.heap.size + 1, 0, none⟩ u0).setCell ⟨w.heap.size + 1, 1, none⟩ u1).setCell ⟨w.heap.size + 1, 2, none⟩ u2).setCell ⟨w.heap.size + 1, 3, none⟩ u3).setCell ⟨w.heap.size + 1, 4, none⟩ u4).setCell ⟨w.heap.size + 1, 5, none⟩ u5).setCell ⟨w.heap.size + 1, 6, none⟩ u6).setCell ⟨w.heap.size + 1, 7, none⟩ u7)) := fun u0 u1 u2 u3 u4 u5 u6 u7 => MkP.zero 1 (below8 HB.out (Nat.le_add_right _ 1) u0 u1 u2 u3 u4 u5 u6 u7)
    clear HZ HF1 HBw HN HC HId3 HI
    go_wp2_with fail
    try simp only [Exit.inBlock, Exit.then]
    refine bodyPost_ret (v := .tuple #[tyV zT (.slice none 0 0) (.slice none 0 0) (.slice none 0 0), .int .i64 1]) ?_ rfl (HEnd.out _ _ _ _ _ _ _ _)
    rw [results_c2 rfl]; go_simp
    exact ⟨rfl, rfl, rfl, rfl, rfl⟩
  rw [hi] at HI
  rw [if_pos rfl]
  clear hR hc hi
  go_enter Tryz.func11, Tryz.ntmps11
  go_wp2_with fail
  rw [← hW0]
  clear hW0
  refine (HN.out _).mono ?_
  rintro e w1 ⟨rfl, hb1⟩
  have HH1 : Hid (Below W0.heap.size W0 w1) := hb1
  clear hb1
  go_wp2_with fail
  refine (HC.out _ HH1.out).mono ?_
  rintro e w2 ⟨rfl, hb2⟩
  have HH2 : Hid (Below W0.heap.size W0 w2) := HH1.out.trans (hb2.mono HH1.out.size)
  clear hb2
  obtain ⟨i0, i1, i2⟩ := HId3.out _ HH2.out
  go_wp2_with fail
  refine (HI.out _).mono ?_
  rintro e w3 ⟨rfl, hb3⟩
  have HH3 : Hid (Below W0.heap.size W0 w3) := HH2.out.trans (hb3.mono HH2.out.size)
  clear hb3 i0 i1 i2
  have HSz : Hid (∀ W, Below W0.heap.size W0 W → w.heap.size + 1 < W.heap.size ∧ w.heap.size < W.heap.size) := fun W h => by have := h.size; omega
  have HR1 : Hid (Below W0.heap.size W0 w3.drew) := HH3.out.drew
  have HR3 : Hid (∀ W o, Below W0.heap.size W0 W → Below W0.heap.size W0 (W.alloc o)) := fun W o h => h.trans ((al_b _ o).mono h.size)
  have HFin : Hid (∀ (wA wB wE : World) (x1 : Option Addr) (y1 : Nat) (x2 : Option Addr) (y2 : Nat) (g : Nat), Hid (wA.ownsRow W0.heap.size 94 3 (.slice x1 own.length y1) own.length (fCells own)) → Hid (wB.ownsRow W0.heap.size 94 3 (.slice x2 own.length y2) own.length (fCells own)) → Below wA.heap.size wA wE → Below wB.heap.size wB wE → wE.heap[g]? = some (.cells #[.string s] 9 (0, 0)) → W0.heap.size ≤ g → Below W0.heap.size W0 wE → CtR w ⟨s, ⟨#[]⟩, own, own, [s], a, b, c⟩ ((((((((wE.setCell ⟨w.heap.size + 1, 0, none⟩ (.string s)).setCell ⟨w.heap.size + 1, 1, none⟩ (.string ⟨#[]⟩)).setCell ⟨w.heap.size + 1, 2, none⟩ (.slice x1 own.length y1)).setCell ⟨w.heap.size + 1, 3, none⟩ (.slice x2 own.length y2)).setCell ⟨w.heap.size + 1, 4, none⟩ (.slice (some ⟨g, 0, none⟩) 1 1)).setCell ⟨w.heap.size + 1, 5, none⟩ (.int .i64 a)).setCell ⟨w.heap.size + 1, 6, none⟩ (.int .i64 b)).setCell ⟨w.heap.size + 1, 7, none⟩ (.int .i64 c))) := fun wA wB wE x1 y1 x2 y2 g o1 o2 bA bB hg hg0 hE => by
    have hN : NewT (w.heap.size + 2) ⟨⟨s, ⟨#[]⟩, own, own, [s], a, b, c⟩, x1, y1, x2, y2, some ⟨g, 0, none⟩, 1⟩ := ⟨(NewA.own o1.out).le (by omega), (NewA.own o2.out).le (by omega), fun g' e => by obtain rfl := Option.some.inj e; show _ ≤ g; omega⟩
    have hT : IsTy wE (⟨s, ⟨#[]⟩, own, own, [s], a, b, c⟩ : Ty) (.slice x1 own.length y1) (.slice x2 own.length y2) (.slice (some ⟨g, 0, none⟩) 1 1) := ⟨(IsRow.own o1.out).below bA, (IsRow.own o2.out).below bB, row_one hg⟩
    exact ⟨⟨⟨s, ⟨#[]⟩, own, own, [s], a, b, c⟩, x1, y1, x2, y2, some ⟨g, 0, none⟩, 1⟩, rfl, ty_far8 (y := ⟨⟨s, ⟨#[]⟩, own, own, [s], a, b, c⟩, x1, y1, x2, y2, some ⟨g, 0, none⟩, 1⟩) hT hN (by omega) _ _ _ _ _ _ _ _, hN, below8 (HBw.out _ hE) (Nat.le_add_right _ 1) _ _ _ _ _ _ _ _, (HZ.out _ hE).put8 ⟨s, ⟨#[]⟩, own, own, [s], a, b, c⟩ _ _ _⟩
  have HG1 : Hid (∀ wd w4 w5 : World, Below (wd.alloc (.cells #[.string s] 9)).heap.size (wd.alloc (.cells #[.string s] 9)) w4 → Below w4.heap.size w4 w5 → w5.heap[wd.heap.size]? = some (.cells #[.string s] 9 (0, 0))) := fun wd w4 w5 h1 h2 => by
    have e0 : (wd.alloc (.cells #[.string s] 9)).heap[wd.heap.size]? = some (.cells #[.string s] 9 (0, 0)) := new_at wd _
    have hl := (Array.getElem?_eq_some_iff.1 e0).1
    have e1 := (h1.block _ hl).trans e0
    exact (h2.block _ (Array.getElem?_eq_some_iff.1 e1).1).trans e1
  have HG2 : Hid (∀ w4 w5 : World, Below (w4.alloc (.cells #[.string s] 9)).heap.size (w4.alloc (.cells #[.string s] 9)) w5 → w5.heap[w4.heap.size]? = some (.cells #[.string s] 9 (0, 0))) := fun w4 w5 h1 => by
    have e0 : (w4.alloc (.cells #[.string s] 9)).heap[w4.heap.size]? = some (.cells #[.string s] 9 (0, 0)) := new_at w4 _
    exact (h1.block _ (Array.getElem?_eq_some_iff.1 e0).1).trans e0
  have HG3 : Hid (∀ w5 : World, (w5.alloc (.cells #[.string s] 9)).heap[w5.heap.size]? = some (.cells #[.string s] 9 (0, 0))) := fun w5 => new_at w5 _
  have HT2 : Hid (∀ (w4 w5 : World) (o : Obj), Below (w4.alloc o).heap.size (w4.alloc o) w5 → Below w4.heap.size w4 w5) := fun w4 w5 o h => (al_b w4 o).trans (h.mono (al_b w4 o).size)
  have HT3 : Hid (∀ (w4 w5 : World) (o : Obj), Below w4.heap.size w4 w5 → Below w4.heap.size w4 (w5.alloc o)) := fun w4 w5 o h => h.trans ((al_b w5 o).mono h.size)
  have HK8 : Hid (∀ WE : World, (WE.cell? ⟨w.heap.size, 0, none⟩ = some (.int .i64 a) ∧ WE.cell? ⟨w.heap.size, 1, none⟩ = some (.int .i64 b) ∧ WE.cell? ⟨w.heap.size, 2, none⟩ = some (.int .i64 c)) → ∀ u0 u1 u2 u3 u4 u5 u6 u7, ((((((((WE.setCell ⟨w.heap.size + 1, 0, none⟩ u0).setCell ⟨w.heap.size + 1, 1, none⟩ u1).setCell ⟨w.heap.size + 1, 2, none⟩ u2).setCell ⟨w.heap.size + 1, 3, none⟩ u3).setCell ⟨w.heap.size + 1, 4, none⟩ u4).setCell ⟨w.heap.size + 1, 5, none⟩ u5).setCell ⟨w.heap.size + 1, 6, none⟩ u6).setCell ⟨w.heap.size + 1, 7, none⟩ u7).cell? ⟨w.heap.size, 0, none⟩ = some (.int .i64 a) ∧ ((((((((WE.setCell ⟨w.heap.size + 1, 0, none⟩ u0).setCell ⟨w.heap.size + 1, 1, none⟩ u1).setCell ⟨w.heap.size + 1, 2, none⟩ u2).setCell ⟨w.heap.size + 1, 3, none⟩ u3).setCell ⟨w.heap.size + 1, 4, none⟩ u4).setCell ⟨w.heap.size + 1, 5, none⟩ u5).setCell ⟨w.heap.size + 1, 6, none⟩ u6).setCell ⟨w.heap.size + 1, 7, none⟩ u7).cell? ⟨w.heap.size, 1, none⟩ = some (.int .i64 b) ∧ ((((((((WE.setCell ⟨w.heap.size + 1, 0, none⟩ u0).setCell ⟨w.heap.size + 1, 1, none⟩ u1).setCell ⟨w.heap.size + 1, 2, none⟩ u2).setCell ⟨w.heap.size + 1, 3, none⟩ u3).setCell ⟨w.heap.size + 1, 4, none⟩ u4).setCell ⟨w.heap.size + 1, 5, none⟩ u5).setCell ⟨w.heap.size + 1, 6, none⟩ u6).setCell ⟨w.heap.size + 1, 7, none⟩ u7).cell? ⟨w.heap.size, 2, none⟩ = some (.int .i64 c)) := fun WE h u0 u1 u2 u3 u4 u5 u6 u7 => by
    have o : ∀ (W : World) (j k : Nat) (v : Value), (W.setCell ⟨w.heap.size + 1, j, none⟩ v).cell? ⟨w.heap.size, k, none⟩ = W.cell? ⟨w.heap.size, k, none⟩ := fun W j k v => World.cell?_setCell_other _ _ _ _ (by simp only [ne_eq, Addr.mk.injEq, not_and]; intro e; omega)
    simp only [o]
    exact h
  go_wp2_with fail
  go_cut [7] (fun e0 wx => e0 = .int .i64 0 ∧ CtR w ⟨s, ⟨#[]⟩, own, own, [s], a, b, c⟩ wx)
  case first =>
    refine wp_region_held_drew (S := fun w' => w'.cell? ⟨w.heap.size, 0, none⟩ = some (.int .i64 a) ∧ w'.cell? ⟨w.heap.size, 1, none⟩ = some (.int .i64 b) ∧ w'.cell? ⟨w.heap.size, 2, none⟩ = some (.int .i64 c)) (by kernel_rfl) (HId3.out _ HR1.out) (fun hHeld => ?_)
    generalize w3.drew = wd at *
    refine wpAnyH_take (i := 0) (v := ?_) rfl (by kernel_rfl) (by kernel_rfl) (by kernel_rfl) (fun _ _ _ h => h) (Or.inl ⟨by rfl, ?_⟩) hHeld ?_
    rotate_left 1
    · intro w9 hSw; obtain ⟨g0, g1, g2⟩ := hSw; go_simp; try with_reducible rfl
    change wpAnyH _ _ _ _ _ _ _ (Act.put _ (some 24) _) _
    simp only [Act.put, List.setIfInBounds_toArray, List.set_cons_zero, List.set_cons_succ]
    refine wpAnyH_take (i := 1) (v := ?_) rfl (by kernel_rfl) (by kernel_rfl) (by kernel_rfl) (fun _ _ _ h => h) (Or.inl ⟨by rfl, ?_⟩) hHeld ?_
    rotate_left 1
    · intro w9 hSw; obtain ⟨g0, g1, g2⟩ := hSw; go_simp; try with_reducible rfl
    change wpAnyH _ _ _ _ _ _ _ (Act.put _ (some 25) _) _
    simp only [Act.put, List.setIfInBounds_toArray, List.set_cons_zero, List.set_cons_succ]
    refine wpAnyH_take (i := 3) (v := ?_) rfl (by kernel_rfl) (by kernel_rfl) (by kernel_rfl) (fun _ _ _ h => h) (Or.inl ⟨by rfl, ?_⟩) hHeld ?_
    rotate_left 1
    · intro w9 hSw; obtain ⟨g0, g1, g2⟩ := hSw; go_simp; try with_reducible rfl
    change wpAnyH _ _ _ _ _ _ _ (Act.put _ (some 27) _) _
    simp only [Act.put, List.setIfInBounds_toArray, List.set_cons_zero, List.set_cons_succ]
    refine wpAnyH_take (i := 5) (v := ?_) rfl (by kernel_rfl) (by kernel_rfl) (by kernel_rfl) (fun _ _ _ h => h) (Or.inl ⟨by rfl, ?_⟩) hHeld ?_
    rotate_left 1
    · intro w9 hSw; obtain ⟨g0, g1, g2⟩ := hSw; go_simp; try with_reducible rfl
    change wpAnyH _ _ _ _ _ _ _ (Act.put _ (some 29) _) _
    simp only [Act.put, List.setIfInBounds_toArray, List.set_cons_zero, List.set_cons_succ]
    refine wpAnyH_take (i := 7) (v := ?_) rfl (by kernel_rfl) (by kernel_rfl) (by kernel_rfl) (fun _ _ _ h => h) (Or.inl ⟨by rfl, ?_⟩) hHeld ?_
    rotate_left 1
    · intro w9 hSw; obtain ⟨g0, g1, g2⟩ := hSw; go_simp; try with_reducible rfl
    change wpAnyH _ _ _ _ _ _ _ (Act.put _ (some 31) _) _
    simp only [Act.put, List.setIfInBounds_toArray, List.set_cons_zero, List.set_cons_succ]
    refine wpAnyH_ready (rs := [2, 6]) (by kernel_rfl) (by simp) ?_
    refine AllReadyH.cons rfl (fun K hK => ?_) (AllReadyH.cons rfl (fun K hK => ?_) AllReadyH.nil)
    · go_simp
      refine (HCl.out _ (HR1.out)).mono ?_
      rintro e w4 ⟨x1, y1, rfl, HO1, hb4, hc4⟩
      go_simp
      refine hK.out _ _ (HId3.out _ hb4) (fun hHeld => ?_)
      clear hK K
      refine wpAnyH_ready (rs := [4, 6]) (by kernel_rfl) (by simp) ?_
      refine AllReadyH.cons rfl (fun K hK => ?_) (AllReadyH.cons rfl (fun K hK => ?_) AllReadyH.nil)
      · go_simp
        refine (HCl.out _ (hb4)).mono ?_
        rintro e w5 ⟨x2, y2, rfl, HO2, hb5, hc5⟩
        go_simp
        refine hK.out _ _ (HId3.out _ hb5) (fun hHeld => ?_)
        clear hK K
        refine wpAnyH_ready (rs := [6]) (by kernel_rfl) (by simp) ?_
        refine AllReadyH.cons rfl (fun K hK => ?_) AllReadyH.nil
        go_simp
        refine hK.out _ _ (HId3.out _ (HR3.out _ _ (hb5))) (fun hHeld => ?_)
        clear hK K
        refine wpAnyH_take (i := 8) (v := ?_) rfl (by kernel_rfl) (by kernel_rfl) (by kernel_rfl) (fun _ _ _ h => h) (Or.inl ⟨by rfl, ?_⟩) hHeld ?_
        rotate_left 1
        · intro w9 hSw; obtain ⟨g0, g1, g2⟩ := hSw; go_simp; try with_reducible rfl
        change wpAnyH _ _ _ _ _ _ _ (Act.put _ (some 32) _) _
        simp only [Act.put, List.setIfInBounds_toArray, List.set_cons_zero, List.set_cons_succ]
        obtain ⟨⟨m0, m1, m2, m3⟩, m4, m5, m6, m7⟩ := HZ.out _ (HR3.out w5 (.cells #[.string s] 9) hb5)
        have mf := HF1.out _ (HR3.out w5 (.cells #[.string s] 9) hb5)
        obtain ⟨ms1, ms2⟩ := HSz.out _ (HR3.out w5 (.cells #[.string s] 9) hb5)
        have HCt : Hid _ := HFin.out w4 w5 (w5.alloc (.cells #[.string s] 9)) x1 y1 x2 y2 w5.heap.size HO1 HO2 (HT3.out _ _ _ hc5) (al_b w5 _) (HG3.out w5) hb5.size (HR3.out _ _ hb5)
        have HB9 : Hid (Below W0.heap.size W0 (w5.alloc (.cells #[.string s] 9))) := HR3.out w5 (.cells #[.string s] 9) hb5
        have HC3 := HId3.out _ HB9.out
        generalize (w5.alloc (.cells #[.string s] 9)) = WE at *
        refine wpAnyH_ready (rs := [9]) (by kernel_rfl) (by simp) ?_
        refine AllReadyH.cons rfl (fun K hK => ?_) AllReadyH.nil
        go_simp
        refine hK.out _ _ (HK8.out WE HC3 _ _ _ _ _ _ _ _) (fun hHeld => ?_)
        clear hK K
        refine wpAnyH_ready (rs := [10]) (by kernel_rfl) (by simp) ?_
        refine AllReadyH.cons rfl (fun K hK => ?_) AllReadyH.nil
        go_simp
        refine hK.out _ _ hHeld (fun hHeld => ?_)
        clear hK K
        refine wpAnyH_done (by kernel_rfl) ?_ _
        try go_wp2_with fail
        go_meet
        exact ⟨rfl, HCt.out⟩
      · go_simp
        refine hK.out _ _ (HId3.out _ (HR3.out _ _ (hb4))) (fun hHeld => ?_)
        clear hK K
        refine wpAnyH_ready (rs := [4]) (by kernel_rfl) (by simp) ?_
        refine AllReadyH.cons rfl (fun K hK => ?_) AllReadyH.nil
        go_simp
        refine (HCl.out _ (HR3.out _ _ hb4)).mono ?_
        rintro e w5 ⟨x2, y2, rfl, HO2, hb5, hc5⟩
        go_simp
        refine hK.out _ _ (HId3.out _ hb5) (fun hHeld => ?_)
        clear hK K
        refine wpAnyH_take (i := 8) (v := ?_) rfl (by kernel_rfl) (by kernel_rfl) (by kernel_rfl) (fun _ _ _ h => h) (Or.inl ⟨by rfl, ?_⟩) hHeld ?_
        rotate_left 1
        · intro w9 hSw; obtain ⟨g0, g1, g2⟩ := hSw; go_simp; try with_reducible rfl
        change wpAnyH _ _ _ _ _ _ _ (Act.put _ (some 32) _) _
        simp only [Act.put, List.setIfInBounds_toArray, List.set_cons_zero, List.set_cons_succ]
        obtain ⟨⟨m0, m1, m2, m3⟩, m4, m5, m6, m7⟩ := HZ.out _ (hb5)
        have mf := HF1.out _ (hb5)
        obtain ⟨ms1, ms2⟩ := HSz.out _ (hb5)
        have HCt : Hid _ := HFin.out w4 w5 w5 x1 y1 x2 y2 w4.heap.size HO1 HO2 (HT2.out _ _ _ hc5) (Below.refl _ _) (HG2.out _ _ hc5) hb4.size hb5
        have HB9 : Hid (Below W0.heap.size W0 w5) := hb5
        have HC3 := HId3.out _ HB9.out
        obtain ⟨WE, rfl⟩ : ∃ WE, WE = w5 := ⟨_, rfl⟩
        refine wpAnyH_ready (rs := [9]) (by kernel_rfl) (by simp) ?_
        refine AllReadyH.cons rfl (fun K hK => ?_) AllReadyH.nil
        go_simp
        refine hK.out _ _ (HK8.out WE HC3 _ _ _ _ _ _ _ _) (fun hHeld => ?_)
        clear hK K
        refine wpAnyH_ready (rs := [10]) (by kernel_rfl) (by simp) ?_
        refine AllReadyH.cons rfl (fun K hK => ?_) AllReadyH.nil
        go_simp
        refine hK.out _ _ hHeld (fun hHeld => ?_)
        clear hK K
        refine wpAnyH_done (by kernel_rfl) ?_ _
        try go_wp2_with fail
        go_meet
        exact ⟨rfl, HCt.out⟩
    · go_simp
      refine hK.out _ _ (HId3.out _ (HR3.out _ _ (HR1.out))) (fun hHeld => ?_)
      clear hK K
      refine wpAnyH_ready (rs := [2]) (by kernel_rfl) (by simp) ?_
      refine AllReadyH.cons rfl (fun K hK => ?_) AllReadyH.nil
      go_simp
      refine (HCl.out _ (HR3.out _ _ HR1.out)).mono ?_
      rintro e w4 ⟨x1, y1, rfl, HO1, hb4, hc4⟩
      go_simp
      refine hK.out _ _ (HId3.out _ hb4) (fun hHeld => ?_)
      clear hK K
      refine wpAnyH_ready (rs := [4]) (by kernel_rfl) (by simp) ?_
      refine AllReadyH.cons rfl (fun K hK => ?_) AllReadyH.nil
      go_simp
      refine (HCl.out _ (hb4)).mono ?_
      rintro e w5 ⟨x2, y2, rfl, HO2, hb5, hc5⟩
      go_simp
      refine hK.out _ _ (HId3.out _ hb5) (fun hHeld => ?_)
      clear hK K
      refine wpAnyH_take (i := 8) (v := ?_) rfl (by kernel_rfl) (by kernel_rfl) (by kernel_rfl) (fun _ _ _ h => h) (Or.inl ⟨by rfl, ?_⟩) hHeld ?_
      rotate_left 1
      · intro w9 hSw; obtain ⟨g0, g1, g2⟩ := hSw; go_simp; try with_reducible rfl
      change wpAnyH _ _ _ _ _ _ _ (Act.put _ (some 32) _) _
      simp only [Act.put, List.setIfInBounds_toArray, List.set_cons_zero, List.set_cons_succ]
      obtain ⟨⟨m0, m1, m2, m3⟩, m4, m5, m6, m7⟩ := HZ.out _ (hb5)
      have mf := HF1.out _ (hb5)
      obtain ⟨ms1, ms2⟩ := HSz.out _ (hb5)
      have HCt : Hid _ := HFin.out w4 w5 w5 x1 y1 x2 y2 wd.heap.size HO1 HO2 hc5 (Below.refl _ _) (HG1.out wd w4 w5 hc4 hc5) HR1.out.size hb5
      have HB9 : Hid (Below W0.heap.size W0 w5) := hb5
      have HC3 := HId3.out _ HB9.out
      obtain ⟨WE, rfl⟩ : ∃ WE, WE = w5 := ⟨_, rfl⟩
      refine wpAnyH_ready (rs := [9]) (by kernel_rfl) (by simp) ?_
      refine AllReadyH.cons rfl (fun K hK => ?_) AllReadyH.nil
      go_simp
      refine hK.out _ _ (HK8.out WE HC3 _ _ _ _ _ _ _ _) (fun hHeld => ?_)
      clear hK K
      refine wpAnyH_ready (rs := [10]) (by kernel_rfl) (by simp) ?_
      refine AllReadyH.cons rfl (fun K hK => ?_) AllReadyH.nil
      go_simp
      refine hK.out _ _ hHeld (fun hHeld => ?_)
      clear hK K
      refine wpAnyH_done (by kernel_rfl) ?_ _
      try go_wp2_with fail
      go_meet
      exact ⟨rfl, HCt.out⟩
  case rest =>
    obtain ⟨rfl, y, hy, HT, HN1, HB1, HX1⟩ := hcut
    obtain ⟨⟨c0, c1, c2, c3⟩, c4, c5, c6, c7⟩ := HX1.out
    have HEnd : Hid (MkP (⟨s, ⟨#[]⟩, own, own, [s], a, b, c⟩, 0) w (.returned (.tuple #[ltV y, .int .i64 0])) wc) := ⟨y, rfl, hy, HT.out, HN1.out.le (by omega), HB1.out⟩
    clear HX1 HT HN1 HB1 HFin HG1 HG2 HG3 HT2 HT3 HR1 HR3 HSz HZ HF1 HBw HN HC HI HCl HId3 HK8 hy
    go_wp2_with fail
    try simp only [Exit.inBlock, Exit.then]
    refine bodyPost_ret (v := .tuple #[ltV y, .int .i64 0]) ?_ rfl HEnd.out
    rw [results_c2 rfl]; go_simp
end Go.Proofs.YtlndgepoekllkaaGreatDoor
/- forest.Of: its walk. -/
namespace Go.Proofs.YtlndgepoekllkaaGreatDoor
open Go.RowKit Go.ChangeMaps

end Go.Proofs.YtlndgepoekllkaaGreatDoor
/- slices.Grow of nothing, slices.Concat of two rows of names: walks. -/
namespace Go.Proofs.YtlndgepoekllkaaGreatDoor
open Go.RowKit Go.ChangeMaps

end Go.Proofs.YtlndgepoekllkaaGreatDoor
/- What is made can be added: plain mathematics of forests. -/
namespace Go.Proofs.YtlndgepoekllkaaGreatDoor
open Go.RowKit

/-- All names of a chain are names, none the same as another one. -/
theorem clm_full : ∀ (ch : List ByteArray) (b : List (List UInt8)), b.length + ch.length ≤ (clm b ch).length ↔ (∀ s ∈ ch, checkL s.data.toList = 0) ∧ (ch.map fun s => foldL s.data.toList).Nodup ∧ ∀ s ∈ ch, ¬ foldL s.data.toList ∈ b
  | [], b => by simp [clm]
  | s :: r, b => by
    rw [clm]
    split
    · rename_i h
      have ih := clm_full r (b ++ [foldL s.data.toList])
      rw [List.length_append, List.length_singleton] at ih
      rw [List.length_cons, show b.length + (r.length + 1) = b.length + 1 + r.length by omega, ih, List.map_cons, List.nodup_cons]
      constructor
      · rintro ⟨h1, h2, h3⟩
        refine ⟨?_, ⟨?_, h2⟩, ?_⟩
        · intro x hx
          rcases List.mem_cons.1 hx with rfl | hx
          · exact h.1
          · exact h1 x hx
        · intro hm
          obtain ⟨x, hx, e⟩ := List.mem_map.1 hm
          exact h3 x hx (by rw [e]; simp)
        · intro x hx
          rcases List.mem_cons.1 hx with rfl | hx
          · exact h.2
          · intro hb; exact h3 x hx (by simp [hb])
      · rintro ⟨h1, ⟨h2, h3⟩, h4⟩
        refine ⟨fun x hx => h1 x (by simp [hx]), h3, fun x hx hm => ?_⟩
        rcases List.mem_append.1 hm with hm | hm
        · exact h4 x (by simp [hx]) hm
        · have := List.mem_singleton.1 hm
          exact h2 (List.mem_map.2 ⟨x, hx, this⟩)
    · rename_i h
      constructor
      · intro hl; rw [List.length_cons] at hl; omega
      · rintro ⟨h1, h2, h3⟩
        exact absurd ⟨h1 s (by simp), h3 s (by simp)⟩ h
theorem chain_iff (ch : List ByteArray) : ch.length ≤ (clm [] ch).length ↔ (∀ s ∈ ch, checkL s.data.toList = 0) ∧ (ch.map fun s => foldL s.data.toList).Nodup := by
  have := clm_full ch []
  simpa using this
theorem chkT_iff (t : Ty) : chkT t = true ↔ 1 ≤ t.ch.length ∧ t.ch.length ≤ 8 ∧ t.ch[0]? = some t.n ∧ ((∀ s ∈ t.ch, checkL s.data.toList = 0) ∧ (t.ch.map fun s => foldL s.data.toList).Nodup) ∧ chkR t = true := by
  unfold chkT
  simp only [Bool.and_eq_true, decide_eq_true_eq, chain_iff]
end Go.Proofs.YtlndgepoekllkaaGreatDoor
/- forest.Below: its walk. -/
namespace Go.Proofs.YtlndgepoekllkaaGreatDoor
open Go.RowKit Go.ChangeMaps

end Go.Proofs.YtlndgepoekllkaaGreatDoor
/- forest.isBelow: its walk. -/
namespace Go.Proofs.YtlndgepoekllkaaGreatDoor
open Go.RowKit Go.ChangeMaps

end Go.Proofs.YtlndgepoekllkaaGreatDoor
/- forest.Is: its walk. -/
namespace Go.Proofs.YtlndgepoekllkaaGreatDoor
open Go.RowKit Go.ChangeMaps

theorem str0 (s : ByteArray) : (s.toList == ([] : List UInt8)) = decide (s.size = 0) := by
  rw [Bool.eq_iff_iff, beq_iff_eq, decide_eq_true_eq, ByteArray.toList_eq]
  constructor
  · intro h
    have e : s.data.toList.length = s.size := by simp
    rw [h] at e
    exact e.symm
  · intro h
    apply List.eq_nil_of_length_eq_zero
    have e : s.data.toList.length = s.size := by simp
    omega
theorem str0' (s : ByteArray) : (s.toList == (⟨#[]⟩ : ByteArray).toList) = decide (s.size = 0) := by rw [← str0, ByteArray.toList_eq ⟨#[]⟩]
end Go.Proofs.YtlndgepoekllkaaGreatDoor
/- forest.Make: its walk. -/
namespace Go.Proofs.YtlndgepoekllkaaGreatDoor
open Go.RowKit Go.ChangeMaps

end Go.Proofs.YtlndgepoekllkaaGreatDoor
/- forest.copied: a walk. -/
namespace Go.Proofs.YtlndgepoekllkaaGreatDoor
open Go.RowKit Go.ChangeMaps

theorem results_c1 {fn : Func} {p : Tmp} {ty : TypeId} (h : fn.results = #[.cell p ty]) (tmps : Array Value) (P : Program) (w : World) :
    (results fn tmps).run P w = ((asAddr (tmps.getD p undef)).run P w).andThen fun a w₁ => (loadVar ty a).run P w₁ := by
  simp only [results, h]
  simp [Sem.run_bind, Result.andThen]
/-- Behind the three stores. -/
def CtT (w : World) (t : Ty) (wx : World) : Prop := ∃ x1 y1 x2 y2 x3 y3, Hid (OwnTy (w.heap.size + 2) wx t (.slice x1 t.own.length y1) (.slice x2 t.all.length y2) (.slice x3 t.ch.length y3)) ∧ Hid (Below w.heap.size w wx) ∧ Hid (BxT w.heap.size t (.slice x1 t.own.length y1) (.slice x2 t.all.length y2) (.slice x3 t.ch.length y3) wx) ∧ Hid (∀ j, wx.frozen? ⟨w.heap.size + 1, j, none⟩ = false) ∧ Hid (BxT (w.heap.size + 1) ⟨⟨#[]⟩, ⟨#[]⟩, [], [], [], 0, 0, 0⟩ (.slice none 0 0) (.slice none 0 0) (.slice none 0 0) wx)
end Go.Proofs.YtlndgepoekllkaaGreatDoor
/- forest.Find: its walk. -/
namespace Go.Proofs.YtlndgepoekllkaaGreatDoor
open Go.RowKit Go.ChangeMaps

/-- Rows of types are not too long to be copied. -/
def SmT (t : Ty) : Prop := t.own.length ≤ 1000 ∧ t.all.length ≤ 1000 ∧ t.ch.length ≤ 1000
end Go.Proofs.YtlndgepoekllkaaGreatDoor
