/- forest.Check at any type: its walk. -/
import Derived.Test.YthdbnlpbidkojaaDoorZk6
import Derived.Test.YthdbnlpbidkojaaDoorZk4
import Derived.Deep.QuietTactic
import Derived.BigQuiet
import Derived.Test.YthdbnlpbidkojaaDoorZk5
namespace Go.Proofs.YthdbnlpbidkojaaDoor
open Go.RowKit

/-- A type, plainly. -/
structure Ty where
  n : ByteArray
  p : ByteArray
  own : List Fd
  all : List Fd
  ch : List ByteArray
  nd : Int
  lf : Int
  sq : Int
abbrev tyA (t : Ty) (vo va vc : Value) : Array Value := #[.string t.n, .string t.p, vo, va, vc, .int .i64 t.nd, .int .i64 t.lf, .int .i64 t.sq]
abbrev tyV (t : Ty) (vo va vc : Value) : Value := .agg (tyA t vo va vc)
/-- The rows of a type. -/
def IsTy (w : World) (t : Ty) (vo va vc : Value) : Prop := IsRow w 3 vo t.own.length (fCells t.own) ∧ IsRow w 3 va t.all.length (fCells t.all) ∧ IsRow w 1 vc t.ch.length (sVals t.ch)
theorem IsTy.below {w w' : World} {t : Ty} {vo va vc : Value} (h : IsTy w t vo va vc) (hb : Below w.heap.size w w') : IsTy w' t vo va vc := ⟨h.1.below hb, h.2.1.below hb, h.2.2.below hb⟩
/-- It is not too great to be looked at. -/
structure NmT (t : Ty) : Prop where
  n : t.n.size ≤ 1000000
  p : t.p.size ≤ 1000000
  c : ∀ s ∈ t.ch, s.size ≤ 1000000
  o : NmF t.own
  a : NmF t.all
  lo : t.own.length ≤ 1000000
  la : t.all.length ≤ 1000000
  lc : t.ch.length ≤ 1000000
/-- What a type may be behind its names. -/
def chkR (t : Ty) : Bool := idB t.nd t.lf t.sq && (chkF t.own && (chkF t.all && (if t.ch.length = 1 then decide (t.p.size = 0) && sameR t.all t.own else decide (t.ch[1]? = some t.p) && withinL t.own t.all)))
/-- May a type be? -/
def chkT (t : Ty) : Bool := decide (1 ≤ t.ch.length) && (decide (t.ch.length ≤ 8) && (decide (t.ch[0]? = some t.n) && (decide (t.ch.length ≤ (clm [] t.ch).length) && chkR t)))
theorem strNe (a b : ByteArray) : (!(a.toList == b.toList)) = !decide (a = b) := by
  congr 1
  rw [Bool.eq_iff_iff, beq_iff_eq, decide_eq_true_eq, ByteArray.toList_eq, ByteArray.toList_eq]
  exact ⟨fun h => ba_eq h, fun h => by rw [h]⟩
theorem strEqB (a b : ByteArray) : (a.toList == b.toList) = decide (a = b) := by
  rw [Bool.eq_iff_iff, beq_iff_eq, decide_eq_true_eq, ByteArray.toList_eq, ByteArray.toList_eq]
  exact ⟨fun h => ba_eq h, fun h => by rw [h]⟩
set_option maxRecDepth 100000 in
set_option maxHeartbeats 4000000 in
theorem checkT_any (t : Ty) (vo va vc : Value) (w : World) (hr : IsTy w t vo va vc) (hn : NmT t) (hU : UT w) (hM : ML w) :
    Calls Tryd.prog 22 #[tyV t vo va vc] w fun e w' => e = .returned (.bool (chkT t)) ∧ Below w.heap.size w w' := by
  obtain ⟨r1, r2, r3⟩ := hr
  obtain ⟨ao, co, rfl⟩ := r1.form
  obtain ⟨aa, ca, rfl⟩ := r2.form
  obtain ⟨ac, cc, rfl⟩ := r3.form
  have hA := al_b w (.cells (tyA t (.slice ao t.own.length co) (.slice aa t.all.length ca) (.slice ac t.ch.length cc)) 29)
  obtain ⟨W0, hW0⟩ : ∃ W0, W0 = w.alloc (.cells (tyA t (.slice ao t.own.length co) (.slice aa t.all.length ca) (.slice ac t.ch.length cc)) 29) := ⟨_, rfl⟩
  rw [← hW0] at hA
  have hnb : W0.heap[w.heap.size]? = some (.cells (tyA t (.slice ao t.own.length co) (.slice aa t.all.length ca) (.slice ac t.ch.length cc)) 29 (0, 0)) := by rw [hW0]; exact new_at w _
  have hlt : w.heap.size < W0.heap.size := (Array.getElem?_eq_some_iff.1 hnb).1
  have hcell : ∀ j, W0.cell? ⟨w.heap.size, j, none⟩ = (tyA t (.slice ao t.own.length co) (.slice aa t.all.length ca) (.slice ac t.ch.length cc))[j]? := fun j => by rw [Lib.cell_of_heap hnb]
  have HX : Hid (∀ W, Below W0.heap.size W0 W → (W.cell? ⟨w.heap.size, 0, none⟩ = some (.string t.n) ∧ W.cell? ⟨w.heap.size, 1, none⟩ = some (.string t.p) ∧ W.cell? ⟨w.heap.size, 2, none⟩ = some (.slice ao t.own.length co) ∧ W.cell? ⟨w.heap.size, 3, none⟩ = some (.slice aa t.all.length ca)) ∧ W.cell? ⟨w.heap.size, 4, none⟩ = some (.slice ac t.ch.length cc) ∧ W.cell? ⟨w.heap.size, 5, none⟩ = some (.int .i64 t.nd) ∧ W.cell? ⟨w.heap.size, 6, none⟩ = some (.int .i64 t.lf) ∧ W.cell? ⟨w.heap.size, 7, none⟩ = some (.int .i64 t.sq)) := fun W h => ⟨⟨(h.cell (p := ⟨w.heap.size, 0, none⟩) hlt).trans (hcell 0), (h.cell (p := ⟨w.heap.size, 1, none⟩) hlt).trans (hcell 1), (h.cell (p := ⟨w.heap.size, 2, none⟩) hlt).trans (hcell 2), (h.cell (p := ⟨w.heap.size, 3, none⟩) hlt).trans (hcell 3)⟩, (h.cell (p := ⟨w.heap.size, 4, none⟩) hlt).trans (hcell 4), (h.cell (p := ⟨w.heap.size, 5, none⟩) hlt).trans (hcell 5), (h.cell (p := ⟨w.heap.size, 6, none⟩) hlt).trans (hcell 6), (h.cell (p := ⟨w.heap.size, 7, none⟩) hlt).trans (hcell 7)⟩
  have HBw : Hid (∀ W, Below W0.heap.size W0 W → Below w.heap.size w W) := fun W h => hA.trans (h.mono hA.size)
  have HCl : Hid (∀ W, t.ch.length ≤ 8 → Below W0.heap.size W0 W → Calls Tryd.prog 42 #[.slice ac t.ch.length cc] W fun e w' => e = .returned (.int .i64 ((clm [] t.ch).length : Int)) ∧ Below W.heap.size W w') := fun W h8 h => climb_any _ t.ch W (r3.below (HBw.out W h)) (by omega) hn.c (Utf8Tabs_below hU (HBw.out W h))
  have HCh : Hid (∀ (i : Nat) (hi : i < t.ch.length) W, Below W0.heap.size W0 W → ∃ b off, ac = some ⟨b, off, none⟩ ∧ W.cell? ⟨b, off + i, none⟩ = some (.string t.ch[i])) := fun i hi W h => by
    obtain ⟨b, off, e, -, -, -, hc⟩ := s_at (r3.below (HBw.out W h)) (by omega)
    exact ⟨b, off, e, hc i hi⟩
  have HId : Hid (∀ W, Calls Tryd.prog 20 #[idV t.nd t.lf t.sq] W fun e w' => e = .returned (.bool (idB t.nd t.lf t.sq)) ∧ Below W.heap.size W w') := fun W => isID_any _ _ _ W
  have HC1 : Hid (∀ W, Below W0.heap.size W0 W → Calls Tryd.prog 19 #[.slice ao t.own.length co] W fun e w' => e = .returned (.bool (chkF t.own)) ∧ Below W.heap.size W w') := fun W h => checkF_any _ t.own W (r1.below (HBw.out W h)) hn.lo hn.o (Utf8Tabs_below hU (HBw.out W h)) (ML_below hM (HBw.out W h))
  have HC2 : Hid (∀ W, Below W0.heap.size W0 W → Calls Tryd.prog 19 #[.slice aa t.all.length ca] W fun e w' => e = .returned (.bool (chkF t.all)) ∧ Below W.heap.size W w') := fun W h => checkF_any _ t.all W (r2.below (HBw.out W h)) hn.la hn.a (Utf8Tabs_below hU (HBw.out W h)) (ML_below hM (HBw.out W h))
  have HEq : Hid (∀ W, Below W0.heap.size W0 W → Calls Tryd.prog 35 #[.slice aa t.all.length ca, .slice ao t.own.length co] W fun e w' => e = .returned (.bool (sameR t.all t.own)) ∧ Below W.heap.size W w') := fun W h => equalF_any _ _ t.all t.own W (r2.below (HBw.out W h)) (r1.below (HBw.out W h)) hn.la hn.lo
  have HWi : Hid (∀ W, Below W0.heap.size W0 W → Calls Tryd.prog 43 #[.slice ao t.own.length co, .slice aa t.all.length ca] W fun e w' => e = .returned (.bool (withinL t.own t.all)) ∧ Below W.heap.size W w') := fun W h => withinF_any _ _ t.own t.all W (r1.below (HBw.out W h)) (r2.below (HBw.out W h)) hn.lo hn.la hn.o hn.a (Utf8Tabs_below hU (HBw.out W h))
  have hchk : chkT t = (decide (1 ≤ t.ch.length) && (decide (t.ch.length ≤ 8) && (decide (t.ch[0]? = some t.n) && (decide (t.ch.length ≤ (clm [] t.ch).length) && chkR t)))) := rfl
  have hchr : chkR t = (idB t.nd t.lf t.sq && (chkF t.own && (chkF t.all && (if t.ch.length = 1 then decide (t.p.size = 0) && sameR t.all t.own else decide (t.ch[1]? = some t.p) && withinL t.own t.all)))) := rfl
  generalize hRR : chkR t = RR at *
  generalize hTT : chkT t = TT at *
  clear hn hU hM r1 r2 r3 hcell hnb hRR hTT
  by_cases h1 : 1 ≤ t.ch.length
  rotate_left
  · have hf : TT = false := by rw [hchk, decide_eq_false h1, Bool.false_and]
    have d1 : decide ((t.ch.length : Int) < 1) = true := decide_eq_true (by omega)
    have d1' : decide (t.ch.length < 1) = true := decide_eq_true (by omega)
    rw [hf]
    clear hchk hchr hf h1 HCl HCh HId HC1 HC2 HEq HWi
    go_enter Tryd.func22, Tryd.ntmps22
    go_wp2_with fail
    rw [← hW0]
    clear hW0
    refine wp_region_quiet (C := fun w' => Below W0.heap.size W0 w') (by kernel_rfl) (by kernel_rfl) ((Below.refl _ _).drew) ?_
    dsimp only
    repeat (first
      | go_big_quiet_skip
      | (go_big_quiet_want
         apply Exists.intro
         refine ⟨fun W' hW' => ?_, ?_⟩
         · have hw : Below W0.heap.size W0 W' := hW'
           obtain ⟨⟨g0, g1, g2, g3⟩, g4, g5, g6, g7⟩ := HX.out W' hw
           skip
           go_simp
           first
             | done
             | rfl
         go_big_quiet_on
         try simp only [Act.put, List.setIfInBounds_toArray, List.set_cons_zero, List.set_cons_succ]))
    refine wpQuiet_nil ?_
    intro w2 hqw2
    have Hw2 : Hid (Below W0.heap.size W0 w2) := hqw2
    clear hqw2
    go_wp2
    go_ret
    exact ⟨rfl, HBw.out _ Hw2.out⟩
  have d1 : decide ((t.ch.length : Int) < 1) = false := decide_eq_false (by omega)
  have d1' : decide (t.ch.length < 1) = false := decide_eq_false (by omega)
  by_cases h8 : t.ch.length ≤ 8
  rotate_left
  · have hf : TT = false := by rw [hchk, decide_eq_false h8, Bool.false_and, Bool.and_false]
    have d2 : decide ((8 : Int) < (t.ch.length : Int)) = true := by simp; omega
    have d2' : decide (8 < t.ch.length) = true := by simp; omega
    rw [hf]
    clear hchk hchr hf h1 h8 HCl HCh HId HC1 HC2 HEq HWi
    go_enter Tryd.func22, Tryd.ntmps22
    go_wp2_with fail
    rw [← hW0]
    clear hW0
    refine wp_region_quiet (C := fun w' => Below W0.heap.size W0 w') (by kernel_rfl) (by kernel_rfl) ((Below.refl _ _).drew) ?_
    dsimp only
    repeat (first
      | go_big_quiet_skip
      | (go_big_quiet_want
         apply Exists.intro
         refine ⟨fun W' hW' => ?_, ?_⟩
         · have hw : Below W0.heap.size W0 W' := hW'
           obtain ⟨⟨g0, g1, g2, g3⟩, g4, g5, g6, g7⟩ := HX.out W' hw
           skip
           go_simp
           first
             | done
             | rfl
         go_big_quiet_on
         try simp only [Act.put, List.setIfInBounds_toArray, List.set_cons_zero, List.set_cons_succ]))
    refine wpQuiet_nil ?_
    intro w2 hqw2
    have Hw2 : Hid (Below W0.heap.size W0 w2) := hqw2
    clear hqw2
    go_wp2
    go_ret
    exact ⟨rfl, HBw.out _ Hw2.out⟩
  have d2 : decide ((8 : Int) < (t.ch.length : Int)) = false := by simp; omega
  have d2' : decide (8 < t.ch.length) = false := by simp; omega
  have i0 : (0 : Int) < (t.ch.length : Int) := by omega
  have h0l : 0 < t.ch.length := by omega
  have e0 : t.ch[0]? = some (t.ch[0]'h0l) := List.getElem?_eq_getElem h0l
  have HC0 : Hid (∀ W, Below W0.heap.size W0 W → ∃ b off, ac = some ⟨b, off, none⟩ ∧ W.cell? ⟨b, off, none⟩ = some (.string (t.ch[0]'h0l))) := fun W h => by
    obtain ⟨b, off, e, hc⟩ := HCh.out 0 h0l W h
    exact ⟨b, off, e, by simpa using hc⟩
  have eN := strNe (t.ch[0]'h0l) t.n
  rw [e0] at hchk
  generalize t.ch[0]'h0l = c0 at *
  obtain ⟨b, off, rfl, -⟩ := HC0.out W0 (Below.refl _ _)
  have HC0' : Hid (∀ W, Below W0.heap.size W0 W → W.cell? ⟨b, off, none⟩ = some (.string c0)) := fun W h => by
    obtain ⟨b', off', e, hc⟩ := HC0.out W h
    obtain ⟨rfl, rfl, -⟩ := Addr.mk.inj (Option.some.inj e)
    exact hc
  clear HC0
  by_cases hn0 : c0 = t.n
  rotate_left
  · have hf : TT = false := by rw [hchk, decide_eq_false (fun e => hn0 (Option.some.inj e)), Bool.false_and, Bool.and_false, Bool.and_false]
    rw [decide_eq_false hn0] at eN
    rw [hf]
    clear hchk hchr hf h1 HCl HCh HId HC1 HC2 HEq HWi hn0
    go_enter Tryd.func22, Tryd.ntmps22
    go_wp2_with fail
    rw [← hW0]
    clear hW0
    refine wp_region_quiet (C := fun w' => Below W0.heap.size W0 w') (by kernel_rfl) (by kernel_rfl) ((Below.refl _ _).drew) ?_
    dsimp only
    repeat (first
      | go_big_quiet_skip
      | (go_big_quiet_want
         apply Exists.intro
         refine ⟨fun W' hW' => ?_, ?_⟩
         · have hw : Below W0.heap.size W0 W' := hW'
           obtain ⟨⟨g0, g1, g2, g3⟩, g4, g5, g6, g7⟩ := HX.out W' hw
           have g8 := HC0'.out W' hw
           go_simp
           first
             | done
             | rfl
         go_big_quiet_on
         try simp only [Act.put, List.setIfInBounds_toArray, List.set_cons_zero, List.set_cons_succ]))
    refine wpQuiet_nil ?_
    intro w2 hqw2
    have Hw2 : Hid (Below W0.heap.size W0 w2) := hqw2
    clear hqw2
    go_wp2
    go_ret
    exact ⟨rfl, HBw.out _ Hw2.out⟩
  rw [decide_eq_true hn0] at eN
  have hch2 : TT = (decide (t.ch.length ≤ (clm [] t.ch).length) && RR) := by rw [hchk, decide_eq_true h1, decide_eq_true h8, decide_eq_true (by rw [hn0]), Bool.true_and, Bool.true_and, Bool.true_and]
  clear hchk
  by_cases hcl : t.ch.length ≤ (clm [] t.ch).length
  rotate_left
  · have hf : TT = false := by rw [hch2, decide_eq_false hcl, Bool.false_and]
    have d3 : decide (((clm [] t.ch).length : Int) < (t.ch.length : Int)) = true := by simp; omega
    have d3' : decide ((clm [] t.ch).length < t.ch.length) = true := by simp; omega
    rw [hf]
    generalize (clm [] t.ch).length = CN at *
    clear hch2 hchr hf h1 HCh HId HC1 HC2 HEq HWi hcl
    go_enter Tryd.func22, Tryd.ntmps22
    go_wp2_with fail
    rw [← hW0]
    clear hW0
    refine wp_region_quiet (C := fun w' => Below W0.heap.size W0 w') (by kernel_rfl) (by kernel_rfl) ((Below.refl _ _).drew) ?_
    dsimp only
    repeat (first
      | go_big_quiet_skip
      | (go_big_quiet_want
         apply Exists.intro
         refine ⟨fun W' hW' => ?_, ?_⟩
         · have hw : Below W0.heap.size W0 W' := hW'
           obtain ⟨⟨g0, g1, g2, g3⟩, g4, g5, g6, g7⟩ := HX.out W' hw
           have g8 := HC0'.out W' hw
           go_simp
           first
             | done
             | rfl
             | (go_at_call 42; refine (HCl.out W' h8 hw).mono ?_; rintro e w'' ⟨rfl, hb⟩; exact ⟨rfl, hw.trans (hb.mono hw.size)⟩)
         go_big_quiet_on
         try simp only [Act.put, List.setIfInBounds_toArray, List.set_cons_zero, List.set_cons_succ]))
    refine wpQuiet_nil ?_
    intro w2 hqw2
    have Hw2 : Hid (Below W0.heap.size W0 w2) := hqw2
    clear hqw2
    go_wp2
    go_ret
    exact ⟨rfl, HBw.out _ Hw2.out⟩
  have hch3 : TT = RR := by rw [hch2, decide_eq_true hcl, Bool.true_and]
  have d3 : decide (((clm [] t.ch).length : Int) < (t.ch.length : Int)) = false := by simp; omega
  have d3' : decide ((clm [] t.ch).length < t.ch.length) = false := by simp; omega
  clear hch2 hcl
  rw [hch3]
  generalize (clm [] t.ch).length = CN at *
  have HF : Hid (∀ W, Below W0.heap.size W0 W → Below w.heap.size w W) := HBw
  cases hid : idB t.nd t.lf t.sq
  · have hf : RR = false := by rw [hchr, hid, Bool.false_and]
    rw [hid] at HId
    rw [hf]
    clear hchr hch3 hf h1 HCh HC1 HC2 HEq HWi hid hn0
    go_enter Tryd.func22, Tryd.ntmps22
    go_wp2_with fail
    rw [← hW0]
    clear hW0
    refine wp_region_quiet (C := fun w' => Below W0.heap.size W0 w') (by kernel_rfl) (by kernel_rfl) ((Below.refl _ _).drew) ?_
    dsimp only
    repeat (first
      | go_big_quiet_skip
      | (go_big_quiet_want
         apply Exists.intro
         refine ⟨fun W' hW' => ?_, ?_⟩
         · have hw : Below W0.heap.size W0 W' := hW'
           obtain ⟨⟨g0, g1, g2, g3⟩, g4, g5, g6, g7⟩ := HX.out W' hw
           have g8 := HC0'.out W' hw
           go_simp
           first
             | done
             | rfl
             | (go_at_call 42; refine (HCl.out W' h8 hw).mono ?_; rintro e w'' ⟨rfl, hb⟩; exact ⟨rfl, hw.trans (hb.mono hw.size)⟩)
         go_big_quiet_on
         try simp only [Act.put, List.setIfInBounds_toArray, List.set_cons_zero, List.set_cons_succ]))
    refine wpQuiet_nil ?_
    intro w2 hqw2
    have Hw2 : Hid (Below W0.heap.size W0 w2) := hqw2
    clear hqw2
    obtain ⟨⟨g0, g1, g2, g3⟩, g4, g5, g6, g7⟩ := HX.out w2 Hw2.out
    go_wp2_with fail
    refine (HId.out _).mono ?_
    rintro e w3 ⟨rfl, hb3⟩
    have H3 : Hid (Below W0.heap.size W0 w3) := Hw2.out.trans (hb3.mono Hw2.out.size)
    clear hb3
    go_wp2
    go_ret
    exact ⟨rfl, HBw.out _ H3.out⟩
  rw [hid] at HId
  cases hc1 : chkF t.own
  · have hf : RR = false := by rw [hchr, hid, hc1, Bool.false_and, Bool.true_and]
    rw [hc1] at HC1
    rw [hf]
    clear hchr hch3 hf h1 HCh HC2 HEq HWi hid hc1 hn0
    go_enter Tryd.func22, Tryd.ntmps22
    go_wp2_with fail
    rw [← hW0]
    clear hW0
    refine wp_region_quiet (C := fun w' => Below W0.heap.size W0 w') (by kernel_rfl) (by kernel_rfl) ((Below.refl _ _).drew) ?_
    dsimp only
    repeat (first
      | go_big_quiet_skip
      | (go_big_quiet_want
         apply Exists.intro
         refine ⟨fun W' hW' => ?_, ?_⟩
         · have hw : Below W0.heap.size W0 W' := hW'
           obtain ⟨⟨g0, g1, g2, g3⟩, g4, g5, g6, g7⟩ := HX.out W' hw
           have g8 := HC0'.out W' hw
           go_simp
           first
             | done
             | rfl
             | (go_at_call 42; refine (HCl.out W' h8 hw).mono ?_; rintro e w'' ⟨rfl, hb⟩; exact ⟨rfl, hw.trans (hb.mono hw.size)⟩)
         go_big_quiet_on
         try simp only [Act.put, List.setIfInBounds_toArray, List.set_cons_zero, List.set_cons_succ]))
    refine wpQuiet_nil ?_
    intro w2 hqw2
    have Hw2 : Hid (Below W0.heap.size W0 w2) := hqw2
    clear hqw2
    obtain ⟨⟨g0, g1, g2, g3⟩, g4, g5, g6, g7⟩ := HX.out w2 Hw2.out
    go_wp2_with fail
    refine (HId.out _).mono ?_
    rintro e w3 ⟨rfl, hb3⟩
    have H3 : Hid (Below W0.heap.size W0 w3) := Hw2.out.trans (hb3.mono Hw2.out.size)
    clear hb3 g0 g1 g2 g3 g4 g5 g6 g7
    obtain ⟨⟨g0, g1, g2, g3⟩, g4, g5, g6, g7⟩ := HX.out w3 H3.out
    go_wp2_with fail
    refine (HC1.out _ H3.out).mono ?_
    rintro e w4 ⟨rfl, hb4⟩
    have H4 : Hid (Below W0.heap.size W0 w4) := H3.out.trans (hb4.mono H3.out.size)
    clear hb4
    go_wp2
    go_ret
    exact ⟨rfl, HBw.out _ H4.out⟩
  rw [hc1] at HC1
  cases hc2 : chkF t.all
  · have hf : RR = false := by rw [hchr, hid, hc1, hc2, Bool.false_and, Bool.true_and, Bool.true_and]
    rw [hc2] at HC2
    rw [hf]
    clear hchr hch3 hf h1 HCh HEq HWi hid hc1 hc2 hn0
    go_enter Tryd.func22, Tryd.ntmps22
    go_wp2_with fail
    rw [← hW0]
    clear hW0
    refine wp_region_quiet (C := fun w' => Below W0.heap.size W0 w') (by kernel_rfl) (by kernel_rfl) ((Below.refl _ _).drew) ?_
    dsimp only
    repeat (first
      | go_big_quiet_skip
      | (go_big_quiet_want
         apply Exists.intro
         refine ⟨fun W' hW' => ?_, ?_⟩
         · have hw : Below W0.heap.size W0 W' := hW'
           obtain ⟨⟨g0, g1, g2, g3⟩, g4, g5, g6, g7⟩ := HX.out W' hw
           have g8 := HC0'.out W' hw
           go_simp
           first
             | done
             | rfl
             | (go_at_call 42; refine (HCl.out W' h8 hw).mono ?_; rintro e w'' ⟨rfl, hb⟩; exact ⟨rfl, hw.trans (hb.mono hw.size)⟩)
         go_big_quiet_on
         try simp only [Act.put, List.setIfInBounds_toArray, List.set_cons_zero, List.set_cons_succ]))
    refine wpQuiet_nil ?_
    intro w2 hqw2
    have Hw2 : Hid (Below W0.heap.size W0 w2) := hqw2
    clear hqw2
    obtain ⟨⟨g0, g1, g2, g3⟩, g4, g5, g6, g7⟩ := HX.out w2 Hw2.out
    go_wp2_with fail
    refine (HId.out _).mono ?_
    rintro e w3 ⟨rfl, hb3⟩
    have H3 : Hid (Below W0.heap.size W0 w3) := Hw2.out.trans (hb3.mono Hw2.out.size)
    clear hb3 g0 g1 g2 g3 g4 g5 g6 g7
    obtain ⟨⟨g0, g1, g2, g3⟩, g4, g5, g6, g7⟩ := HX.out w3 H3.out
    go_wp2_with fail
    refine (HC1.out _ H3.out).mono ?_
    rintro e w4 ⟨rfl, hb4⟩
    have H4 : Hid (Below W0.heap.size W0 w4) := H3.out.trans (hb4.mono H3.out.size)
    clear hb4 g0 g1 g2 g3 g4 g5 g6 g7
    obtain ⟨⟨g0, g1, g2, g3⟩, g4, g5, g6, g7⟩ := HX.out w4 H4.out
    go_wp2_with fail
    refine (HC2.out _ H4.out).mono ?_
    rintro e w5 ⟨rfl, hb5⟩
    have H5 : Hid (Below W0.heap.size W0 w5) := H4.out.trans (hb5.mono H4.out.size)
    clear hb5
    go_wp2
    go_ret
    exact ⟨rfl, HBw.out _ H5.out⟩
  rw [hc2] at HC2
  rw [hid, hc1, hc2, Bool.true_and, Bool.true_and, Bool.true_and] at hchr
  have HR3 : Hid (RR = if t.ch.length = 1 then decide (t.p.size = 0) && sameR t.all t.own else decide (t.ch[1]? = some t.p) && withinL t.own t.all) := hchr
  clear hchr hch3 h1 hid hc1 hc2 hn0
  go_enter Tryd.func22, Tryd.ntmps22
  go_wp2_with fail
  rw [← hW0]
  clear hW0
  refine wp_region_quiet (C := fun w' => Below W0.heap.size W0 w') (by kernel_rfl) (by kernel_rfl) ((Below.refl _ _).drew) ?_
  dsimp only
  repeat (first
    | go_big_quiet_skip
    | (go_big_quiet_want
       apply Exists.intro
       refine ⟨fun W' hW' => ?_, ?_⟩
       · have hw : Below W0.heap.size W0 W' := hW'
         obtain ⟨⟨g0, g1, g2, g3⟩, g4, g5, g6, g7⟩ := HX.out W' hw
         have g8 := HC0'.out W' hw
         go_simp
         first
           | done
           | rfl
           | (go_at_call 42; refine (HCl.out W' h8 hw).mono ?_; rintro e w'' ⟨rfl, hb⟩; exact ⟨rfl, hw.trans (hb.mono hw.size)⟩)
       go_big_quiet_on
       try simp only [Act.put, List.setIfInBounds_toArray, List.set_cons_zero, List.set_cons_succ]))
  refine wpQuiet_nil ?_
  intro w2 hqw2
  have Hw2 : Hid (Below W0.heap.size W0 w2) := hqw2
  clear hqw2
  obtain ⟨⟨g0, g1, g2, g3⟩, g4, g5, g6, g7⟩ := HX.out w2 Hw2.out
  go_wp2_with fail
  refine (HId.out _).mono ?_
  rintro e w3 ⟨rfl, hb3⟩
  have H3 : Hid (Below W0.heap.size W0 w3) := Hw2.out.trans (hb3.mono Hw2.out.size)
  clear hb3 g0 g1 g2 g3 g4 g5 g6 g7
  obtain ⟨⟨g0, g1, g2, g3⟩, g4, g5, g6, g7⟩ := HX.out w3 H3.out
  go_wp2_with fail
  refine (HC1.out _ H3.out).mono ?_
  rintro e w4 ⟨rfl, hb4⟩
  have H4 : Hid (Below W0.heap.size W0 w4) := H3.out.trans (hb4.mono H3.out.size)
  clear hb4 g0 g1 g2 g3 g4 g5 g6 g7
  obtain ⟨⟨g0, g1, g2, g3⟩, g4, g5, g6, g7⟩ := HX.out w4 H4.out
  go_wp2_with fail
  refine (HC2.out _ H4.out).mono ?_
  rintro e w5 ⟨rfl, hb5⟩
  have H5 : Hid (Below W0.heap.size W0 w5) := H4.out.trans (hb5.mono H4.out.size)
  have HB5 : Hid (Below w.heap.size w w5) := HBw.out _ H5.out
  clear hb5 g0 g1 g2 g3 g4 g5 g6 g7 HC1 HC2 HId HCl HC0'
  obtain ⟨⟨g0, g1, g2, g3⟩, g4, g5, g6, g7⟩ := HX.out w5 H5.out
  have eP : (t.p.toList == ([] : List UInt8)) = decide (t.p.size = 0) := by
    rw [Bool.eq_iff_iff, beq_iff_eq, decide_eq_true_eq, ByteArray.toList_eq]
    constructor
    · intro h
      have e : t.p.data.toList.length = t.p.size := by simp
      rw [h] at e
      exact e.symm
    · intro h
      apply List.eq_nil_of_length_eq_zero
      have e : t.p.data.toList.length = t.p.size := by simp
      omega
  have eP2 : (t.p.toList == (⟨#[]⟩ : ByteArray).toList) = decide (t.p.size = 0) := by rw [← eP, ByteArray.toList_eq ⟨#[]⟩]
  by_cases hl1 : t.ch.length = 1
  · have HR4 : Hid (RR = (decide (t.p.size = 0) && sameR t.all t.own)) := HR3.out.trans (if_pos hl1)
    have dl : ((t.ch.length : Int) == 1) = true := by rw [beq_iff_eq]; omega
    have dl' : (t.ch.length == 1) = true := by rw [beq_iff_eq]; exact hl1
    clear hl1 HR3 HCh HWi
    cases hp : decide (t.p.size = 0)
    · rw [hp] at HR4 eP eP2
      have HR5 : Hid (RR = false) := HR4.out.trans (Bool.false_and _)
      clear HR4 hp
      go_wp2
      go_ret
      exact ⟨by rw [HR5.out]; rfl, HB5.out⟩
    · rw [hp] at HR4 eP eP2
      have HR5 : Hid (RR = sameR t.all t.own) := HR4.out.trans (Bool.true_and _)
      clear HR4 hp
      generalize sameR t.all t.own = SM at *
      go_wp2_with fail
      refine (HEq.out _ H5.out).mono ?_
      rintro e w6 ⟨rfl, hb6⟩
      have HB6 : Hid (Below w.heap.size w w6) := HB5.out.trans (hb6.mono HB5.out.size)
      clear hb6 HEq
      go_wp2
      go_ret
      exact ⟨by rw [HR5.out]; rfl, HB6.out⟩
  · have hl2 : 1 < t.ch.length := by omega
    have e1 : t.ch[1]? = some (t.ch[1]'hl2) := List.getElem?_eq_getElem hl2
    have HR4 : Hid (RR = (decide (t.ch[1]'hl2 = t.p) && withinL t.own t.all)) := HR3.out.trans (by rw [if_neg hl1, e1]; congr 1; simp)
    have dl : ((t.ch.length : Int) == 1) = false := by rw [beq_eq_false_iff_ne]; omega
    have dl' : (t.ch.length == 1) = false := by rw [beq_eq_false_iff_ne]; omega
    have HC1' : Hid (∀ W, Below W0.heap.size W0 W → W.cell? ⟨b, off + 1, none⟩ = some (.string (t.ch[1]'hl2))) := fun W h => by
      obtain ⟨b', off', e, hc⟩ := HCh.out 1 hl2 W h
      obtain ⟨rfl, rfl, -⟩ := Addr.mk.inj (Option.some.inj e)
      exact hc
    have eC := strEqB t.p (t.ch[1]'hl2)
    have q1 : (1 : Int) < (t.ch.length : Int) := by omega
    generalize t.ch[1]'hl2 = c1 at *
    clear hl1 HR3 HCh HEq e1
    have HPs : Hid ((c1 = t.p) ↔ (t.p = c1)) := eq_comm
    cases hp : decide (t.p = c1)
    · rw [hp] at eC
      have HR5 : Hid (RR = false) := HR4.out.trans (by rw [decide_eq_false (fun e => by rw [decide_eq_true (HPs.out.1 e)] at hp; cases hp), Bool.false_and])
      clear HR4 hp HPs
      go_wp2_with fail
      refine wp_region_quiet (C := fun w' => Below W0.heap.size W0 w') (by kernel_rfl) (by kernel_rfl) (H5.out.drew) ?_
      dsimp only
      repeat (first
        | go_big_quiet_skip
        | (go_big_quiet_want
           apply Exists.intro
           refine ⟨fun W' hW' => ?_, ?_⟩
           · have hw : Below W0.heap.size W0 W' := hW'
             obtain ⟨⟨g0, g1, g2, g3⟩, g4, g5, g6, g7⟩ := HX.out W' hw
             have g8 := HC1'.out W' hw
             go_simp
             first
               | done
               | rfl
           go_big_quiet_on
           try simp only [Act.put, List.setIfInBounds_toArray, List.set_cons_zero, List.set_cons_succ]))
      refine wpQuiet_nil ?_
      intro w6 hqw6
      have Hw6 : Hid (Below W0.heap.size W0 w6) := hqw6
      clear hqw6
      have HB6 : Hid (Below w.heap.size w w6) := HBw.out _ Hw6.out
      go_wp2
      go_ret
      exact ⟨by rw [HR5.out]; rfl, HB6.out⟩
    · rw [hp] at eC
      have HR5 : Hid (RR = withinL t.own t.all) := HR4.out.trans (by rw [decide_eq_true (HPs.out.2 (of_decide_eq_true hp)), Bool.true_and])
      clear HR4 hp HPs
      generalize withinL t.own t.all = WL at *
      go_wp2_with fail
      refine wp_region_quiet (C := fun w' => Below W0.heap.size W0 w') (by kernel_rfl) (by kernel_rfl) (H5.out.drew) ?_
      dsimp only
      repeat (first
        | go_big_quiet_skip
        | (go_big_quiet_want
           apply Exists.intro
           refine ⟨fun W' hW' => ?_, ?_⟩
           · have hw : Below W0.heap.size W0 W' := hW'
             obtain ⟨⟨g0, g1, g2, g3⟩, g4, g5, g6, g7⟩ := HX.out W' hw
             have g8 := HC1'.out W' hw
             go_simp
             first
               | done
               | rfl
               | (go_at_call 43; refine (HWi.out W' hw).mono ?_; rintro e w'' ⟨rfl, hb⟩; exact ⟨rfl, hw.trans (hb.mono hw.size)⟩)
           go_big_quiet_on
           try simp only [Act.put, List.setIfInBounds_toArray, List.set_cons_zero, List.set_cons_succ]))
      refine wpQuiet_nil ?_
      intro w6 hqw6
      have Hw6 : Hid (Below W0.heap.size W0 w6) := hqw6
      clear hqw6
      have HB6 : Hid (Below w.heap.size w w6) := HBw.out _ Hw6.out
      go_wp2
      go_ret
      exact ⟨by rw [HR5.out]; rfl, HB6.out⟩
end Go.Proofs.YthdbnlpbidkojaaDoor
/- Types and forests: plain mathematics. -/
namespace Go.Proofs.YthdbnlpbidkojaaDoor
open Go.RowKit

/-! ### what two schemas make together -/
def insF (x : Fd) : List Fd → List Fd
  | [] => [x]
  | y :: l => if cmpL x.n.data.toList y.n.data.toList < 0 then x :: y :: l else y :: insF x l
def srtF : List Fd → List Fd
  | [] => []
  | x :: l => insF x (srtF l)
theorem insF_perm (x : Fd) : ∀ l, (insF x l).Perm (x :: l)
  | [] => List.Perm.refl _
  | y :: l => by
    rw [insF]
    split
    · exact List.Perm.refl _
    · exact ((insF_perm x l).cons y).trans (List.Perm.swap x y l)
theorem srtF_perm : ∀ l, (srtF l).Perm l
  | [] => List.Perm.refl _
  | x :: l => (insF_perm x _).trans ((srtF_perm l).cons x)
theorem insF_sorted (x : Fd) : ∀ l : List Fd, l.Pairwise ltF → (∀ y ∈ l, neF x y) → (insF x l).Pairwise ltF
  | [], _, _ => by simp [insF]
  | y :: l, h, hne => by
    rw [insF]
    obtain ⟨h1, h2⟩ := List.pairwise_cons.1 h
    split
    · rename_i hc
      have hxy : ltF x y := cmpL_lt.1 hc
      refine List.pairwise_cons.2 ⟨fun z hz => ?_, h⟩
      rcases List.mem_cons.1 hz with rfl | hz
      · exact hxy
      · exact ltF_trans hxy (h1 z hz)
    · rename_i hc
      have hyx : ltF y x := ltF_of hc (neF_symm (hne y (by simp)))
      refine List.pairwise_cons.2 ⟨fun z hz => ?_, insF_sorted x l h2 (fun z hz => hne z (by simp [hz]))⟩
      rcases List.mem_cons.1 ((insF_perm x l).mem_iff.1 hz) with rfl | hz
      · exact hyx
      · exact h1 z hz
theorem srtF_sorted : ∀ l : List Fd, l.Pairwise neF → (srtF l).Pairwise ltF
  | [], _ => List.Pairwise.nil
  | x :: l, h => by
    obtain ⟨h1, h2⟩ := List.pairwise_cons.1 h
    exact insF_sorted x _ (srtF_sorted l h2) fun y hy => h1 y ((srtF_perm l).mem_iff.1 hy)
/-- What two schemas make together, or the error. -/
def mgL (a b : List Fd) : List Fd × Int := if mergeE a b = 0 then (if 24 < a.length + b.length then ([], 2) else (srtF (a ++ b), 0)) else ([], mergeE a b)
theorem mrg_srtF {a b : List Fd} (h : mergeE a b = 0) : MrgD a b (srtF (a ++ b)) := ⟨srtF_perm _, srtF_sorted _ (app_ne h)⟩
theorem mrg_is {a b D : List Fd} (h : mergeE a b = 0) (hm : MrgD a b D) : D = srtF (a ++ b) := by
  have h1 := mrg_srtF h
  refine List.Perm.eq_of_pairwise (le := ltF) (fun x y _ _ h1 h2 => ?_) hm.2 h1.2 (hm.1.trans h1.1.symm)
  exact absurd (ltF_trans h1 h2) (ltF_irr x)
theorem mgL_ok {a b : List Fd} (h : (mgL a b).2 = 0) : mergeE a b = 0 ∧ a.length + b.length ≤ 24 ∧ (mgL a b).1 = srtF (a ++ b) := by
  unfold mgL at *
  by_cases h1 : mergeE a b = 0
  · rw [if_pos h1] at *
    by_cases h2 : 24 < a.length + b.length
    · rw [if_pos h2] at h; cases h
    · rw [if_neg h2] at *
      exact ⟨h1, by omega, rfl⟩
  · rw [if_neg h1] at h
    exact absurd h h1
theorem mgL_len (a b : List Fd) : (mgL a b).1.length ≤ 24 := by
  unfold mgL
  split
  · split
    · simp
    · rw [(srtF_perm _).length_eq, List.length_append]; omega
  · simp
theorem mgL_mem {a b : List Fd} {x : Fd} (h : x ∈ (mgL a b).1) : x ∈ a ∨ x ∈ b := by
  unfold mgL at h
  split at h
  · split at h
    · cases h
    · exact List.mem_append.1 ((srtF_perm _).mem_iff.1 h)
  · cases h
theorem mgL_chk {a b : List Fd} (h : (mgL a b).2 = 0) : chkF (mgL a b).1 = true := by
  obtain ⟨h1, h2, h3⟩ := mgL_ok h
  rw [h3]
  exact mrg_chk h1 (mrg_srtF h1) h2
theorem mgL_within {a b : List Fd} (h : (mgL a b).2 = 0) : withinL a (mgL a b).1 = true ∧ withinL b (mgL a b).1 = true := by
  obtain ⟨h1, h2, h3⟩ := mgL_ok h
  rw [h3]
  exact mrg_within (mrg_srtF h1)

/-! ### names -/
theorem cmpL_zero {a b : List UInt8} : cmpL a b = 0 ↔ foldL a = foldL b := by
  unfold cmpL
  constructor
  · exact cmp_zero _ _
  · intro h; rw [h, cmp_self]
theorem sameL_iff {a b : List UInt8} : sameL a b = true ↔ cmpL a b = 0 := by
  unfold sameL
  rw [decide_eq_true_eq, cmpL_zero]
theorem cmpL_tr {a b c : List UInt8} (h1 : cmpL a b < 0) (h2 : cmpL b c < 0) : cmpL a c < 0 := by
  rw [cmpL_lt] at *
  exact cmp_trans _ _ _ h1 h2
theorem cmpL_congr {a b c : List UInt8} (h : foldL a = foldL b) : cmpL a c = cmpL b c := by unfold cmpL; rw [h]
theorem cmpL_congr' {a b c : List UInt8} (h : foldL a = foldL b) : cmpL c a = cmpL c b := by unfold cmpL; rw [h]
theorem cmpL_anti (a b : List UInt8) : cmpL a b = - cmpL b a := cmp_anti _ _
theorem cmpL_irr (a : List UInt8) : cmpL a a = 0 := cmp_self _

/-! ### places -/
def nmC (t : Ty) (s : ByteArray) : Int := cmpL t.n.data.toList s.data.toList
/-- Types that rise. -/
def Rise (l : List Ty) : Prop := l.Pairwise fun t u => nmC t u.n < 0
/-- The type of a name. -/
def parN (l : List Ty) (s : ByteArray) : Option Ty := l.find? fun u => sameL u.n.data.toList s.data.toList
/-- Where a name stands, or would stand. -/
def plcN (l : List Ty) (s : ByteArray) : Nat := (l.takeWhile fun u => decide (nmC u s < 0)).length
theorem rise_mono {l : List Ty} (h : Rise l) {s : ByteArray} {a b : Nat} (hab : a ≤ b) (hb : b < l.length) (hc : nmC l[b] s < 0) : nmC (l[a]'(by omega)) s < 0 := by
  by_cases e : a = b
  · subst e; exact hc
  · exact cmpL_tr ((List.pairwise_iff_getElem.1 h) a b (by omega) hb (by omega)) hc
theorem plcN_le (l : List Ty) (s : ByteArray) : plcN l s ≤ l.length := (List.takeWhile_prefix _).length_le
/-- The boundary is the place. -/
theorem plc_at : ∀ (l : List Ty) (s : ByteArray) (k : Nat), k ≤ l.length → (∀ (t : Nat) (h : t < l.length), t < k → nmC l[t] s < 0) → (∀ (h : k < l.length), ¬ nmC l[k] s < 0) → plcN l s = k
  | [], s, k, hk, _, _ => by
    have : k = 0 := by simpa using hk
    subst this
    rfl
  | u :: l, s, 0, _, _, h2 => by
    have := h2 (by simp)
    unfold plcN
    rw [List.takeWhile_cons_of_neg (by simpa using this)]
    rfl
  | u :: l, s, k + 1, hk, h1, h2 => by
    have h0 : nmC u s < 0 := h1 0 (by simp) (by omega)
    have ih := plc_at l s k (by simpa using hk) (fun t h ht => h1 (t + 1) (by simpa using h) (by omega)) (fun h => h2 (by simpa using h))
    unfold plcN at *
    rw [List.takeWhile_cons_of_pos (by simpa using h0), List.length_cons, ih]
theorem plc_lt {l : List Ty} {s : ByteArray} {t : Nat} (h : t < l.length) (ht : t < plcN l s) : nmC l[t] s < 0 := by
  have hp : (l.takeWhile fun u => decide (nmC u s < 0)) <+: l := List.takeWhile_prefix _
  have e : l[t] = (l.takeWhile fun u => decide (nmC u s < 0))[t]'ht := (hp.getElem ht).symm
  rw [e]
  have hm := List.getElem_mem ht
  have := List.all_takeWhile (p := fun u => decide (nmC u s < 0)) (l := l)
  rw [List.all_eq_true] at this
  simpa using this _ hm
theorem plc_ge : ∀ (l : List Ty) (s : ByteArray) (h : plcN l s < l.length), ¬ nmC (l[plcN l s]'h) s < 0
  | [], s, h => absurd h (by simp [plcN])
  | u :: l, s, h => by
    by_cases hu : nmC u s < 0
    · have e : plcN (u :: l) s = plcN l s + 1 := by
        unfold plcN
        rw [List.takeWhile_cons_of_pos (by simpa using hu), List.length_cons]
      have hl : plcN l s < l.length := by rw [e] at h; simpa using h
      have ih := plc_ge l s hl
      have : (u :: l)[plcN (u :: l) s]'h = l[plcN l s] := by
        simp only [e, List.getElem_cons_succ]
      rw [this]
      exact ih
    · have e : plcN (u :: l) s = 0 := by
        unfold plcN
        rw [List.takeWhile_cons_of_neg (by simpa using hu)]
        rfl
      have : (u :: l)[plcN (u :: l) s]'h = u := by simp only [e, List.getElem_cons_zero]
      rw [this]
      exact hu
/-- Of types that rise the one of a name stands at its place. -/
theorem par_at {l : List Ty} (hr : Rise l) {s : ByteArray} {k : Nat} (hk : k < l.length) (h : nmC l[k] s = 0) : plcN l s = k ∧ parN l s = some l[k] := by
  have hlt : ∀ (t : Nat) (h : t < l.length), t < k → nmC l[t] s < 0 := fun t ht htk => by
    have h1 : nmC l[t] l[k].n < 0 := (List.pairwise_iff_getElem.1 hr) t k ht hk htk
    unfold nmC at *
    rw [cmpL_congr' (cmpL_zero.1 h)] at h1
    exact h1
  refine ⟨plc_at l s k (Nat.le_of_lt hk) hlt (fun _ => by omega), ?_⟩
  unfold parN
  rw [List.find?_eq_some_iff_getElem]
  refine ⟨sameL_iff.2 h, k, hk, rfl, fun j hj => ?_⟩
  have := hlt j (by omega) hj
  cases e : sameL l[j].n.data.toList s.data.toList
  · rfl
  · have := sameL_iff.1 e
    unfold nmC at *
    omega
theorem par_none {l : List Ty} {s : ByteArray} (h : ∀ (k : Nat) (hk : k < l.length), nmC l[k] s ≠ 0) : parN l s = none := by
  unfold parN
  rw [List.find?_eq_none]
  intro x hx
  obtain ⟨k, hk, rfl⟩ := List.mem_iff_getElem.1 hx
  intro e
  exact h k hk (sameL_iff.1 e)
/-- What is at the place tells whether there is one of that name. -/
theorem par_plc {l : List Ty} (hr : Rise l) (s : ByteArray) : parN l s = (if h : plcN l s < l.length then (if nmC l[plcN l s] s = 0 then some l[plcN l s] else none) else none) := by
  by_cases h : plcN l s < l.length
  · rw [dif_pos h]
    by_cases h0 : nmC l[plcN l s] s = 0
    · rw [if_pos h0]; exact (par_at hr h h0).2
    · rw [if_neg h0]
      refine par_none fun k hk e => ?_
      have := (par_at hr hk e).1
      subst this
      exact h0 e
  · rw [dif_neg h]
    refine par_none fun k hk e => ?_
    have := (par_at hr hk e).1
    omega

/-! ### forests -/
def sameS (a b : List ByteArray) : Bool := decide (a = b)
/-- Does a type stand right below another one? -/
def belB (t o : Ty) : Bool := decide ((mgL o.all t.own).2 = 0) && (sameR (mgL o.all t.own).1 t.all && sameS o.ch t.ch.tail)
def parB (l : List Ty) (t : Ty) : Bool := decide (t.p.size = 0) || (match parN l t.p with | none => false | some o => belB t o)
def riseB (l : List Ty) : Bool := decide (∀ (k : Nat) (h : k < l.length - 1), nmC (l[k]'(by omega)) (l[k + 1]'(by omega)).n < 0)
theorem riseB_iff (l : List Ty) : riseB l = true ↔ Rise l := by
  unfold riseB Rise
  rw [decide_eq_true_eq, List.pairwise_iff_getElem]
  constructor
  · intro h
    have key : ∀ (j i : Nat) (hi : i < j) (hj : j < l.length), nmC (l[i]'(by omega)) l[j].n < 0 := by
      intro j
      induction j with
      | zero => intro i hi; omega
      | succ j ih =>
        intro i hi hj
        by_cases e : i = j
        · subst e; exact h i (by omega)
        · exact cmpL_tr (ih i (by omega) (by omega)) (h j (by omega))
    exact fun i j hi hj hij => key j i hij hj
  · intro h k hk
    exact h k (k + 1) (by omega) (by omega) (by omega)
/-- Are types a forest? -/
def isB (l : List Ty) : Bool := decide (l.length ≤ 200) && (l.all chkT && (riseB l && l.all (parB l)))
/-- Is a type of another one? -/
def ofB (t : Ty) (s : ByteArray) : Bool := t.ch.any fun u => sameL u.data.toList s.data.toList
def zT : Ty := ⟨⟨#[]⟩, ⟨#[]⟩, [], [], [], 0, 0, 0⟩
/-- A type that is below no other one, or the error. -/
def rootR (s : ByteArray) (own : List Fd) (a b c : Int) : Ty × Int := if checkL s.data.toList = 0 then (if (chkF own && idB a b c) = true then (⟨s, ⟨#[]⟩, own, own, [s], a, b, c⟩, 0) else (zT, 1)) else (zT, checkL s.data.toList)
/-- A type right below another one, or the error. -/
def belR (o : Ty) (s : ByteArray) (own : List Fd) (a b c : Int) : Ty × Int :=
  if checkL s.data.toList = 0 then
    (if (chkT o && (chkF own && idB a b c)) = true then
      (if ofB o s = true then (zT, 5) else if o.ch.length = 8 then (zT, 2) else
        (if (mgL o.all own).2 = 0 then (⟨s, o.n, own, (mgL o.all own).1, s :: o.ch, a, b, c⟩, 0) else (zT, (mgL o.all own).2)))
    else (zT, 1))
  else (zT, checkL s.data.toList)
/-- A type that can be added to a forest, or the error. -/
def mkR (l : List Ty) (s p : ByteArray) (own : List Fd) (a b c : Int) : Ty × Int :=
  if isB l = true then
    (if checkL s.data.toList = 0 then
      (if (parN l s).isSome = true then (zT, 5) else if p.size = 0 then rootR s own a b c else
        (match parN l p with | none => (zT, 4) | some o => belR o s own a b c))
    else (zT, checkL s.data.toList))
  else (zT, 1)
def insT (l : List Ty) (k : Nat) (t : Ty) : List Ty := l.take k ++ t :: l.drop k
/-- A forest with one type more, or the error. -/
def addR (l : List Ty) (t : Ty) : List Ty × Int :=
  if (isB l && chkT t) = true then
    (if (parN l t.n).isSome = true then ([], 5) else if l.length = 200 then ([], 6) else
      (if t.p.size = 0 then (insT l (plcN l t.n) t, 0) else
        (match parN l t.p with | none => ([], 4) | some o => if belB t o = true then (insT l (plcN l t.n) t, 0) else ([], 3))))
  else ([], 1)
end Go.Proofs.YthdbnlpbidkojaaDoor
