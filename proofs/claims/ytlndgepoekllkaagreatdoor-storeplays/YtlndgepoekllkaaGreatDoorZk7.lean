/- forest.Check at any type: its walk. -/
import Derived.Test.YtlndgepoekllkaaGreatDoorZk6
import Derived.Test.YtlndgepoekllkaaGreatDoorZk4
import Derived.Deep.QuietTactic
import Derived.BigQuiet
namespace Go.Proofs.YtlndgepoekllkaaGreatDoor
open Go.RowKit

/-- A type, plainly. -/
structure Ty where
  n : ByteArray
  p : ByteArray
  own : List Fd
  all : List Fd
  ch : List ByteArray
  nd : Int
  lf : Int
  sq : Int
abbrev tyA (t : Ty) (vo va vc : Value) : Array Value := #[.string t.n, .string t.p, vo, va, vc, .int .i64 t.nd, .int .i64 t.lf, .int .i64 t.sq]
abbrev tyV (t : Ty) (vo va vc : Value) : Value := .agg (tyA t vo va vc)
/-- The rows of a type. -/
def IsTy (w : World) (t : Ty) (vo va vc : Value) : Prop := IsRow w 3 vo t.own.length (fCells t.own) ∧ IsRow w 3 va t.all.length (fCells t.all) ∧ IsRow w 1 vc t.ch.length (sVals t.ch)
theorem IsTy.below {w w' : World} {t : Ty} {vo va vc : Value} (h : IsTy w t vo va vc) (hb : Below w.heap.size w w') : IsTy w' t vo va vc := ⟨h.1.below hb, h.2.1.below hb, h.2.2.below hb⟩
/-- It is not too great to be looked at. -/
structure NmT (t : Ty) : Prop where
  n : t.n.size ≤ 1000000
  p : t.p.size ≤ 1000000
  c : ∀ s ∈ t.ch, s.size ≤ 1000000
  o : NmF t.own
  a : NmF t.all
  lo : t.own.length ≤ 1000000
  la : t.all.length ≤ 1000000
  lc : t.ch.length ≤ 1000000
/-- What a type may be behind its names. -/
def chkR (t : Ty) : Bool := idB t.nd t.lf t.sq && (chkF t.own && (chkF t.all && (if t.ch.length = 1 then decide (t.p.size = 0) && sameR t.all t.own else decide (t.ch[1]? = some t.p) && withinL t.own t.all)))
/-- May a type be? -/
def chkT (t : Ty) : Bool := decide (1 ≤ t.ch.length) && (decide (t.ch.length ≤ 8) && (decide (t.ch[0]? = some t.n) && (decide (t.ch.length ≤ (clm [] t.ch).length) && chkR t)))
theorem strNe (a b : ByteArray) : (!(a.toList == b.toList)) = !decide (a = b) := by
  congr 1
  rw [Bool.eq_iff_iff, beq_iff_eq, decide_eq_true_eq, ByteArray.toList_eq, ByteArray.toList_eq]
  exact ⟨fun h => ba_eq h, fun h => by rw [h]⟩
theorem strEqB (a b : ByteArray) : (a.toList == b.toList) = decide (a = b) := by
  rw [Bool.eq_iff_iff, beq_iff_eq, decide_eq_true_eq, ByteArray.toList_eq, ByteArray.toList_eq]
  exact ⟨fun h => ba_eq h, fun h => by rw [h]⟩
set_option maxRecDepth 100000 in
set_option maxHeartbeats 4000000 in
theorem checkT_any (t : Ty) (vo va vc : Value) (w : World) (hr : IsTy w t vo va vc) (hn : NmT t) (hU : UT w) (hM : ML w) :
    Calls Tryz.prog 37 #[tyV t vo va vc] w fun e w' => e = .returned (.bool (chkT t)) ∧ Below w.heap.size w w' := by
  obtain ⟨r1, r2, r3⟩ := hr
  obtain ⟨ao, co, rfl⟩ := r1.form
  obtain ⟨aa, ca, rfl⟩ := r2.form
  obtain ⟨ac, cc, rfl⟩ := r3.form
  have hA := al_b w (.cells (tyA t (.slice ao t.own.length co) (.slice aa t.all.length ca) (.slice ac t.ch.length cc)) 35)
  obtain ⟨W0, hW0⟩ : ∃ W0, W0 = w.alloc (.cells (tyA t (.slice ao t.own.length co) (.slice aa t.all.length ca) (.slice ac t.ch.length cc)) 35) := ⟨_, rfl⟩
  rw [← hW0] at hA
  have hnb : W0.heap[w.heap.size]? = some (.cells (tyA t (.slice ao t.own.length co) (.slice aa t.all.length ca) (.slice ac t.ch.length cc)) 35 (0, 0)) := by rw [hW0]; exact new_at w _
  have hlt : w.heap.size < W0.heap.size := (Array.getElem?_eq_some_iff.1 hnb).1
  have hcell : ∀ j, W0.cell? ⟨w.heap.size, j, none⟩ = (tyA t (.slice ao t.own.length co) (.slice aa t.all.length ca) (.slice ac t.ch.length cc))[j]? := fun j => by rw [Lib.cell_of_heap hnb]
  have HX : Hid (∀ W, Below W0.heap.size W0 W → (W.cell? ⟨w.heap.size, 0, none⟩ = some (.string t.n) ∧ W.cell? ⟨w.heap.size, 1, none⟩ = some (.string t.p) ∧ W.cell? ⟨w.heap.size, 2, none⟩ = some (.slice ao t.own.length co) ∧ W.cell? ⟨w.heap.size, 3, none⟩ = some (.slice aa t.all.length ca)) ∧ W.cell? ⟨w.heap.size, 4, none⟩ = some (.slice ac t.ch.length cc) ∧ W.cell? ⟨w.heap.size, 5, none⟩ = some (.int .i64 t.nd) ∧ W.cell? ⟨w.heap.size, 6, none⟩ = some (.int .i64 t.lf) ∧ W.cell? ⟨w.heap.size, 7, none⟩ = some (.int .i64 t.sq)) := fun W h => ⟨⟨(h.cell (p := ⟨w.heap.size, 0, none⟩) hlt).trans (hcell 0), (h.cell (p := ⟨w.heap.size, 1, none⟩) hlt).trans (hcell 1), (h.cell (p := ⟨w.heap.size, 2, none⟩) hlt).trans (hcell 2), (h.cell (p := ⟨w.heap.size, 3, none⟩) hlt).trans (hcell 3)⟩, (h.cell (p := ⟨w.heap.size, 4, none⟩) hlt).trans (hcell 4), (h.cell (p := ⟨w.heap.size, 5, none⟩) hlt).trans (hcell 5), (h.cell (p := ⟨w.heap.size, 6, none⟩) hlt).trans (hcell 6), (h.cell (p := ⟨w.heap.size, 7, none⟩) hlt).trans (hcell 7)⟩
  have HBw : Hid (∀ W, Below W0.heap.size W0 W → Below w.heap.size w W) := fun W h => hA.trans (h.mono hA.size)
  have HCl : Hid (∀ W, t.ch.length ≤ 8 → Below W0.heap.size W0 W → Calls Tryz.prog 64 #[.slice ac t.ch.length cc] W fun e w' => e = .returned (.int .i64 ((clm [] t.ch).length : Int)) ∧ Below W.heap.size W w') := fun W h8 h => climb_any _ t.ch W (r3.below (HBw.out W h)) (by omega) hn.c (Utf8Tabs_below hU (HBw.out W h))
  have HCh : Hid (∀ (i : Nat) (hi : i < t.ch.length) W, Below W0.heap.size W0 W → ∃ b off, ac = some ⟨b, off, none⟩ ∧ W.cell? ⟨b, off + i, none⟩ = some (.string t.ch[i])) := fun i hi W h => by
    obtain ⟨b, off, e, -, -, -, hc⟩ := s_at (r3.below (HBw.out W h)) (by omega)
    exact ⟨b, off, e, hc i hi⟩
  have HId : Hid (∀ W, Calls Tryz.prog 35 #[idV t.nd t.lf t.sq] W fun e w' => e = .returned (.bool (idB t.nd t.lf t.sq)) ∧ Below W.heap.size W w') := fun W => isID_any _ _ _ W
  have HC1 : Hid (∀ W, Below W0.heap.size W0 W → Calls Tryz.prog 34 #[.slice ao t.own.length co] W fun e w' => e = .returned (.bool (chkF t.own)) ∧ Below W.heap.size W w') := fun W h => checkF_any _ t.own W (r1.below (HBw.out W h)) hn.lo hn.o (Utf8Tabs_below hU (HBw.out W h)) (ML_below hM (HBw.out W h))
  have HC2 : Hid (∀ W, Below W0.heap.size W0 W → Calls Tryz.prog 34 #[.slice aa t.all.length ca] W fun e w' => e = .returned (.bool (chkF t.all)) ∧ Below W.heap.size W w') := fun W h => checkF_any _ t.all W (r2.below (HBw.out W h)) hn.la hn.a (Utf8Tabs_below hU (HBw.out W h)) (ML_below hM (HBw.out W h))
  have HEq : Hid (∀ W, Below W0.heap.size W0 W → Calls Tryz.prog 65 #[.slice aa t.all.length ca, .slice ao t.own.length co] W fun e w' => e = .returned (.bool (sameR t.all t.own)) ∧ Below W.heap.size W w') := fun W h => equalF_any _ _ t.all t.own W (r2.below (HBw.out W h)) (r1.below (HBw.out W h)) hn.la hn.lo
  have HWi : Hid (∀ W, Below W0.heap.size W0 W → Calls Tryz.prog 66 #[.slice ao t.own.length co, .slice aa t.all.length ca] W fun e w' => e = .returned (.bool (withinL t.own t.all)) ∧ Below W.heap.size W w') := fun W h => withinF_any _ _ t.own t.all W (r1.below (HBw.out W h)) (r2.below (HBw.out W h)) hn.lo hn.la hn.o hn.a (Utf8Tabs_below hU (HBw.out W h))
  have hchk : chkT t = (decide (1 ≤ t.ch.length) && (decide (t.ch.length ≤ 8) && (decide (t.ch[0]? = some t.n) && (decide (t.ch.length ≤ (clm [] t.ch).length) && chkR t)))) := rfl
  have hchr : chkR t = (idB t.nd t.lf t.sq && (chkF t.own && (chkF t.all && (if t.ch.length = 1 then decide (t.p.size = 0) && sameR t.all t.own else decide (t.ch[1]? = some t.p) && withinL t.own t.all)))) := rfl
  generalize hRR : chkR t = RR at *
  generalize hTT : chkT t = TT at *
  clear hn hU hM r1 r2 r3 hcell hnb hRR hTT
  by_cases h1 : 1 ≤ t.ch.length
  rotate_left
  · have hf : TT = false := by rw [hchk, decide_eq_false h1, Bool.false_and]
    have d1 : decide ((t.ch.length : Int) < 1) = true := decide_eq_true (by omega)
    have d1' : decide (t.ch.length < 1) = true := decide_eq_true (by omega)
    rw [hf]
    clear hchk hchr hf h1 HCl HCh HId HC1 HC2 HEq HWi
    go_enter Tryz.func37, Tryz.ntmps37
    go_wp2_with fail
    rw [← hW0]
    clear hW0
    refine wp_region_quiet (C := fun w' => Below W0.heap.size W0 w') (by kernel_rfl) (by kernel_rfl) ((Below.refl _ _).drew) ?_
    dsimp only
    repeat (first
      | go_big_quiet_skip
      | (go_big_quiet_want
         apply Exists.intro
         refine ⟨fun W' hW' => ?_, ?_⟩
         · have hw : Below W0.heap.size W0 W' := hW'
           obtain ⟨⟨g0, g1, g2, g3⟩, g4, g5, g6, g7⟩ := HX.out W' hw
           skip
           go_simp
           first
             | done
             | rfl
         go_big_quiet_on
         try simp only [Act.put, List.setIfInBounds_toArray, List.set_cons_zero, List.set_cons_succ]))
    refine wpQuiet_nil ?_
    intro w2 hqw2
    have Hw2 : Hid (Below W0.heap.size W0 w2) := hqw2
    clear hqw2
    go_wp2
    go_ret
    exact ⟨rfl, HBw.out _ Hw2.out⟩
  have d1 : decide ((t.ch.length : Int) < 1) = false := decide_eq_false (by omega)
  have d1' : decide (t.ch.length < 1) = false := decide_eq_false (by omega)
  by_cases h8 : t.ch.length ≤ 8
  rotate_left
  · have hf : TT = false := by rw [hchk, decide_eq_false h8, Bool.false_and, Bool.and_false]
    have d2 : decide ((8 : Int) < (t.ch.length : Int)) = true := by simp; omega
    have d2' : decide (8 < t.ch.length) = true := by simp; omega
    rw [hf]
    clear hchk hchr hf h1 h8 HCl HCh HId HC1 HC2 HEq HWi
    go_enter Tryz.func37, Tryz.ntmps37
    go_wp2_with fail
    rw [← hW0]
    clear hW0
    refine wp_region_quiet (C := fun w' => Below W0.heap.size W0 w') (by kernel_rfl) (by kernel_rfl) ((Below.refl _ _).drew) ?_
    dsimp only
    repeat (first
      | go_big_quiet_skip
      | (go_big_quiet_want
         apply Exists.intro
         refine ⟨fun W' hW' => ?_, ?_⟩
         · have hw : Below W0.heap.size W0 W' := hW'
           obtain ⟨⟨g0, g1, g2, g3⟩, g4, g5, g6, g7⟩ := HX.out W' hw
           skip
           go_simp
           first
             | done
             | rfl
         go_big_quiet_on
         try simp only [Act.put, List.setIfInBounds_toArray, List.set_cons_zero, List.set_cons_succ]))
    refine wpQuiet_nil ?_
    intro w2 hqw2
    have Hw2 : Hid (Below W0.heap.size W0 w2) := hqw2
    clear hqw2
    go_wp2
    go_ret
    exact ⟨rfl, HBw.out _ Hw2.out⟩
  have d2 : decide ((8 : Int) < (t.ch.length : Int)) = false := by simp; omega
  have d2' : decide (8 < t.ch.length) = false := by simp; omega
  have i0 : (0 : Int) < (t.ch.length : Int) := by omega
  have h0l : 0 < t.ch.length := by omega
  have e0 : t.ch[0]? = some (t.ch[0]'h0l) := List.getElem?_eq_getElem h0l
  have HC0 : Hid (∀ W, Below W0.heap.size W0 W → ∃ b off, ac = some ⟨b, off, none⟩ ∧ W.cell? ⟨b, off, none⟩ = some (.string (t.ch[0]'h0l))) := fun W h => by
    obtain ⟨b, off, e, hc⟩ := HCh.out 0 h0l W h
    exact ⟨b, off, e, by simpa using hc⟩
  have eN := strNe (t.ch[0]'h0l) t.n
  rw [e0] at hchk
  generalize t.ch[0]'h0l = c0 at *
  obtain ⟨b, off, rfl, -⟩ := HC0.out W0 (Below.refl _ _)
  have HC0' : Hid (∀ W, Below W0.heap.size W0 W → W.cell? ⟨b, off, none⟩ = some (.string c0)) := fun W h => by
    obtain ⟨b', off', e, hc⟩ := HC0.out W h
    obtain ⟨rfl, rfl, -⟩ := Addr.mk.inj (Option.some.inj e)
    exact hc
  clear HC0
  by_cases hn0 : c0 = t.n
  rotate_left
  · have hf : TT = false := by rw [hchk, decide_eq_false (fun e => hn0 (Option.some.inj e)), Bool.false_and, Bool.and_false, Bool.and_false]
    rw [decide_eq_false hn0] at eN
    rw [hf]
    clear hchk hchr hf h1 HCl HCh HId HC1 HC2 HEq HWi hn0
    go_enter Tryz.func37, Tryz.ntmps37
    go_wp2_with fail
    rw [← hW0]
    clear hW0
    refine wp_region_quiet (C := fun w' => Below W0.heap.size W0 w') (by kernel_rfl) (by kernel_rfl) ((Below.refl _ _).drew) ?_
    dsimp only
    repeat (first
      | go_big_quiet_skip
      | (go_big_quiet_want
         apply Exists.intro
         refine ⟨fun W' hW' => ?_, ?_⟩
         · have hw : Below W0.heap.size W0 W' := hW'
           obtain ⟨⟨g0, g1, g2, g3⟩, g4, g5, g6, g7⟩ := HX.out W' hw
           have g8 := HC0'.out W' hw
           go_simp
           first
             | done
             | rfl
         go_big_quiet_on
         try simp only [Act.put, List.setIfInBounds_toArray, List.set_cons_zero, List.set_cons_succ]))
    refine wpQuiet_nil ?_
    intro w2 hqw2
    have Hw2 : Hid (Below W0.heap.size W0 w2) := hqw2
    clear hqw2
    go_wp2
    go_ret
    exact ⟨rfl, HBw.out _ Hw2.out⟩
  rw [decide_eq_true hn0] at eN
  have hch2 : TT = (decide (t.ch.length ≤ (clm [] t.ch).length) && RR) := by rw [hchk, decide_eq_true h1, decide_eq_true h8, decide_eq_true (by rw [hn0]), Bool.true_and, Bool.true_and, Bool.true_and]
  clear hchk
  by_cases hcl : t.ch.length ≤ (clm [] t.ch).length
  rotate_left
  · have hf : TT = false := by rw [hch2, decide_eq_false hcl, Bool.false_and]
    have d3 : decide (((clm [] t.ch).length : Int) < (t.ch.length : Int)) = true := by simp; omega
    have d3' : decide ((clm [] t.ch).length < t.ch.length) = true := by simp; omega
    rw [hf]
    generalize (clm [] t.ch).length = CN at *
    clear hch2 hchr hf h1 HCh HId HC1 HC2 HEq HWi hcl
    go_enter Tryz.func37, Tryz.ntmps37
    go_wp2_with fail
    rw [← hW0]
    clear hW0
    refine wp_region_quiet (C := fun w' => Below W0.heap.size W0 w') (by kernel_rfl) (by kernel_rfl) ((Below.refl _ _).drew) ?_
    dsimp only
    repeat (first
      | go_big_quiet_skip
      | (go_big_quiet_want
         apply Exists.intro
         refine ⟨fun W' hW' => ?_, ?_⟩
         · have hw : Below W0.heap.size W0 W' := hW'
           obtain ⟨⟨g0, g1, g2, g3⟩, g4, g5, g6, g7⟩ := HX.out W' hw
           have g8 := HC0'.out W' hw
           go_simp
           first
             | done
             | rfl
             | (go_at_call 64; refine (HCl.out W' h8 hw).mono ?_; rintro e w'' ⟨rfl, hb⟩; exact ⟨rfl, hw.trans (hb.mono hw.size)⟩)
         go_big_quiet_on
         try simp only [Act.put, List.setIfInBounds_toArray, List.set_cons_zero, List.set_cons_succ]))
    refine wpQuiet_nil ?_
    intro w2 hqw2
    have Hw2 : Hid (Below W0.heap.size W0 w2) := hqw2
    clear hqw2
    go_wp2
    go_ret
    exact ⟨rfl, HBw.out _ Hw2.out⟩
  have hch3 : TT = RR := by rw [hch2, decide_eq_true hcl, Bool.true_and]
  have d3 : decide (((clm [] t.ch).length : Int) < (t.ch.length : Int)) = false := by simp; omega
  have d3' : decide ((clm [] t.ch).length < t.ch.length) = false := by simp; omega
  clear hch2 hcl
  rw [hch3]
  generalize (clm [] t.ch).length = CN at *
  have HF : Hid (∀ W, Below W0.heap.size W0 W → Below w.heap.size w W) := HBw
  cases hid : idB t.nd t.lf t.sq
  · have hf : RR = false := by rw [hchr, hid, Bool.false_and]
    rw [hid] at HId
    rw [hf]
    clear hchr hch3 hf h1 HCh HC1 HC2 HEq HWi hid hn0
    go_enter Tryz.func37, Tryz.ntmps37
    go_wp2_with fail
    rw [← hW0]
    clear hW0
    refine wp_region_quiet (C := fun w' => Below W0.heap.size W0 w') (by kernel_rfl) (by kernel_rfl) ((Below.refl _ _).drew) ?_
    dsimp only
    repeat (first
      | go_big_quiet_skip
      | (go_big_quiet_want
         apply Exists.intro
         refine ⟨fun W' hW' => ?_, ?_⟩
         · have hw : Below W0.heap.size W0 W' := hW'
           obtain ⟨⟨g0, g1, g2, g3⟩, g4, g5, g6, g7⟩ := HX.out W' hw
           have g8 := HC0'.out W' hw
           go_simp
           first
             | done
             | rfl
             | (go_at_call 64; refine (HCl.out W' h8 hw).mono ?_; rintro e w'' ⟨rfl, hb⟩; exact ⟨rfl, hw.trans (hb.mono hw.size)⟩)
         go_big_quiet_on
         try simp only [Act.put, List.setIfInBounds_toArray, List.set_cons_zero, List.set_cons_succ]))
    refine wpQuiet_nil ?_
    intro w2 hqw2
    have Hw2 : Hid (Below W0.heap.size W0 w2) := hqw2
    clear hqw2
    obtain ⟨⟨g0, g1, g2, g3⟩, g4, g5, g6, g7⟩ := HX.out w2 Hw2.out
    go_wp2_with fail
    refine (HId.out _).mono ?_
    rintro e w3 ⟨rfl, hb3⟩
    have H3 : Hid (Below W0.heap.size W0 w3) := Hw2.out.trans (hb3.mono Hw2.out.size)
    clear hb3
    go_wp2
    go_ret
    exact ⟨rfl, HBw.out _ H3.out⟩
  rw [hid] at HId
  cases hc1 : chkF t.own
  · have hf : RR = false := by rw [hchr, hid, hc1, Bool.false_and, Bool.true_and]
    rw [hc1] at HC1
    rw [hf]
    clear hchr hch3 hf h1 HCh HC2 HEq HWi hid hc1 hn0
    go_enter Tryz.func37, Tryz.ntmps37
    go_wp2_with fail
    rw [← hW0]
    clear hW0
    refine wp_region_quiet (C := fun w' => Below W0.heap.size W0 w') (by kernel_rfl) (by kernel_rfl) ((Below.refl _ _).drew) ?_
    dsimp only
    repeat (first
      | go_big_quiet_skip
      | (go_big_quiet_want
         apply Exists.intro
         refine ⟨fun W' hW' => ?_, ?_⟩
         · have hw : Below W0.heap.size W0 W' := hW'
           obtain ⟨⟨g0, g1, g2, g3⟩, g4, g5, g6, g7⟩ := HX.out W' hw
           have g8 := HC0'.out W' hw
           go_simp
           first
             | done
             | rfl
             | (go_at_call 64; refine (HCl.out W' h8 hw).mono ?_; rintro e w'' ⟨rfl, hb⟩; exact ⟨rfl, hw.trans (hb.mono hw.size)⟩)
         go_big_quiet_on
         try simp only [Act.put, List.setIfInBounds_toArray, List.set_cons_zero, List.set_cons_succ]))
    refine wpQuiet_nil ?_
    intro w2 hqw2
    have Hw2 : Hid (Below W0.heap.size W0 w2) := hqw2
    clear hqw2
    obtain ⟨⟨g0, g1, g2, g3⟩, g4, g5, g6, g7⟩ := HX.out w2 Hw2.out
    go_wp2_with fail
    refine (HId.out _).mono ?_
    rintro e w3 ⟨rfl, hb3⟩
    have H3 : Hid (Below W0.heap.size W0 w3) := Hw2.out.trans (hb3.mono Hw2.out.size)
    clear hb3 g0 g1 g2 g3 g4 g5 g6 g7
    obtain ⟨⟨g0, g1, g2, g3⟩, g4, g5, g6, g7⟩ := HX.out w3 H3.out
    go_wp2_with fail
    refine (HC1.out _ H3.out).mono ?_
    rintro e w4 ⟨rfl, hb4⟩
    have H4 : Hid (Below W0.heap.size W0 w4) := H3.out.trans (hb4.mono H3.out.size)
    clear hb4
    go_wp2
    go_ret
    exact ⟨rfl, HBw.out _ H4.out⟩
  rw [hc1] at HC1
  cases hc2 : chkF t.all
  · have hf : RR = false := by rw [hchr, hid, hc1, hc2, Bool.false_and, Bool.true_and, Bool.true_and]
    rw [hc2] at HC2
    rw [hf]
    clear hchr hch3 hf h1 HCh HEq HWi hid hc1 hc2 hn0
    go_enter Tryz.func37, Tryz.ntmps37
    go_wp2_with fail
    rw [← hW0]
    clear hW0
    refine wp_region_quiet (C := fun w' => Below W0.heap.size W0 w') (by kernel_rfl) (by kernel_rfl) ((Below.refl _ _).drew) ?_
    dsimp only
    repeat (first
      | go_big_quiet_skip
      | (go_big_quiet_want
         apply Exists.intro
         refine ⟨fun W' hW' => ?_, ?_⟩
         · have hw : Below W0.heap.size W0 W' := hW'
           obtain ⟨⟨g0, g1, g2, g3⟩, g4, g5, g6, g7⟩ := HX.out W' hw
           have g8 := HC0'.out W' hw
           go_simp
           first
             | done
             | rfl
             | (go_at_call 64; refine (HCl.out W' h8 hw).mono ?_; rintro e w'' ⟨rfl, hb⟩; exact ⟨rfl, hw.trans (hb.mono hw.size)⟩)
         go_big_quiet_on
         try simp only [Act.put, List.setIfInBounds_toArray, List.set_cons_zero, List.set_cons_succ]))
    refine wpQuiet_nil ?_
    intro w2 hqw2
    have Hw2 : Hid (Below W0.heap.size W0 w2) := hqw2
    clear hqw2
    obtain ⟨⟨g0, g1, g2, g3⟩, g4, g5, g6, g7⟩ := HX.out w2 Hw2.out
    go_wp2_with fail
    refine (HId.out _).mono ?_
    rintro e w3 ⟨rfl, hb3⟩
    have H3 : Hid (Below W0.heap.size W0 w3) := Hw2.out.trans (hb3.mono Hw2.out.size)
    clear hb3 g0 g1 g2 g3 g4 g5 g6 g7
    obtain ⟨⟨g0, g1, g2, g3⟩, g4, g5, g6, g7⟩ := HX.out w3 H3.out
    go_wp2_with fail
    refine (HC1.out _ H3.out).mono ?_
    rintro e w4 ⟨rfl, hb4⟩
    have H4 : Hid (Below W0.heap.size W0 w4) := H3.out.trans (hb4.mono H3.out.size)
    clear hb4 g0 g1 g2 g3 g4 g5 g6 g7
    obtain ⟨⟨g0, g1, g2, g3⟩, g4, g5, g6, g7⟩ := HX.out w4 H4.out
    go_wp2_with fail
    refine (HC2.out _ H4.out).mono ?_
    rintro e w5 ⟨rfl, hb5⟩
    have H5 : Hid (Below W0.heap.size W0 w5) := H4.out.trans (hb5.mono H4.out.size)
    clear hb5
    go_wp2
    go_ret
    exact ⟨rfl, HBw.out _ H5.out⟩
  rw [hc2] at HC2
  rw [hid, hc1, hc2, Bool.true_and, Bool.true_and, Bool.true_and] at hchr
  have HR3 : Hid (RR = if t.ch.length = 1 then decide (t.p.size = 0) && sameR t.all t.own else decide (t.ch[1]? = some t.p) && withinL t.own t.all) := hchr
  clear hchr hch3 h1 hid hc1 hc2 hn0
  go_enter Tryz.func37, Tryz.ntmps37
  go_wp2_with fail
  rw [← hW0]
  clear hW0
  refine wp_region_quiet (C := fun w' => Below W0.heap.size W0 w') (by kernel_rfl) (by kernel_rfl) ((Below.refl _ _).drew) ?_
  dsimp only
  repeat (first
    | go_big_quiet_skip
    | (go_big_quiet_want
       apply Exists.intro
       refine ⟨fun W' hW' => ?_, ?_⟩
       · have hw : Below W0.heap.size W0 W' := hW'
         obtain ⟨⟨g0, g1, g2, g3⟩, g4, g5, g6, g7⟩ := HX.out W' hw
         have g8 := HC0'.out W' hw
         go_simp
         first
           | done
           | rfl
           | (go_at_call 64; refine (HCl.out W' h8 hw).mono ?_; rintro e w'' ⟨rfl, hb⟩; exact ⟨rfl, hw.trans (hb.mono hw.size)⟩)
       go_big_quiet_on
       try simp only [Act.put, List.setIfInBounds_toArray, List.set_cons_zero, List.set_cons_succ]))
  refine wpQuiet_nil ?_
  intro w2 hqw2
  have Hw2 : Hid (Below W0.heap.size W0 w2) := hqw2
  clear hqw2
  obtain ⟨⟨g0, g1, g2, g3⟩, g4, g5, g6, g7⟩ := HX.out w2 Hw2.out
  go_wp2_with fail
  refine (HId.out _).mono ?_
  rintro e w3 ⟨rfl, hb3⟩
  have H3 : Hid (Below W0.heap.size W0 w3) := Hw2.out.trans (hb3.mono Hw2.out.size)
  clear hb3 g0 g1 g2 g3 g4 g5 g6 g7
  obtain ⟨⟨g0, g1, g2, g3⟩, g4, g5, g6, g7⟩ := HX.out w3 H3.out
  go_wp2_with fail
  refine (HC1.out _ H3.out).mono ?_
  rintro e w4 ⟨rfl, hb4⟩
  have H4 : Hid (Below W0.heap.size W0 w4) := H3.out.trans (hb4.mono H3.out.size)
  clear hb4 g0 g1 g2 g3 g4 g5 g6 g7
  obtain ⟨⟨g0, g1, g2, g3⟩, g4, g5, g6, g7⟩ := HX.out w4 H4.out
  go_wp2_with fail
  refine (HC2.out _ H4.out).mono ?_
  rintro e w5 ⟨rfl, hb5⟩
  have H5 : Hid (Below W0.heap.size W0 w5) := H4.out.trans (hb5.mono H4.out.size)
  have HB5 : Hid (Below w.heap.size w w5) := HBw.out _ H5.out
  clear hb5 g0 g1 g2 g3 g4 g5 g6 g7 HC1 HC2 HId HCl HC0'
  obtain ⟨⟨g0, g1, g2, g3⟩, g4, g5, g6, g7⟩ := HX.out w5 H5.out
  have eP : (t.p.toList == ([] : List UInt8)) = decide (t.p.size = 0) := by
    rw [Bool.eq_iff_iff, beq_iff_eq, decide_eq_true_eq, ByteArray.toList_eq]
    constructor
    · intro h
      have e : t.p.data.toList.length = t.p.size := by simp
      rw [h] at e
      exact e.symm
    · intro h
      apply List.eq_nil_of_length_eq_zero
      have e : t.p.data.toList.length = t.p.size := by simp
      omega
  have eP2 : (t.p.toList == (⟨#[]⟩ : ByteArray).toList) = decide (t.p.size = 0) := by rw [← eP, ByteArray.toList_eq ⟨#[]⟩]
  by_cases hl1 : t.ch.length = 1
  · have HR4 : Hid (RR = (decide (t.p.size = 0) && sameR t.all t.own)) := HR3.out.trans (if_pos hl1)
    have dl : ((t.ch.length : Int) == 1) = true := by rw [beq_iff_eq]; omega
    have dl' : (t.ch.length == 1) = true := by rw [beq_iff_eq]; exact hl1
    clear hl1 HR3 HCh HWi
    cases hp : decide (t.p.size = 0)
    · rw [hp] at HR4 eP eP2
      have HR5 : Hid (RR = false) := HR4.out.trans (Bool.false_and _)
      clear HR4 hp
      go_wp2
      go_ret
      exact ⟨by rw [HR5.out]; rfl, HB5.out⟩
    · rw [hp] at HR4 eP eP2
      have HR5 : Hid (RR = sameR t.all t.own) := HR4.out.trans (Bool.true_and _)
      clear HR4 hp
      generalize sameR t.all t.own = SM at *
      go_wp2_with fail
      refine (HEq.out _ H5.out).mono ?_
      rintro e w6 ⟨rfl, hb6⟩
      have HB6 : Hid (Below w.heap.size w w6) := HB5.out.trans (hb6.mono HB5.out.size)
      clear hb6 HEq
      go_wp2
      go_ret
      exact ⟨by rw [HR5.out]; rfl, HB6.out⟩
  · have hl2 : 1 < t.ch.length := by omega
    have e1 : t.ch[1]? = some (t.ch[1]'hl2) := List.getElem?_eq_getElem hl2
    have HR4 : Hid (RR = (decide (t.ch[1]'hl2 = t.p) && withinL t.own t.all)) := HR3.out.trans (by rw [if_neg hl1, e1]; congr 1; simp)
    have dl : ((t.ch.length : Int) == 1) = false := by rw [beq_eq_false_iff_ne]; omega
    have dl' : (t.ch.length == 1) = false := by rw [beq_eq_false_iff_ne]; omega
    have HC1' : Hid (∀ W, Below W0.heap.size W0 W → W.cell? ⟨b, off + 1, none⟩ = some (.string (t.ch[1]'hl2))) := fun W h => by
      obtain ⟨b', off', e, hc⟩ := HCh.out 1 hl2 W h
      obtain ⟨rfl, rfl, -⟩ := Addr.mk.inj (Option.some.inj e)
      exact hc
    have eC := strEqB t.p (t.ch[1]'hl2)
    have q1 : (1 : Int) < (t.ch.length : Int) := by omega
    generalize t.ch[1]'hl2 = c1 at *
    clear hl1 HR3 HCh HEq e1
    have HPs : Hid ((c1 = t.p) ↔ (t.p = c1)) := eq_comm
    cases hp : decide (t.p = c1)
    · rw [hp] at eC
      have HR5 : Hid (RR = false) := HR4.out.trans (by rw [decide_eq_false (fun e => by rw [decide_eq_true (HPs.out.1 e)] at hp; cases hp), Bool.false_and])
      clear HR4 hp HPs
      go_wp2_with fail
      refine wp_region_quiet (C := fun w' => Below W0.heap.size W0 w') (by kernel_rfl) (by kernel_rfl) (H5.out.drew) ?_
      dsimp only
      repeat (first
        | go_big_quiet_skip
        | (go_big_quiet_want
           apply Exists.intro
           refine ⟨fun W' hW' => ?_, ?_⟩
           · have hw : Below W0.heap.size W0 W' := hW'
             obtain ⟨⟨g0, g1, g2, g3⟩, g4, g5, g6, g7⟩ := HX.out W' hw
             have g8 := HC1'.out W' hw
             go_simp
             first
               | done
               | rfl
           go_big_quiet_on
           try simp only [Act.put, List.setIfInBounds_toArray, List.set_cons_zero, List.set_cons_succ]))
      refine wpQuiet_nil ?_
      intro w6 hqw6
      have Hw6 : Hid (Below W0.heap.size W0 w6) := hqw6
      clear hqw6
      have HB6 : Hid (Below w.heap.size w w6) := HBw.out _ Hw6.out
      go_wp2
      go_ret
      exact ⟨by rw [HR5.out]; rfl, HB6.out⟩
    · rw [hp] at eC
      have HR5 : Hid (RR = withinL t.own t.all) := HR4.out.trans (by rw [decide_eq_true (HPs.out.2 (of_decide_eq_true hp)), Bool.true_and])
      clear HR4 hp HPs
      generalize withinL t.own t.all = WL at *
      go_wp2_with fail
      refine wp_region_quiet (C := fun w' => Below W0.heap.size W0 w') (by kernel_rfl) (by kernel_rfl) (H5.out.drew) ?_
      dsimp only
      repeat (first
        | go_big_quiet_skip
        | (go_big_quiet_want
           apply Exists.intro
           refine ⟨fun W' hW' => ?_, ?_⟩
           · have hw : Below W0.heap.size W0 W' := hW'
             obtain ⟨⟨g0, g1, g2, g3⟩, g4, g5, g6, g7⟩ := HX.out W' hw
             have g8 := HC1'.out W' hw
             go_simp
             first
               | done
               | rfl
               | (go_at_call 66; refine (HWi.out W' hw).mono ?_; rintro e w'' ⟨rfl, hb⟩; exact ⟨rfl, hw.trans (hb.mono hw.size)⟩)
           go_big_quiet_on
           try simp only [Act.put, List.setIfInBounds_toArray, List.set_cons_zero, List.set_cons_succ]))
      refine wpQuiet_nil ?_
      intro w6 hqw6
      have Hw6 : Hid (Below W0.heap.size W0 w6) := hqw6
      clear hqw6
      have HB6 : Hid (Below w.heap.size w w6) := HBw.out _ Hw6.out
      go_wp2
      go_ret
      exact ⟨by rw [HR5.out]; rfl, HB6.out⟩
end Go.Proofs.YtlndgepoekllkaaGreatDoor
/- Types and forests: plain mathematics. -/
namespace Go.Proofs.YtlndgepoekllkaaGreatDoor
open Go.RowKit

/-! ### what two schemas make together -/
/-! ### names -/
theorem cmpL_zero {a b : List UInt8} : cmpL a b = 0 ↔ foldL a = foldL b := by
  unfold cmpL
  constructor
  · exact cmp_zero _ _
  · intro h; rw [h, cmp_self]
theorem sameL_iff {a b : List UInt8} : sameL a b = true ↔ cmpL a b = 0 := by
  unfold sameL
  rw [decide_eq_true_eq, cmpL_zero]
theorem cmpL_tr {a b c : List UInt8} (h1 : cmpL a b < 0) (h2 : cmpL b c < 0) : cmpL a c < 0 := by
  rw [cmpL_lt] at *
  exact cmp_trans _ _ _ h1 h2
theorem cmpL_anti (a b : List UInt8) : cmpL a b = - cmpL b a := cmp_anti _ _
theorem cmpL_irr (a : List UInt8) : cmpL a a = 0 := cmp_self _

/-! ### places -/
/-- The type of a name. -/
def parN (l : List Ty) (s : ByteArray) : Option Ty := l.find? fun u => sameL u.n.data.toList s.data.toList
/-! ### forests -/
def sameS (a b : List ByteArray) : Bool := decide (a = b)
def zT : Ty := ⟨⟨#[]⟩, ⟨#[]⟩, [], [], [], 0, 0, 0⟩
/-- A type that is below no other one, or the error. -/
def rootR (s : ByteArray) (own : List Fd) (a b c : Int) : Ty × Int := if checkL s.data.toList = 0 then (if (chkF own && idB a b c) = true then (⟨s, ⟨#[]⟩, own, own, [s], a, b, c⟩, 0) else (zT, 1)) else (zT, checkL s.data.toList)
def insT (l : List Ty) (k : Nat) (t : Ty) : List Ty := l.take k ++ t :: l.drop k
end Go.Proofs.YtlndgepoekllkaaGreatDoor
/- slices.Clone at names; a type in memory: walks. -/
namespace Go.Proofs.YtlndgepoekllkaaGreatDoor
open Go.RowKit Go.ChangeMaps

theorem sVals_len (l : List ByteArray) : (sVals l).length = l.length * 1 := by simp [sVals]
theorem oneS_cell (l : List ByteArray) : ∀ u ∈ sVals l, u.oneCell' = true := by
  intro u hu
  obtain ⟨x, -, rfl⟩ := List.mem_map.1 hu
  rfl
theorem sVals_app (a b : List ByteArray) : sVals (a ++ b) = sVals a ++ sVals b := by simp [sVals]
/-- A row of names is appended to one that is owned. -/
theorem wpl_sts (w : World) {ops : Array Oper} {rest : List Oper} {o : Oper} {a : Act} {Q : Exit → Act → World → Prop} (hgd : o.guard = none) (s x : Operand)
    (ho : o.op = .call { callee := .builtin .append, args := #[s, x], argTypes := #[31, 31] })
    (base : Nat) (v xv : Value) (l news : List ByteArray) (hs : a.eval s = v) (hx : a.eval x = xv) (h : w.ownsRow base 9 1 v l.length (sVals l)) (hr : IsRow w 1 xv news.length (sVals news)) (hl : l.length + news.length ≤ 1000000) (hbase : base ≤ w.heap.size)
    (hk : ∀ v' w', w'.ownsRow base 9 1 v' (l ++ news).length (sVals (l ++ news)) → Below base w w' → wpList Tryz.prog ops Q rest (a.put o.dst v') w') : wpList Tryz.prog ops Q (o :: rest) a w := by
  obtain ⟨i0, hi0, hz0, hz1, hz2⟩ := info_parts info_st
  rcases hr.2 with ⟨h0, xa, xc, rfl⟩ | ⟨b, off, cap, rfl, hb, hc, hm, hcell⟩
  · refine wpList_plain hgd fun K hK => ?_
    have hn : news = [] := List.eq_nil_of_length_eq_zero h0
    subst hn
    have hv : ∃ va vc, v = .slice va l.length vc ∧ l.length ≤ vc := by
      rcases h.2 with ⟨rfl, h1⟩ | ⟨g, cap, cur, rfl, _, _, hlc, _⟩
      · rw [h1]; exact ⟨none, 0, rfl, Nat.le_refl _⟩
      · exact ⟨_, cap, rfl, hlc⟩
    obtain ⟨va, vc, rfl, hvc⟩ := hv
    have hrun := run_app0S (P := Tryz.prog) w 31 o.type 9 i0 Tryz.underlying31 hi0 va l.length vc hvc xa xc
    unfold Oper.wp execOp
    simp only [ho, resolve, invoke, builtin, Sem.run_bind, Sem.run_pure, Result.andThen_ok, List.map_toArray, List.map_cons, List.map_nil, hs, hx, hrun]
    exact hK _ _ (hk _ w (by rw [List.append_nil]; exact h) (Below.refl _ _))
  · refine wpList_append_own_at w hgd s x 31 ho base 9 i0 _ 1 16 Tryz.underlying31 hi0 hz0 hz1 hz2 rfl (by decide) v l.length (sVals l) hs h ⟨b, off, none⟩ news.length cap (sVals news) hx (sVals_len _) (fun j u hu => ?_) (oneS_cell _) (by unfold maxLen; omega) (by omega) hbase fun v' w' h1 h2 _ h4 => hk v' w' ?_ ?_
    · have hadd : (⟨b, off, none⟩ : Addr).add j = ⟨b, off + j, none⟩ := by unfold Addr.add; split <;> simp_all
      rw [hadd]; exact hcell j u hu
    · rw [List.length_append, sVals_app]; exact h1
    · exact (Below.refl _ _).grown h2 hbase (fun k hk => (h.lt k hk).1)
def ClS (l : List ByteArray) (w : World) (e : Ending) (w' : World) : Prop := ∃ v, e = .returned v ∧ w'.ownsRow w.heap.size 9 1 v l.length (sVals l) ∧ Below w.heap.size w w'
set_option maxRecDepth 100000 in
set_option maxHeartbeats 1000000 in
theorem cloneS_any (v : Value) (l : List ByteArray) (w : World) (hr : IsRow w 1 v l.length (sVals l)) (hl : l.length ≤ 1000) :
    Calls Tryz.prog 57 #[v] w fun e w' => ClS l w e w' := by
  obtain ⟨a0, cap0, rfl⟩ := hr.form
  cases a0 with
  | none =>
    have hn : l.length = 0 := by
      rcases hr.2 with ⟨h, -⟩ | ⟨b, off, cap, hv, -⟩
      · exact h
      · cases hv
    obtain rfl : l = [] := List.eq_nil_of_length_eq_zero hn
    have heq : ∀ w, (binOp BinOp.eql 31 (.slice none 0 cap0) (.slice none 0 0)).run Tryz.prog w = .ok (.bool true) w := fun w => by kernel_rfl
    clear hr hn
    go_enter Tryz.func57, Tryz.ntmps57
    go_wp2
    go_ret
    exact ⟨_, rfl, ⟨rfl, .inl ⟨rfl, rfl⟩⟩, Below.refl _ _⟩
  | some a =>
    have HW : Hid ((w.alloc (.cells #[] 9)).ownsRow w.heap.size 9 1 (.slice (some ⟨w.heap.size, 0, none⟩) 0 0) ([] : List ByteArray).length (sVals [])) := ⟨rfl, .inr ⟨w.heap.size, 0, #[], rfl, Nat.le_refl _, new_at w _, Nat.le_refl _, Nat.zero_le _, rfl, rfl⟩⟩
    have HB : Hid (Below w.heap.size w (w.alloc (.cells #[] 9))) := al_b w _
    have HR : Hid (IsRow (w.alloc (.cells #[] 9)) 1 (.slice (some a) l.length cap0) l.length (sVals l)) := hr.below (al_b w _)
    have heq : ∀ w, (binOp BinOp.eql 31 (.slice (some a) l.length cap0) (.slice none 0 0)).run Tryz.prog w = .ok (.bool false) w := fun w => by kernel_rfl
    clear hr
    go_enter Tryz.func57, Tryz.ntmps57
    go_wp2_with (at_builtin; go_loud (refine wpl_sts (w.alloc (.cells #[] 9)) rfl (.tmp 5) (.tmp 6) rfl w.heap.size (.slice (some ⟨w.heap.size, 0, none⟩) 0 0) (.slice (some a) l.length cap0) [] l rfl rfl HW.out HR.out (by simp; omega) (by simp) ?_; intro v4 w4 hown4 hb4))
    rw [List.nil_append] at hown4
    have HO : Hid (w4.ownsRow w.heap.size 9 1 v4 l.length (sVals l)) := hown4
    have HB4 : Hid (Below w.heap.size w w4) := HB.out.trans hb4
    clear hown4 hb4 HW HR
    go_wp2
    go_ret
    exact ⟨_, rfl, HO.out, HB4.out⟩
/-- A type whose rows are owned. -/
def OwnTy (base : Nat) (w : World) (t : Ty) (vo va vc : Value) : Prop := w.ownsRow base 94 3 vo t.own.length (fCells t.own) ∧ w.ownsRow base 94 3 va t.all.length (fCells t.all) ∧ w.ownsRow base 9 1 vc t.ch.length (sVals t.ch)
theorem OwnTy.is {base : Nat} {w : World} {t : Ty} {vo va vc : Value} (h : OwnTy base w t vo va vc) : IsTy w t vo va vc := ⟨IsRow.own h.1, IsRow.own h.2.1, IsRow.own h.2.2⟩
def CpT (t : Ty) (w : World) (e : Ending) (w' : World) : Prop := ∃ vo va vc, e = .returned (tyV t vo va vc) ∧ OwnTy w.heap.size w' t vo va vc ∧ Below w.heap.size w w'
theorem own_leT {w : World} {base base' : Nat} {e : TypeId} {sz : Nat} {v : Value} {n : Nat} {xs : List Value} (h : w.ownsRow base e sz v n xs) (hb : base' ≤ base) : w.ownsRow base' e sz v n xs :=
  ⟨h.1, h.2.imp id fun ⟨g, cap, cur, a, b, c⟩ => ⟨g, cap, cur, a, Nat.le_trans hb b, c⟩⟩
abbrev zTyA : Array Value := #[.string ⟨#[]⟩, .string ⟨#[]⟩, .slice none 0 0, .slice none 0 0, .slice none 0 0, .int .i64 0, .int .i64 0, .int .i64 0]
/-- The box of a type, cell by cell. -/
def BxT (g : Nat) (t : Ty) (vo va vc : Value) (w : World) : Prop := (w.cell? ⟨g, 0, none⟩ = some (.string t.n) ∧ w.cell? ⟨g, 1, none⟩ = some (.string t.p) ∧ w.cell? ⟨g, 2, none⟩ = some vo ∧ w.cell? ⟨g, 3, none⟩ = some va) ∧ w.cell? ⟨g, 4, none⟩ = some vc ∧ w.cell? ⟨g, 5, none⟩ = some (.int .i64 t.nd) ∧ w.cell? ⟨g, 6, none⟩ = some (.int .i64 t.lf) ∧ w.cell? ⟨g, 7, none⟩ = some (.int .i64 t.sq)
theorem BxT.of {g : Nat} {t : Ty} {vo va vc : Value} {w : World} (h : w.heap[g]? = some (.cells (tyA t vo va vc) 35 (0, 0))) : BxT g t vo va vc w := by
  have c : ∀ j, w.cell? ⟨g, j, none⟩ = (tyA t vo va vc)[j]? := fun j => by rw [Lib.cell_of_heap h]
  exact ⟨⟨c 0, c 1, c 2, c 3⟩, c 4, c 5, c 6, c 7⟩
theorem BxT.set {g : Nat} {t : Ty} {vo va vc : Value} {w : World} (h : BxT g t vo va vc w) (v1 v2 v3 : Value) : BxT g t v1 v2 v3 (((w.setCell ⟨g, 2, none⟩ v1).setCell ⟨g, 3, none⟩ v2).setCell ⟨g, 4, none⟩ v3) := by
  have o : ∀ (w : World) (i j : Nat) (v : Value), i ≠ j → (w.setCell ⟨g, i, none⟩ v).cell? ⟨g, j, none⟩ = w.cell? ⟨g, j, none⟩ := fun w i j v hij => World.cell?_setCell_other _ _ _ _ (by simp only [ne_eq, Addr.mk.injEq, not_and]; intro _ e; omega)
  obtain ⟨⟨c0, c1, c2, c3⟩, c4, c5, c6, c7⟩ := h
  refine ⟨⟨?_, ?_, ?_, ?_⟩, ?_, ?_, ?_, ?_⟩
  · rw [o _ _ _ _ (by decide), o _ _ _ _ (by decide), o _ _ _ _ (by decide)]; exact c0
  · rw [o _ _ _ _ (by decide), o _ _ _ _ (by decide), o _ _ _ _ (by decide)]; exact c1
  · rw [o _ _ _ _ (by decide), o _ _ _ _ (by decide)]; exact World.cell?_setCell_same _ _ _ c2
  · rw [o _ _ _ _ (by decide)]; exact World.cell?_setCell_same _ _ _ ((o _ _ _ _ (by decide)).trans c3)
  · exact World.cell?_setCell_same _ _ _ ((o _ _ _ _ (by decide)).trans ((o _ _ _ _ (by decide)).trans c4))
  · rw [o _ _ _ _ (by decide), o _ _ _ _ (by decide), o _ _ _ _ (by decide)]; exact c5
  · rw [o _ _ _ _ (by decide), o _ _ _ _ (by decide), o _ _ _ _ (by decide)]; exact c6
  · rw [o _ _ _ _ (by decide), o _ _ _ _ (by decide), o _ _ _ _ (by decide)]; exact c7
theorem BxT.far {g g' : Nat} {t : Ty} {vo va vc : Value} {w : World} (h : BxT g t vo va vc w) (hg : g' ≠ g) (j : Nat) (v : Value) : BxT g t vo va vc (w.setCell ⟨g', j, none⟩ v) := by
  have o : ∀ k, (w.setCell ⟨g', j, none⟩ v).cell? ⟨g, k, none⟩ = w.cell? ⟨g, k, none⟩ := fun k => World.cell?_setCell_other _ _ _ _ (by simp only [ne_eq, Addr.mk.injEq, not_and]; intro e; omega)
  obtain ⟨⟨c0, c1, c2, c3⟩, c4, c5, c6, c7⟩ := h
  exact ⟨⟨(o 0).trans c0, (o 1).trans c1, (o 2).trans c2, (o 3).trans c3⟩, (o 4).trans c4, (o 5).trans c5, (o 6).trans c6, (o 7).trans c7⟩
theorem OwnTy.set {base : Nat} {w : World} {t : Ty} {vo va vc : Value} (h : OwnTy base w t vo va vc) {g : Nat} (hg : g < base) (j : Nat) (v : Value) : OwnTy base (w.setCell ⟨g, j, none⟩ v) t vo va vc :=
  ⟨ownsRow_setCell_below h.1 hg v, ownsRow_setCell_below h.2.1 hg v, ownsRow_setCell_below h.2.2 hg v⟩
theorem OwnTy.le {base base' : Nat} {w : World} {t : Ty} {vo va vc : Value} (h : OwnTy base w t vo va vc) (hb : base' ≤ base) : OwnTy base' w t vo va vc := ⟨own_leT h.1 hb, own_leT h.2.1 hb, own_leT h.2.2 hb⟩
end Go.Proofs.YtlndgepoekllkaaGreatDoor
/- Rows of types; slices.BinarySearchFunc at them, place, parentOf: walks. -/
namespace Go.Proofs.YtlndgepoekllkaaGreatDoor
open Go.RowKit Go.ChangeMaps

/-- A type that lies somewhere: where its rows are. -/
structure LT where
  t : Ty
  ao : Option Addr
  co : Nat
  aa : Option Addr
  ca : Nat
  ac : Option Addr
  cc : Nat
abbrev LT.vo (x : LT) : Value := .slice x.ao x.t.own.length x.co
abbrev LT.va (x : LT) : Value := .slice x.aa x.t.all.length x.ca
abbrev LT.vc (x : LT) : Value := .slice x.ac x.t.ch.length x.cc
def enT (x : LT) : List Value := [.string x.t.n, .string x.t.p, x.vo, x.va, x.vc, .int .i64 x.t.nd, .int .i64 x.t.lf, .int .i64 x.t.sq]
abbrev ltV (x : LT) : Value := tyV x.t x.vo x.va x.vc
def tCells (L : List LT) : List Value := L.flatMap enT
def tys (L : List LT) : List Ty := L.map LT.t
theorem tys_len (L : List LT) : (tys L).length = L.length := by simp [tys]
theorem tys_at (L : List LT) (k : Nat) (h : k < L.length) : (tys L)[k]'(by rw [tys_len]; exact h) = L[k].t := by simp [tys]
/-- Types in memory. -/
def IsTys (w : World) (v : Value) (L : List LT) : Prop := IsRow w 8 v L.length (tCells L) ∧ ∀ x ∈ L, IsTy w x.t x.vo x.va x.vc
theorem IsTys.below {w w' : World} {v : Value} {L : List LT} (h : IsTys w v L) (hb : Below w.heap.size w w') : IsTys w' v L := ⟨h.1.below hb, fun x hx => (h.2 x hx).below hb⟩
theorem tCells_app (a b : List LT) : tCells (a ++ b) = tCells a ++ tCells b := by simp [tCells]
theorem tCells_get : ∀ (L : List LT) (k : Nat) (hk : k < L.length) (j : Nat), j < 8 → (tCells L)[k * 8 + j]? = (enT L[k])[j]?
  | [], k, hk, _, _ => absurd hk (by simp)
  | d :: L, 0, _, j, hj => by
    unfold tCells
    rw [List.flatMap_cons, Nat.zero_mul, Nat.zero_add, List.getElem?_append_left (by exact hj)]
    rfl
  | d :: L, k + 1, hk, j, hj => by
    have ih := tCells_get L k (by simpa using hk) j hj
    unfold tCells at *
    rw [List.flatMap_cons, show (k + 1) * 8 + j = 8 + (k * 8 + j) by omega, List.getElem?_append_right (by show 8 ≤ _; omega), show 8 + (k * 8 + j) - (enT d).length = k * 8 + j by show 8 + (k * 8 + j) - 8 = _; omega, ih]
    simp
/-- A row of types, the k-th one's cells as the walk asks for them. -/
theorem t_at {w : World} {a : Option Addr} {n cap : Nat} {L : List LT} (h : IsRow w 8 (.slice a n cap) L.length (tCells L)) (h0 : 0 < L.length) :
    ∃ b off, a = some ⟨b, off, none⟩ ∧ b < w.heap.size ∧ n = L.length ∧ L.length ≤ cap ∧ ∀ (k : Nat) (hk : k < L.length), (w.cell? ⟨b, off + k * 8, none⟩ = some (.string L[k].t.n) ∧ w.cell? ⟨b, off + k * 8 + 1, none⟩ = some (.string L[k].t.p) ∧ w.cell? ⟨b, off + k * 8 + 2, none⟩ = some L[k].vo ∧ w.cell? ⟨b, off + k * 8 + 3, none⟩ = some L[k].va) ∧ w.cell? ⟨b, off + k * 8 + 4, none⟩ = some L[k].vc ∧ w.cell? ⟨b, off + k * 8 + 5, none⟩ = some (.int .i64 L[k].t.nd) ∧ w.cell? ⟨b, off + k * 8 + 6, none⟩ = some (.int .i64 L[k].t.lf) ∧ w.cell? ⟨b, off + k * 8 + 7, none⟩ = some (.int .i64 L[k].t.sq) := by
  obtain ⟨b, off, cap', hv, hlt, q1, q2, hc⟩ := h.open (by omega)
  simp only [Value.slice.injEq] at hv
  have key : ∀ (k : Nat) (hk : k < L.length) (j : Nat) (u : Value), j < 8 → (enT L[k])[j]? = some u → w.cell? ⟨b, off + k * 8 + j, none⟩ = some u := fun k hk j u hj hu => by
    have := hc (k * 8 + j) u (by rw [tCells_get L k hk j hj]; exact hu)
    rwa [← Nat.add_assoc] at this
  refine ⟨b, off, hv.1, hlt, hv.2.1, by omega, fun k hk => ⟨⟨?_, ?_, ?_, ?_⟩, ?_, ?_, ?_, ?_⟩⟩
  · have := key k hk 0 _ (by omega) rfl
    simpa using this
  · exact key k hk 1 _ (by omega) rfl
  · exact key k hk 2 _ (by omega) rfl
  · exact key k hk 3 _ (by omega) rfl
  · exact key k hk 4 _ (by omega) rfl
  · exact key k hk 5 _ (by omega) rfl
  · exact key k hk 6 _ (by omega) rfl
  · exact key k hk 7 _ (by omega) rfl
end Go.Proofs.YtlndgepoekllkaaGreatDoor
