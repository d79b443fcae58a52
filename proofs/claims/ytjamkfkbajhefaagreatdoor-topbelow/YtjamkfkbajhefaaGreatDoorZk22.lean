/- slices.Equal at fields: its walk (EO over again). -/
import Derived.Test.YtjamkfkbajhefaaGreatDoorZk21
import Derived.Test.YtjamkfkbajhefaaGreatDoorZk8
import Derived.Deep.QuietTactic
import Derived.BigQuiet
import Derived.Test.YtjamkfkbajhefaaGreatDoorZk1
import Derived.Test.YtjamkfkbajhefaaGreatDoorZk20
namespace Go.Proofs.YtjamkfkbajhefaaGreatDoor
open Go.RowKit

set_option maxRecDepth 100000 in
set_option maxHeartbeats 2000000 in
theorem equalF_any (v u : Value) (a l : List Fd) (w : World) (hq : IsRow w 3 v a.length (fCells a)) (hr : IsRow w 3 u l.length (fCells l)) (hal : a.length ≤ 1000000) (hl : l.length ≤ 1000000) :
    Calls Tryz.prog 45 #[v, u] w fun e w' => e = .returned (.bool (sameR a l)) ∧ Below w.heap.size w w' := by
  obtain ⟨a0, cap0, rfl⟩ := hq.form
  obtain ⟨a1, cap1, rfl⟩ := hr.form
  have HQ : Hid (∀ w', Below w.heap.size w w' → IsRow w' 3 (.slice a0 a.length cap0) a.length (fCells a)) := fun w' h => hq.below h
  have HR : Hid (∀ w', Below w.heap.size w w' → IsRow w' 3 (.slice a1 l.length cap1) l.length (fCells l)) := fun w' h => hr.below h
  clear hq hr
  by_cases hln : a.length = l.length
  rotate_left
  · have e0 : sameR a l = false := by unfold sameR; rw [decide_eq_false hln, Bool.false_and]
    have dn : ((a.length : Int) != (l.length : Int)) = true := by rw [bne_iff_ne]; omega
    rw [e0]
    go_enter Tryz.func45, Tryz.ntmps45
    go_wp2
    go_ret
    exact ⟨rfl, Below.refl _ _⟩
  have dn : ((a.length : Int) != (l.length : Int)) = false := by rw [hln]; simp
  have HL : Hid (a.length = l.length) := hln
  clear hln
  go_enter Tryz.func45, Tryz.ntmps45
  go_wp2_with fail
  go_loopw [4, 13] (fun r i wr => r = .bool false ∧ ∃ k : Nat, k ≤ a.length ∧ i = .int .i64 (k : Int) ∧ Hid (∀ (j : Nat) (h : j < a.length) (h2 : j < l.length), j < k → eqF a[j] l[j] = true) ∧ Below w.heap.size w wr) (fun _ i _ => a.length - (intOf i).toNat)
  case atStart => exact ⟨rfl, 0, Nat.zero_le _, rfl, fun j h h2 hj => absurd hj (Nat.not_lt_zero _), Below.refl _ _⟩
  case round =>
    obtain ⟨rfl, k, hk, rfl, HO, hB⟩ := hrel
    by_cases hlk : k < a.length
    · have hlk2 : k < l.length := by have := HL.out; omega
      have dk : decide ((k : Int) < a.length) = true := by simp; omega
      obtain ⟨b, off, rfl, hlt, hcap, hc⟩ := f_at (HQ.out wr hB) (by omega)
      obtain ⟨b', off', rfl, hlt', hcap', hc'⟩ := f_at (HR.out wr hB) (by omega)
      obtain ⟨ck0, ck1, ck2⟩ := hc k hlk
      obtain ⟨dk0, dk1, dk2⟩ := hc' k hlk2
      have HO2 : Hid (eqF a[k] l[k] = true → ∀ (j : Nat) (h : j < a.length) (h2 : j < l.length), j < k + 1 → eqF a[j] l[j] = true) := fun hs j h h2 hj => by
        by_cases e : j = k
        · subst e; exact hs
        · exact HO.out j h h2 (by omega)
      have HN : Hid (eqF a[k] l[k] = false → sameR a l = false) := sameR_no hlk hlk2
      generalize a[k]'hlk = x at *
      generalize l[k]'hlk2 = y at *
      obtain ⟨n, kk, m⟩ := x
      obtain ⟨n', kk', m'⟩ := y
      have q1 : (0 : Int) ≤ (k : Int) := by omega
      have q2 : (k : Int) < (a.length : Int) := by omega
      have q3 : (k : Int) < (l.length : Int) := by omega
      clear hc hc' HO
      have HBd : Hid (∀ q, Below w.heap.size w (wr.drewN q)) := fun q => ⟨hB.os, hB.tape, hB.output, hB.size, hB.block⟩
      clear hB
      cases hq : eqF ⟨n, kk, m⟩ ⟨n', kk', m'⟩ with
      | true =>
        have HO3 := HO2.out hq
        have he := (eqF_iff _ _).1 hq
        simp only [Fd.mk.injEq] at he
        obtain ⟨rfl, rfl, rfl⟩ := he
        clear hq HN HO2
        go_wp2_with fail
        refine wp_region_quiet (C := fun w' => ∃ q, w' = wr.drewN q) (by kernel_rfl) (by kernel_rfl) ⟨1, rfl⟩ ?_
        dsimp only
        repeat (first
          | (go_big_quiet_want
             apply Exists.intro
             refine ⟨fun W' hW' => ?_, ?_⟩
             · obtain ⟨q, rfl⟩ := hW'
               go_simp
               first
                 | done
                 | exact ⟨rfl, q, rfl⟩
                 | exact ⟨rfl, rfl⟩
                 | rfl
             go_big_quiet_on
             try simp only [Act.put, List.setIfInBounds_toArray, List.set_cons_zero, List.set_cons_succ]))
        refine wpQuiet_nil ?_
        rintro w2 ⟨q, rfl⟩
        go_wp2
        go_roundw
        case rel => exact ⟨rfl, k + 1, by omega, by simp, HO3, HBd.out q⟩
        case measure => simp [intOf]; omega
      | false =>
        have HN2 : Hid (sameR a l = false) := HN.out hq
        have hne : ¬ (n.toList = n'.toList ∧ kk = kk' ∧ m = m') := fun h => by
          obtain ⟨h1, rfl, rfl⟩ := h
          rw [ByteArray.toList_eq, ByteArray.toList_eq] at h1
          obtain rfl : n = n' := ba_eq h1
          rw [(eqF_iff _ _).2 rfl] at hq
          cases hq
        have HE : Hid (∀ q : Nat, ((if n.toList = n'.toList then if kk = kk' then if m = m' then Result.ok (Next.value (Value.bool false)) (wr.drewN q) else Result.ok (Next.value (Value.bool true)) (wr.drewN q) else Result.ok (Next.value (Value.bool true)) (wr.drewN q) else Result.ok (Next.value (Value.bool true)) (wr.drewN q))) = (Result.ok (Next.value (Value.bool true)) (wr.drewN q) : Result Next)) := fun q => by
          by_cases h1 : n.toList = n'.toList
          · by_cases h2 : kk = kk'
            · by_cases h3 : m = m'
              · exact absurd ⟨h1, h2, h3⟩ hne
              · simp [h1, h2, h3]
            · simp [h1, h2]
          · simp [h1]
        clear hq HN HO2 hne
        go_wp2_with fail
        refine wp_region_quiet (C := fun w' => ∃ q, w' = wr.drewN q) (by kernel_rfl) (by kernel_rfl) ⟨1, rfl⟩ ?_
        dsimp only
        repeat (first
          | (go_big_quiet_want
             apply Exists.intro
             refine ⟨fun W' hW' => ?_, ?_⟩
             · obtain ⟨q, rfl⟩ := hW'
               go_simp
               first
                 | done
                 | exact ⟨rfl, q, rfl⟩
                 | exact ⟨rfl, rfl⟩
                 | rfl
             go_big_quiet_on
             try simp only [Act.put, List.setIfInBounds_toArray, List.set_cons_zero, List.set_cons_succ]))
        go_big_quiet_want
        refine ⟨.bool true, fun W' hW' => ?_, ?_⟩
        · obtain ⟨q, rfl⟩ := hW'
          have := HE.out q
          go_simp
        go_big_quiet_on
        try simp only [Act.put, List.setIfInBounds_toArray, List.set_cons_zero, List.set_cons_succ]
        refine wpQuiet_nil ?_
        rintro w2 ⟨q, rfl⟩
        go_wp2
        go_ret
        exact ⟨by rw [HN2.out]; rfl, HBd.out q⟩
    · have hk' : k = a.length := by omega
      subst hk'
      have dk : decide ((a.length : Int) < a.length) = false := by simp
      have HY : Hid (sameR a l = true) := by show _ = _; unfold sameR; rw [decide_eq_true HL.out, decide_eq_true (fun j h h2 => HO.out j h h2 h)]; rfl
      clear HO
      have HBB : Hid (Below w.heap.size w wr) := hB
      clear hB
      go_wp2
      go_ret
      exact ⟨by rw [HY.out]; rfl, HBB.out⟩
end Go.Proofs.YtjamkfkbajhefaaGreatDoor
/- forest.Check at any type: its walk. -/
namespace Go.Proofs.YtjamkfkbajhefaaGreatDoor
open Go.RowKit

/-- A type, plainly. -/
structure Ty where
  n : ByteArray
  p : ByteArray
  own : List Fd
  all : List Fd
  ch : List ByteArray
  nd : Int
  lf : Int
  sq : Int
abbrev tyA (t : Ty) (vo va vc : Value) : Array Value := #[.string t.n, .string t.p, vo, va, vc, .int .i64 t.nd, .int .i64 t.lf, .int .i64 t.sq]
abbrev tyV (t : Ty) (vo va vc : Value) : Value := .agg (tyA t vo va vc)
/-- The rows of a type. -/
def IsTy (w : World) (t : Ty) (vo va vc : Value) : Prop := IsRow w 3 vo t.own.length (fCells t.own) ∧ IsRow w 3 va t.all.length (fCells t.all) ∧ IsRow w 1 vc t.ch.length (sVals t.ch)
theorem IsTy.below {w w' : World} {t : Ty} {vo va vc : Value} (h : IsTy w t vo va vc) (hb : Below w.heap.size w w') : IsTy w' t vo va vc := ⟨h.1.below hb, h.2.1.below hb, h.2.2.below hb⟩
/-- It is not too great to be looked at. -/
structure NmT (t : Ty) : Prop where
  n : t.n.size ≤ 1000000
  p : t.p.size ≤ 1000000
  c : ∀ s ∈ t.ch, s.size ≤ 1000000
  o : NmF t.own
  a : NmF t.all
  lo : t.own.length ≤ 1000000
  la : t.all.length ≤ 1000000
  lc : t.ch.length ≤ 1000000
/-- What a type may be behind its names. -/
def chkR (t : Ty) : Bool := idB t.nd t.lf t.sq && (chkF t.own && (chkF t.all && (if t.ch.length = 1 then decide (t.p.size = 0) && sameR t.all t.own else decide (t.ch[1]? = some t.p) && withinL t.own t.all)))
/-- May a type be? -/
def chkT (t : Ty) : Bool := decide (1 ≤ t.ch.length) && (decide (t.ch.length ≤ 8) && (decide (t.ch[0]? = some t.n) && (decide (t.ch.length ≤ (clm [] t.ch).length) && chkR t)))
theorem strNe (a b : ByteArray) : (!(a.toList == b.toList)) = !decide (a = b) := by
  congr 1
  rw [Bool.eq_iff_iff, beq_iff_eq, decide_eq_true_eq, ByteArray.toList_eq, ByteArray.toList_eq]
  exact ⟨fun h => ba_eq h, fun h => by rw [h]⟩
theorem strEqB (a b : ByteArray) : (a.toList == b.toList) = decide (a = b) := by
  rw [Bool.eq_iff_iff, beq_iff_eq, decide_eq_true_eq, ByteArray.toList_eq, ByteArray.toList_eq]
  exact ⟨fun h => ba_eq h, fun h => by rw [h]⟩
set_option maxRecDepth 100000 in
set_option maxHeartbeats 4000000 in
theorem checkT_any (t : Ty) (vo va vc : Value) (w : World) (hr : IsTy w t vo va vc) (hn : NmT t) (hU : UT w) (hM : ML w) :
    Calls Tryz.prog 20 #[tyV t vo va vc] w fun e w' => e = .returned (.bool (chkT t)) ∧ Below w.heap.size w w' := by
  obtain ⟨r1, r2, r3⟩ := hr
  obtain ⟨ao, co, rfl⟩ := r1.form
  obtain ⟨aa, ca, rfl⟩ := r2.form
  obtain ⟨ac, cc, rfl⟩ := r3.form
  have hA := al_b w (.cells (tyA t (.slice ao t.own.length co) (.slice aa t.all.length ca) (.slice ac t.ch.length cc)) 38)
  obtain ⟨W0, hW0⟩ : ∃ W0, W0 = w.alloc (.cells (tyA t (.slice ao t.own.length co) (.slice aa t.all.length ca) (.slice ac t.ch.length cc)) 38) := ⟨_, rfl⟩
  rw [← hW0] at hA
  have hnb : W0.heap[w.heap.size]? = some (.cells (tyA t (.slice ao t.own.length co) (.slice aa t.all.length ca) (.slice ac t.ch.length cc)) 38 (0, 0)) := by rw [hW0]; exact new_at w _
  have hlt : w.heap.size < W0.heap.size := (Array.getElem?_eq_some_iff.1 hnb).1
  have hcell : ∀ j, W0.cell? ⟨w.heap.size, j, none⟩ = (tyA t (.slice ao t.own.length co) (.slice aa t.all.length ca) (.slice ac t.ch.length cc))[j]? := fun j => by rw [Lib.cell_of_heap hnb]
  have HX : Hid (∀ W, Below W0.heap.size W0 W → (W.cell? ⟨w.heap.size, 0, none⟩ = some (.string t.n) ∧ W.cell? ⟨w.heap.size, 1, none⟩ = some (.string t.p) ∧ W.cell? ⟨w.heap.size, 2, none⟩ = some (.slice ao t.own.length co) ∧ W.cell? ⟨w.heap.size, 3, none⟩ = some (.slice aa t.all.length ca)) ∧ W.cell? ⟨w.heap.size, 4, none⟩ = some (.slice ac t.ch.length cc) ∧ W.cell? ⟨w.heap.size, 5, none⟩ = some (.int .i64 t.nd) ∧ W.cell? ⟨w.heap.size, 6, none⟩ = some (.int .i64 t.lf) ∧ W.cell? ⟨w.heap.size, 7, none⟩ = some (.int .i64 t.sq)) := fun W h => ⟨⟨(h.cell (p := ⟨w.heap.size, 0, none⟩) hlt).trans (hcell 0), (h.cell (p := ⟨w.heap.size, 1, none⟩) hlt).trans (hcell 1), (h.cell (p := ⟨w.heap.size, 2, none⟩) hlt).trans (hcell 2), (h.cell (p := ⟨w.heap.size, 3, none⟩) hlt).trans (hcell 3)⟩, (h.cell (p := ⟨w.heap.size, 4, none⟩) hlt).trans (hcell 4), (h.cell (p := ⟨w.heap.size, 5, none⟩) hlt).trans (hcell 5), (h.cell (p := ⟨w.heap.size, 6, none⟩) hlt).trans (hcell 6), (h.cell (p := ⟨w.heap.size, 7, none⟩) hlt).trans (hcell 7)⟩
  have HBw : Hid (∀ W, Below W0.heap.size W0 W → Below w.heap.size w W) := fun W h => hA.trans (h.mono hA.size)
  have HCl : Hid (∀ W, t.ch.length ≤ 8 → Below W0.heap.size W0 W → Calls Tryz.prog 44 #[.slice ac t.ch.length cc] W fun e w' => e = .returned (.int .i64 ((clm [] t.ch).length : Int)) ∧ Below W.heap.size W w') := fun W h8 h => climb_any _ t.ch W (r3.below (HBw.out W h)) (by omega) hn.c (Utf8Tabs_below hU (HBw.out W h))
  have HCh : Hid (∀ (i : Nat) (hi : i < t.ch.length) W, Below W0.heap.size W0 W → ∃ b off, ac = some ⟨b, off, none⟩ ∧ W.cell? ⟨b, off + i, none⟩ = some (.string t.ch[i])) := fun i hi W h => by
    obtain ⟨b, off, e, -, -, -, hc⟩ := s_at (r3.below (HBw.out W h)) (by omega)
    exact ⟨b, off, e, hc i hi⟩
  have HId : Hid (∀ W, Calls Tryz.prog 34 #[idV t.nd t.lf t.sq] W fun e w' => e = .returned (.bool (idB t.nd t.lf t.sq)) ∧ Below W.heap.size W w') := fun W => isID_any _ _ _ W
  have HC1 : Hid (∀ W, Below W0.heap.size W0 W → Calls Tryz.prog 24 #[.slice ao t.own.length co] W fun e w' => e = .returned (.bool (chkF t.own)) ∧ Below W.heap.size W w') := fun W h => checkF_any _ t.own W (r1.below (HBw.out W h)) hn.lo hn.o (Utf8Tabs_below hU (HBw.out W h)) (ML_below hM (HBw.out W h))
  have HC2 : Hid (∀ W, Below W0.heap.size W0 W → Calls Tryz.prog 24 #[.slice aa t.all.length ca] W fun e w' => e = .returned (.bool (chkF t.all)) ∧ Below W.heap.size W w') := fun W h => checkF_any _ t.all W (r2.below (HBw.out W h)) hn.la hn.a (Utf8Tabs_below hU (HBw.out W h)) (ML_below hM (HBw.out W h))
  have HEq : Hid (∀ W, Below W0.heap.size W0 W → Calls Tryz.prog 45 #[.slice aa t.all.length ca, .slice ao t.own.length co] W fun e w' => e = .returned (.bool (sameR t.all t.own)) ∧ Below W.heap.size W w') := fun W h => equalF_any _ _ t.all t.own W (r2.below (HBw.out W h)) (r1.below (HBw.out W h)) hn.la hn.lo
  have HWi : Hid (∀ W, Below W0.heap.size W0 W → Calls Tryz.prog 11 #[.slice ao t.own.length co, .slice aa t.all.length ca] W fun e w' => e = .returned (.bool (withinL t.own t.all)) ∧ Below W.heap.size W w') := fun W h => withinF_any _ _ t.own t.all W (r1.below (HBw.out W h)) (r2.below (HBw.out W h)) hn.lo hn.la hn.o hn.a (Utf8Tabs_below hU (HBw.out W h))
  have hchk : chkT t = (decide (1 ≤ t.ch.length) && (decide (t.ch.length ≤ 8) && (decide (t.ch[0]? = some t.n) && (decide (t.ch.length ≤ (clm [] t.ch).length) && chkR t)))) := rfl
  have hchr : chkR t = (idB t.nd t.lf t.sq && (chkF t.own && (chkF t.all && (if t.ch.length = 1 then decide (t.p.size = 0) && sameR t.all t.own else decide (t.ch[1]? = some t.p) && withinL t.own t.all)))) := rfl
  generalize hRR : chkR t = RR at *
  generalize hTT : chkT t = TT at *
  clear hn hU hM r1 r2 r3 hcell hnb hRR hTT
  by_cases h1 : 1 ≤ t.ch.length
  rotate_left
  · have hf : TT = false := by rw [hchk, decide_eq_false h1, Bool.false_and]
    have d1 : decide ((t.ch.length : Int) < 1) = true := decide_eq_true (by omega)
    have d1' : decide (t.ch.length < 1) = true := decide_eq_true (by omega)
    rw [hf]
    clear hchk hchr hf h1 HCl HCh HId HC1 HC2 HEq HWi
    go_enter Tryz.func20, Tryz.ntmps20
    go_wp2_with fail
    rw [← hW0]
    clear hW0
    refine wp_region_quiet (C := fun w' => Below W0.heap.size W0 w') (by kernel_rfl) (by kernel_rfl) ((Below.refl _ _).drew) ?_
    dsimp only
    repeat (first
      | go_big_quiet_skip
      | (go_big_quiet_want
         apply Exists.intro
         refine ⟨fun W' hW' => ?_, ?_⟩
         · have hw : Below W0.heap.size W0 W' := hW'
           obtain ⟨⟨g0, g1, g2, g3⟩, g4, g5, g6, g7⟩ := HX.out W' hw
           skip
           go_simp
           first
             | done
             | rfl
         go_big_quiet_on
         try simp only [Act.put, List.setIfInBounds_toArray, List.set_cons_zero, List.set_cons_succ]))
    refine wpQuiet_nil ?_
    intro w2 hqw2
    have Hw2 : Hid (Below W0.heap.size W0 w2) := hqw2
    clear hqw2
    go_wp2
    go_ret
    exact ⟨rfl, HBw.out _ Hw2.out⟩
  have d1 : decide ((t.ch.length : Int) < 1) = false := decide_eq_false (by omega)
  have d1' : decide (t.ch.length < 1) = false := decide_eq_false (by omega)
  by_cases h8 : t.ch.length ≤ 8
  rotate_left
  · have hf : TT = false := by rw [hchk, decide_eq_false h8, Bool.false_and, Bool.and_false]
    have d2 : decide ((8 : Int) < (t.ch.length : Int)) = true := by simp; omega
    have d2' : decide (8 < t.ch.length) = true := by simp; omega
    rw [hf]
    clear hchk hchr hf h1 h8 HCl HCh HId HC1 HC2 HEq HWi
    go_enter Tryz.func20, Tryz.ntmps20
    go_wp2_with fail
    rw [← hW0]
    clear hW0
    refine wp_region_quiet (C := fun w' => Below W0.heap.size W0 w') (by kernel_rfl) (by kernel_rfl) ((Below.refl _ _).drew) ?_
    dsimp only
    repeat (first
      | go_big_quiet_skip
      | (go_big_quiet_want
         apply Exists.intro
         refine ⟨fun W' hW' => ?_, ?_⟩
         · have hw : Below W0.heap.size W0 W' := hW'
           obtain ⟨⟨g0, g1, g2, g3⟩, g4, g5, g6, g7⟩ := HX.out W' hw
           skip
           go_simp
           first
             | done
             | rfl
         go_big_quiet_on
         try simp only [Act.put, List.setIfInBounds_toArray, List.set_cons_zero, List.set_cons_succ]))
    refine wpQuiet_nil ?_
    intro w2 hqw2
    have Hw2 : Hid (Below W0.heap.size W0 w2) := hqw2
    clear hqw2
    go_wp2
    go_ret
    exact ⟨rfl, HBw.out _ Hw2.out⟩
  have d2 : decide ((8 : Int) < (t.ch.length : Int)) = false := by simp; omega
  have d2' : decide (8 < t.ch.length) = false := by simp; omega
  have i0 : (0 : Int) < (t.ch.length : Int) := by omega
  have h0l : 0 < t.ch.length := by omega
  have e0 : t.ch[0]? = some (t.ch[0]'h0l) := List.getElem?_eq_getElem h0l
  have HC0 : Hid (∀ W, Below W0.heap.size W0 W → ∃ b off, ac = some ⟨b, off, none⟩ ∧ W.cell? ⟨b, off, none⟩ = some (.string (t.ch[0]'h0l))) := fun W h => by
    obtain ⟨b, off, e, hc⟩ := HCh.out 0 h0l W h
    exact ⟨b, off, e, by simpa using hc⟩
  have eN := strNe (t.ch[0]'h0l) t.n
  rw [e0] at hchk
  generalize t.ch[0]'h0l = c0 at *
  obtain ⟨b, off, rfl, -⟩ := HC0.out W0 (Below.refl _ _)
  have HC0' : Hid (∀ W, Below W0.heap.size W0 W → W.cell? ⟨b, off, none⟩ = some (.string c0)) := fun W h => by
    obtain ⟨b', off', e, hc⟩ := HC0.out W h
    obtain ⟨rfl, rfl, -⟩ := Addr.mk.inj (Option.some.inj e)
    exact hc
  clear HC0
  by_cases hn0 : c0 = t.n
  rotate_left
  · have hf : TT = false := by rw [hchk, decide_eq_false (fun e => hn0 (Option.some.inj e)), Bool.false_and, Bool.and_false, Bool.and_false]
    rw [decide_eq_false hn0] at eN
    rw [hf]
    clear hchk hchr hf h1 HCl HCh HId HC1 HC2 HEq HWi hn0
    go_enter Tryz.func20, Tryz.ntmps20
    go_wp2_with fail
    rw [← hW0]
    clear hW0
    refine wp_region_quiet (C := fun w' => Below W0.heap.size W0 w') (by kernel_rfl) (by kernel_rfl) ((Below.refl _ _).drew) ?_
    dsimp only
    repeat (first
      | go_big_quiet_skip
      | (go_big_quiet_want
         apply Exists.intro
         refine ⟨fun W' hW' => ?_, ?_⟩
         · have hw : Below W0.heap.size W0 W' := hW'
           obtain ⟨⟨g0, g1, g2, g3⟩, g4, g5, g6, g7⟩ := HX.out W' hw
           have g8 := HC0'.out W' hw
           go_simp
           first
             | done
             | rfl
         go_big_quiet_on
         try simp only [Act.put, List.setIfInBounds_toArray, List.set_cons_zero, List.set_cons_succ]))
    refine wpQuiet_nil ?_
    intro w2 hqw2
    have Hw2 : Hid (Below W0.heap.size W0 w2) := hqw2
    clear hqw2
    go_wp2
    go_ret
    exact ⟨rfl, HBw.out _ Hw2.out⟩
  rw [decide_eq_true hn0] at eN
  have hch2 : TT = (decide (t.ch.length ≤ (clm [] t.ch).length) && RR) := by rw [hchk, decide_eq_true h1, decide_eq_true h8, decide_eq_true (by rw [hn0]), Bool.true_and, Bool.true_and, Bool.true_and]
  clear hchk
  by_cases hcl : t.ch.length ≤ (clm [] t.ch).length
  rotate_left
  · have hf : TT = false := by rw [hch2, decide_eq_false hcl, Bool.false_and]
    have d3 : decide (((clm [] t.ch).length : Int) < (t.ch.length : Int)) = true := by simp; omega
    have d3' : decide ((clm [] t.ch).length < t.ch.length) = true := by simp; omega
    rw [hf]
    generalize (clm [] t.ch).length = CN at *
    clear hch2 hchr hf h1 HCh HId HC1 HC2 HEq HWi hcl
    go_enter Tryz.func20, Tryz.ntmps20
    go_wp2_with fail
    rw [← hW0]
    clear hW0
    refine wp_region_quiet (C := fun w' => Below W0.heap.size W0 w') (by kernel_rfl) (by kernel_rfl) ((Below.refl _ _).drew) ?_
    dsimp only
    repeat (first
      | go_big_quiet_skip
      | (go_big_quiet_want
         apply Exists.intro
         refine ⟨fun W' hW' => ?_, ?_⟩
         · have hw : Below W0.heap.size W0 W' := hW'
           obtain ⟨⟨g0, g1, g2, g3⟩, g4, g5, g6, g7⟩ := HX.out W' hw
           have g8 := HC0'.out W' hw
           go_simp
           first
             | done
             | rfl
             | (go_at_call 44; refine (HCl.out W' h8 hw).mono ?_; rintro e w'' ⟨rfl, hb⟩; exact ⟨rfl, hw.trans (hb.mono hw.size)⟩)
         go_big_quiet_on
         try simp only [Act.put, List.setIfInBounds_toArray, List.set_cons_zero, List.set_cons_succ]))
    refine wpQuiet_nil ?_
    intro w2 hqw2
    have Hw2 : Hid (Below W0.heap.size W0 w2) := hqw2
    clear hqw2
    go_wp2
    go_ret
    exact ⟨rfl, HBw.out _ Hw2.out⟩
  have hch3 : TT = RR := by rw [hch2, decide_eq_true hcl, Bool.true_and]
  have d3 : decide (((clm [] t.ch).length : Int) < (t.ch.length : Int)) = false := by simp; omega
  have d3' : decide ((clm [] t.ch).length < t.ch.length) = false := by simp; omega
  clear hch2 hcl
  rw [hch3]
  generalize (clm [] t.ch).length = CN at *
  have HF : Hid (∀ W, Below W0.heap.size W0 W → Below w.heap.size w W) := HBw
  cases hid : idB t.nd t.lf t.sq
  · have hf : RR = false := by rw [hchr, hid, Bool.false_and]
    rw [hid] at HId
    rw [hf]
    clear hchr hch3 hf h1 HCh HC1 HC2 HEq HWi hid hn0
    go_enter Tryz.func20, Tryz.ntmps20
    go_wp2_with fail
    rw [← hW0]
    clear hW0
    refine wp_region_quiet (C := fun w' => Below W0.heap.size W0 w') (by kernel_rfl) (by kernel_rfl) ((Below.refl _ _).drew) ?_
    dsimp only
    repeat (first
      | go_big_quiet_skip
      | (go_big_quiet_want
         apply Exists.intro
         refine ⟨fun W' hW' => ?_, ?_⟩
         · have hw : Below W0.heap.size W0 W' := hW'
           obtain ⟨⟨g0, g1, g2, g3⟩, g4, g5, g6, g7⟩ := HX.out W' hw
           have g8 := HC0'.out W' hw
           go_simp
           first
             | done
             | rfl
             | (go_at_call 44; refine (HCl.out W' h8 hw).mono ?_; rintro e w'' ⟨rfl, hb⟩; exact ⟨rfl, hw.trans (hb.mono hw.size)⟩)
         go_big_quiet_on
         try simp only [Act.put, List.setIfInBounds_toArray, List.set_cons_zero, List.set_cons_succ]))
    refine wpQuiet_nil ?_
    intro w2 hqw2
    have Hw2 : Hid (Below W0.heap.size W0 w2) := hqw2
    clear hqw2
    obtain ⟨⟨g0, g1, g2, g3⟩, g4, g5, g6, g7⟩ := HX.out w2 Hw2.out
    go_wp2_with fail
    refine (HId.out _).mono ?_
    rintro e w3 ⟨rfl, hb3⟩
    have H3 : Hid (Below W0.heap.size W0 w3) := Hw2.out.trans (hb3.mono Hw2.out.size)
    clear hb3
    go_wp2
    go_ret
    exact ⟨rfl, HBw.out _ H3.out⟩
  rw [hid] at HId
  cases hc1 : chkF t.own
  · have hf : RR = false := by rw [hchr, hid, hc1, Bool.false_and, Bool.true_and]
    rw [hc1] at HC1
    rw [hf]
    clear hchr hch3 hf h1 HCh HC2 HEq HWi hid hc1 hn0
    go_enter Tryz.func20, Tryz.ntmps20
    go_wp2_with fail
    rw [← hW0]
    clear hW0
    refine wp_region_quiet (C := fun w' => Below W0.heap.size W0 w') (by kernel_rfl) (by kernel_rfl) ((Below.refl _ _).drew) ?_
    dsimp only
    repeat (first
      | go_big_quiet_skip
      | (go_big_quiet_want
         apply Exists.intro
         refine ⟨fun W' hW' => ?_, ?_⟩
         · have hw : Below W0.heap.size W0 W' := hW'
           obtain ⟨⟨g0, g1, g2, g3⟩, g4, g5, g6, g7⟩ := HX.out W' hw
           have g8 := HC0'.out W' hw
           go_simp
           first
             | done
             | rfl
             | (go_at_call 44; refine (HCl.out W' h8 hw).mono ?_; rintro e w'' ⟨rfl, hb⟩; exact ⟨rfl, hw.trans (hb.mono hw.size)⟩)
         go_big_quiet_on
         try simp only [Act.put, List.setIfInBounds_toArray, List.set_cons_zero, List.set_cons_succ]))
    refine wpQuiet_nil ?_
    intro w2 hqw2
    have Hw2 : Hid (Below W0.heap.size W0 w2) := hqw2
    clear hqw2
    obtain ⟨⟨g0, g1, g2, g3⟩, g4, g5, g6, g7⟩ := HX.out w2 Hw2.out
    go_wp2_with fail
    refine (HId.out _).mono ?_
    rintro e w3 ⟨rfl, hb3⟩
    have H3 : Hid (Below W0.heap.size W0 w3) := Hw2.out.trans (hb3.mono Hw2.out.size)
    clear hb3 g0 g1 g2 g3 g4 g5 g6 g7
    obtain ⟨⟨g0, g1, g2, g3⟩, g4, g5, g6, g7⟩ := HX.out w3 H3.out
    go_wp2_with fail
    refine (HC1.out _ H3.out).mono ?_
    rintro e w4 ⟨rfl, hb4⟩
    have H4 : Hid (Below W0.heap.size W0 w4) := H3.out.trans (hb4.mono H3.out.size)
    clear hb4
    go_wp2
    go_ret
    exact ⟨rfl, HBw.out _ H4.out⟩
  rw [hc1] at HC1
  cases hc2 : chkF t.all
  · have hf : RR = false := by rw [hchr, hid, hc1, hc2, Bool.false_and, Bool.true_and, Bool.true_and]
    rw [hc2] at HC2
    rw [hf]
    clear hchr hch3 hf h1 HCh HEq HWi hid hc1 hc2 hn0
    go_enter Tryz.func20, Tryz.ntmps20
    go_wp2_with fail
    rw [← hW0]
    clear hW0
    refine wp_region_quiet (C := fun w' => Below W0.heap.size W0 w') (by kernel_rfl) (by kernel_rfl) ((Below.refl _ _).drew) ?_
    dsimp only
    repeat (first
      | go_big_quiet_skip
      | (go_big_quiet_want
         apply Exists.intro
         refine ⟨fun W' hW' => ?_, ?_⟩
         · have hw : Below W0.heap.size W0 W' := hW'
           obtain ⟨⟨g0, g1, g2, g3⟩, g4, g5, g6, g7⟩ := HX.out W' hw
           have g8 := HC0'.out W' hw
           go_simp
           first
             | done
             | rfl
             | (go_at_call 44; refine (HCl.out W' h8 hw).mono ?_; rintro e w'' ⟨rfl, hb⟩; exact ⟨rfl, hw.trans (hb.mono hw.size)⟩)
         go_big_quiet_on
         try simp only [Act.put, List.setIfInBounds_toArray, List.set_cons_zero, List.set_cons_succ]))
    refine wpQuiet_nil ?_
    intro w2 hqw2
    have Hw2 : Hid (Below W0.heap.size W0 w2) := hqw2
    clear hqw2
    obtain ⟨⟨g0, g1, g2, g3⟩, g4, g5, g6, g7⟩ := HX.out w2 Hw2.out
    go_wp2_with fail
    refine (HId.out _).mono ?_
    rintro e w3 ⟨rfl, hb3⟩
    have H3 : Hid (Below W0.heap.size W0 w3) := Hw2.out.trans (hb3.mono Hw2.out.size)
    clear hb3 g0 g1 g2 g3 g4 g5 g6 g7
    obtain ⟨⟨g0, g1, g2, g3⟩, g4, g5, g6, g7⟩ := HX.out w3 H3.out
    go_wp2_with fail
    refine (HC1.out _ H3.out).mono ?_
    rintro e w4 ⟨rfl, hb4⟩
    have H4 : Hid (Below W0.heap.size W0 w4) := H3.out.trans (hb4.mono H3.out.size)
    clear hb4 g0 g1 g2 g3 g4 g5 g6 g7
    obtain ⟨⟨g0, g1, g2, g3⟩, g4, g5, g6, g7⟩ := HX.out w4 H4.out
    go_wp2_with fail
    refine (HC2.out _ H4.out).mono ?_
    rintro e w5 ⟨rfl, hb5⟩
    have H5 : Hid (Below W0.heap.size W0 w5) := H4.out.trans (hb5.mono H4.out.size)
    clear hb5
    go_wp2
    go_ret
    exact ⟨rfl, HBw.out _ H5.out⟩
  rw [hc2] at HC2
  rw [hid, hc1, hc2, Bool.true_and, Bool.true_and, Bool.true_and] at hchr
  have HR3 : Hid (RR = if t.ch.length = 1 then decide (t.p.size = 0) && sameR t.all t.own else decide (t.ch[1]? = some t.p) && withinL t.own t.all) := hchr
  clear hchr hch3 h1 hid hc1 hc2 hn0
  go_enter Tryz.func20, Tryz.ntmps20
  go_wp2_with fail
  rw [← hW0]
  clear hW0
  refine wp_region_quiet (C := fun w' => Below W0.heap.size W0 w') (by kernel_rfl) (by kernel_rfl) ((Below.refl _ _).drew) ?_
  dsimp only
  repeat (first
    | go_big_quiet_skip
    | (go_big_quiet_want
       apply Exists.intro
       refine ⟨fun W' hW' => ?_, ?_⟩
       · have hw : Below W0.heap.size W0 W' := hW'
         obtain ⟨⟨g0, g1, g2, g3⟩, g4, g5, g6, g7⟩ := HX.out W' hw
         have g8 := HC0'.out W' hw
         go_simp
         first
           | done
           | rfl
           | (go_at_call 44; refine (HCl.out W' h8 hw).mono ?_; rintro e w'' ⟨rfl, hb⟩; exact ⟨rfl, hw.trans (hb.mono hw.size)⟩)
       go_big_quiet_on
       try simp only [Act.put, List.setIfInBounds_toArray, List.set_cons_zero, List.set_cons_succ]))
  refine wpQuiet_nil ?_
  intro w2 hqw2
  have Hw2 : Hid (Below W0.heap.size W0 w2) := hqw2
  clear hqw2
  obtain ⟨⟨g0, g1, g2, g3⟩, g4, g5, g6, g7⟩ := HX.out w2 Hw2.out
  go_wp2_with fail
  refine (HId.out _).mono ?_
  rintro e w3 ⟨rfl, hb3⟩
  have H3 : Hid (Below W0.heap.size W0 w3) := Hw2.out.trans (hb3.mono Hw2.out.size)
  clear hb3 g0 g1 g2 g3 g4 g5 g6 g7
  obtain ⟨⟨g0, g1, g2, g3⟩, g4, g5, g6, g7⟩ := HX.out w3 H3.out
  go_wp2_with fail
  refine (HC1.out _ H3.out).mono ?_
  rintro e w4 ⟨rfl, hb4⟩
  have H4 : Hid (Below W0.heap.size W0 w4) := H3.out.trans (hb4.mono H3.out.size)
  clear hb4 g0 g1 g2 g3 g4 g5 g6 g7
  obtain ⟨⟨g0, g1, g2, g3⟩, g4, g5, g6, g7⟩ := HX.out w4 H4.out
  go_wp2_with fail
  refine (HC2.out _ H4.out).mono ?_
  rintro e w5 ⟨rfl, hb5⟩
  have H5 : Hid (Below W0.heap.size W0 w5) := H4.out.trans (hb5.mono H4.out.size)
  have HB5 : Hid (Below w.heap.size w w5) := HBw.out _ H5.out
  clear hb5 g0 g1 g2 g3 g4 g5 g6 g7 HC1 HC2 HId HCl HC0'
  obtain ⟨⟨g0, g1, g2, g3⟩, g4, g5, g6, g7⟩ := HX.out w5 H5.out
  have eP : (t.p.toList == ([] : List UInt8)) = decide (t.p.size = 0) := by
    rw [Bool.eq_iff_iff, beq_iff_eq, decide_eq_true_eq, ByteArray.toList_eq]
    constructor
    · intro h
      have e : t.p.data.toList.length = t.p.size := by simp
      rw [h] at e
      exact e.symm
    · intro h
      apply List.eq_nil_of_length_eq_zero
      have e : t.p.data.toList.length = t.p.size := by simp
      omega
  have eP2 : (t.p.toList == (⟨#[]⟩ : ByteArray).toList) = decide (t.p.size = 0) := by rw [← eP, ByteArray.toList_eq ⟨#[]⟩]
  by_cases hl1 : t.ch.length = 1
  · have HR4 : Hid (RR = (decide (t.p.size = 0) && sameR t.all t.own)) := HR3.out.trans (if_pos hl1)
    have dl : ((t.ch.length : Int) == 1) = true := by rw [beq_iff_eq]; omega
    have dl' : (t.ch.length == 1) = true := by rw [beq_iff_eq]; exact hl1
    clear hl1 HR3 HCh HWi
    cases hp : decide (t.p.size = 0)
    · rw [hp] at HR4 eP eP2
      have HR5 : Hid (RR = false) := HR4.out.trans (Bool.false_and _)
      clear HR4 hp
      go_wp2
      go_ret
      exact ⟨by rw [HR5.out]; rfl, HB5.out⟩
    · rw [hp] at HR4 eP eP2
      have HR5 : Hid (RR = sameR t.all t.own) := HR4.out.trans (Bool.true_and _)
      clear HR4 hp
      generalize sameR t.all t.own = SM at *
      go_wp2_with fail
      refine (HEq.out _ H5.out).mono ?_
      rintro e w6 ⟨rfl, hb6⟩
      have HB6 : Hid (Below w.heap.size w w6) := HB5.out.trans (hb6.mono HB5.out.size)
      clear hb6 HEq
      go_wp2
      go_ret
      exact ⟨by rw [HR5.out]; rfl, HB6.out⟩
  · have hl2 : 1 < t.ch.length := by omega
    have e1 : t.ch[1]? = some (t.ch[1]'hl2) := List.getElem?_eq_getElem hl2
    have HR4 : Hid (RR = (decide (t.ch[1]'hl2 = t.p) && withinL t.own t.all)) := HR3.out.trans (by rw [if_neg hl1, e1]; congr 1; simp)
    have dl : ((t.ch.length : Int) == 1) = false := by rw [beq_eq_false_iff_ne]; omega
    have dl' : (t.ch.length == 1) = false := by rw [beq_eq_false_iff_ne]; omega
    have HC1' : Hid (∀ W, Below W0.heap.size W0 W → W.cell? ⟨b, off + 1, none⟩ = some (.string (t.ch[1]'hl2))) := fun W h => by
      obtain ⟨b', off', e, hc⟩ := HCh.out 1 hl2 W h
      obtain ⟨rfl, rfl, -⟩ := Addr.mk.inj (Option.some.inj e)
      exact hc
    have eC := strEqB t.p (t.ch[1]'hl2)
    have q1 : (1 : Int) < (t.ch.length : Int) := by omega
    generalize t.ch[1]'hl2 = c1 at *
    clear hl1 HR3 HCh HEq e1
    have HPs : Hid ((c1 = t.p) ↔ (t.p = c1)) := eq_comm
    cases hp : decide (t.p = c1)
    · rw [hp] at eC
      have HR5 : Hid (RR = false) := HR4.out.trans (by rw [decide_eq_false (fun e => by rw [decide_eq_true (HPs.out.1 e)] at hp; cases hp), Bool.false_and])
      clear HR4 hp HPs
      go_wp2_with fail
      refine wp_region_quiet (C := fun w' => Below W0.heap.size W0 w') (by kernel_rfl) (by kernel_rfl) (H5.out.drew) ?_
      dsimp only
      repeat (first
        | go_big_quiet_skip
        | (go_big_quiet_want
           apply Exists.intro
           refine ⟨fun W' hW' => ?_, ?_⟩
           · have hw : Below W0.heap.size W0 W' := hW'
             obtain ⟨⟨g0, g1, g2, g3⟩, g4, g5, g6, g7⟩ := HX.out W' hw
             have g8 := HC1'.out W' hw
             go_simp
             first
               | done
               | rfl
           go_big_quiet_on
           try simp only [Act.put, List.setIfInBounds_toArray, List.set_cons_zero, List.set_cons_succ]))
      refine wpQuiet_nil ?_
      intro w6 hqw6
      have Hw6 : Hid (Below W0.heap.size W0 w6) := hqw6
      clear hqw6
      have HB6 : Hid (Below w.heap.size w w6) := HBw.out _ Hw6.out
      go_wp2
      go_ret
      exact ⟨by rw [HR5.out]; rfl, HB6.out⟩
    · rw [hp] at eC
      have HR5 : Hid (RR = withinL t.own t.all) := HR4.out.trans (by rw [decide_eq_true (HPs.out.2 (of_decide_eq_true hp)), Bool.true_and])
      clear HR4 hp HPs
      generalize withinL t.own t.all = WL at *
      go_wp2_with fail
      refine wp_region_quiet (C := fun w' => Below W0.heap.size W0 w') (by kernel_rfl) (by kernel_rfl) (H5.out.drew) ?_
      dsimp only
      repeat (first
        | go_big_quiet_skip
        | (go_big_quiet_want
           apply Exists.intro
           refine ⟨fun W' hW' => ?_, ?_⟩
           · have hw : Below W0.heap.size W0 W' := hW'
             obtain ⟨⟨g0, g1, g2, g3⟩, g4, g5, g6, g7⟩ := HX.out W' hw
             have g8 := HC1'.out W' hw
             go_simp
             first
               | done
               | rfl
               | (go_at_call 11; refine (HWi.out W' hw).mono ?_; rintro e w'' ⟨rfl, hb⟩; exact ⟨rfl, hw.trans (hb.mono hw.size)⟩)
           go_big_quiet_on
           try simp only [Act.put, List.setIfInBounds_toArray, List.set_cons_zero, List.set_cons_succ]))
      refine wpQuiet_nil ?_
      intro w6 hqw6
      have Hw6 : Hid (Below W0.heap.size W0 w6) := hqw6
      clear hqw6
      have HB6 : Hid (Below w.heap.size w w6) := HBw.out _ Hw6.out
      go_wp2
      go_ret
      exact ⟨by rw [HR5.out]; rfl, HB6.out⟩
end Go.Proofs.YtjamkfkbajhefaaGreatDoor
/- How bytes stand: plain. -/
namespace Go.Proofs.YtjamkfkbajhefaaGreatDoor
open Go.RowKit

theorem cmp_self : ∀ l : List UInt8, Lib.compareBytes l l = 0
  | [] => rfl
  | b :: l => by simp [Lib.compareBytes, cmp_self l]
theorem cmp_zero : ∀ (a b : List UInt8), Lib.compareBytes a b = 0 → a = b
  | [], [] => fun _ => rfl
  | [], b :: l => by simp [Lib.compareBytes]
  | a :: k, [] => by simp [Lib.compareBytes]
  | a :: k, b :: l => by
    simp only [Lib.compareBytes]
    split
    · intro h; cases h
    split
    · intro h; cases h
    · rename_i h1 h2
      intro h
      have e : a = b := UInt8.le_antisymm (UInt8.not_lt.1 h2) (UInt8.not_lt.1 h1)
      rw [e, cmp_zero k l h]
theorem cmp_anti : ∀ (a b : List UInt8), Lib.compareBytes a b = - Lib.compareBytes b a
  | [], [] => rfl
  | [], b :: l => by simp [Lib.compareBytes]
  | a :: k, [] => by simp [Lib.compareBytes]
  | a :: k, b :: l => by
    simp only [Lib.compareBytes]
    by_cases h1 : a < b
    · have h2 : ¬ b < a := UInt8.lt_asymm h1
      simp [h1, h2]
    · by_cases h2 : b < a
      · simp [h1, h2]
      · simp [h1, h2, cmp_anti k l]
theorem cmp_vals : ∀ (a b : List UInt8), Lib.compareBytes a b = -1 ∨ Lib.compareBytes a b = 0 ∨ Lib.compareBytes a b = 1
  | [], [] => by simp [Lib.compareBytes]
  | [], b :: l => by simp [Lib.compareBytes]
  | a :: k, [] => by simp [Lib.compareBytes]
  | a :: k, b :: l => by
    simp only [Lib.compareBytes]
    split
    · simp
    split
    · simp
    · exact cmp_vals k l
theorem cmp_trans : ∀ (a b c : List UInt8), Lib.compareBytes a b = -1 → Lib.compareBytes b c = -1 → Lib.compareBytes a c = -1
  | [], [], c => by simp [Lib.compareBytes]
  | [], b :: l, [] => by simp [Lib.compareBytes]
  | [], b :: l, c :: m => by simp [Lib.compareBytes]
  | a :: k, [], c => by simp [Lib.compareBytes]
  | a :: k, b :: l, [] => by simp [Lib.compareBytes]
  | a :: k, b :: l, c :: m => by
    have ih := cmp_trans k l m
    simp only [Lib.compareBytes]
    by_cases h1 : a < b
    · by_cases h3 : b < c
      · have h5 : a < c := UInt8.lt_trans h1 h3
        simp [h5]
      · by_cases h4 : c < b
        · simp [h3, h4]
        · have e : b = c := UInt8.le_antisymm (UInt8.not_lt.1 h4) (UInt8.not_lt.1 h3)
          subst e
          simp [h1]
    · by_cases h2 : b < a
      · simp [h1, h2]
      · have e : a = b := UInt8.le_antisymm (UInt8.not_lt.1 h2) (UInt8.not_lt.1 h1)
        subst e
        by_cases h3 : a < c
        · simp [h3]
        · by_cases h4 : c < a
          · simp [h3, h4]
          · simp only [h1, h3, h4, if_false]
            exact ih

end Go.Proofs.YtjamkfkbajhefaaGreatDoor
/- Fields that are sorted: plain mathematics of a merge. -/
namespace Go.Proofs.YtjamkfkbajhefaaGreatDoor
open Go.RowKit

/-- Ahead, by the names. -/
def ltF (x y : Fd) : Prop := cmpL x.n.data.toList y.n.data.toList = -1
theorem cmpL_lt {a b : List UInt8} : cmpL a b < 0 ↔ cmpL a b = -1 := by
  have := cmp_vals (foldL a) (foldL b)
  unfold cmpL
  omega
theorem ltF_trans {x y z : Fd} (h1 : ltF x y) (h2 : ltF y z) : ltF x z := cmp_trans _ _ _ h1 h2
theorem ltF_irr (x : Fd) : ¬ ltF x x := by
  unfold ltF cmpL
  rw [cmp_self]
  decide
/-- Not the same names. -/
def neF (x y : Fd) : Prop := sameL x.n.data.toList y.n.data.toList = false
theorem neF_symm {x y : Fd} (h : neF x y) : neF y x := by
  unfold neF sameL at *
  rw [decide_eq_false_iff_not] at *
  exact fun e => h e.symm
theorem ltF_ne {x y : Fd} (h : ltF x y) : neF x y := by
  unfold neF sameL
  rw [decide_eq_false_iff_not]
  intro e
  unfold ltF cmpL at h
  rw [e, cmp_self] at h
  cases h
theorem ltF_of {x y : Fd} (h1 : ¬ cmpL y.n.data.toList x.n.data.toList < 0) (h2 : neF x y) : ltF x y := by
  unfold ltF
  have hv := cmp_vals (foldL x.n.data.toList) (foldL y.n.data.toList)
  have ha := cmp_anti (foldL y.n.data.toList) (foldL x.n.data.toList)
  unfold cmpL at *
  rcases hv with h | h | h
  · exact h
  · have := cmp_zero _ _ h
    unfold neF sameL at h2
    rw [decide_eq_false_iff_not] at h2
    exact absurd this h2
  · omega
theorem chk_sorted {l : List Fd} (h : chkF l = true) : l.Pairwise ltF := by
  unfold chkF at h
  simp only [Bool.and_eq_true, decide_eq_true_eq] at h
  have key : ∀ (j i : Nat) (hi : i < j) (hj : j < l.length), ltF (l[i]'(by omega)) l[j] := by
    intro j
    induction j with
    | zero => intro i hi; omega
    | succ j ih =>
      intro i hi hj
      have h1 : ltF l[j] l[j + 1] := cmpL_lt.1 ((h.2 (j + 1) hj).2 j rfl)
      by_cases e : i = j
      · subst e; exact h1
      · exact ltF_trans (ih i (by omega) (by omega)) h1
  rw [List.pairwise_iff_getElem]
  exact fun i j hi hj hij => key j i hij hj
theorem chk_mayF {l : List Fd} (h : chkF l = true) : ∀ x ∈ l, mayF x = true := by
  unfold chkF at h
  simp only [Bool.and_eq_true, decide_eq_true_eq] at h
  intro x hx
  obtain ⟨i, hi, rfl⟩ := List.mem_iff_getElem.1 hx
  exact (h.2 i hi).1
theorem chk_of {l : List Fd} (h1 : l.length ≤ 24) (h2 : ∀ x ∈ l, mayF x = true) (h3 : l.Pairwise ltF) : chkF l = true := by
  unfold chkF
  simp only [Bool.and_eq_true, decide_eq_true_eq]
  refine ⟨h1, fun k hk => ⟨h2 _ (List.getElem_mem hk), fun j e => ?_⟩⟩
  subst e
  exact cmpL_lt.2 ((List.pairwise_iff_getElem.1 h3) j (j + 1) (by omega) hk (by omega))
/-- Not behind. -/
def leF (x y : Fd) : Prop := ¬ cmpL y.n.data.toList x.n.data.toList < 0
/-- What two schemas make together, sorted. -/
def MrgD (a b D : List Fd) : Prop := D.Perm (a ++ b) ∧ D.Pairwise ltF
theorem clash_iff {a b : List Fd} : clashL a b = false ↔ ∀ x ∈ a, ∀ y ∈ b, neF x y := by
  unfold clashL
  rw [List.any_eq_false]
  constructor
  · intro h x hx y hy
    have := h y hy
    unfold neF
    cases e : sameL x.n.data.toList y.n.data.toList
    · rfl
    · exfalso
      apply this
      unfold getF
      rw [List.find?_isSome]
      exact ⟨x, hx, e⟩
  · intro h y hy hs
    unfold getF at hs
    rw [List.find?_isSome] at hs
    obtain ⟨x, hx, e⟩ := hs
    have := h x hx y hy
    unfold neF at this
    rw [this] at e
    cases e
theorem mergeE_ok {a b : List Fd} (h : mergeE a b = 0) : chkF a = true ∧ chkF b = true ∧ clashL a b = false := by
  unfold mergeE at h
  split at h
  · rename_i hc
    split at h
    · cases h
    · rename_i hn
      exact ⟨hc.1, hc.2, by simpa using hn⟩
  · cases h
theorem app_ne {a b : List Fd} (h : mergeE a b = 0) : (a ++ b).Pairwise neF := by
  obtain ⟨ha, hb, hc⟩ := mergeE_ok h
  rw [List.pairwise_append]
  exact ⟨(chk_sorted ha).imp ltF_ne, (chk_sorted hb).imp ltF_ne, clash_iff.1 hc⟩
theorem app_may {a b : List Fd} (h : mergeE a b = 0) : ∀ x ∈ a ++ b, mayF x = true := by
  obtain ⟨ha, hb, -⟩ := mergeE_ok h
  intro x hx
  rcases List.mem_append.1 hx with hx | hx
  · exact chk_mayF ha x hx
  · exact chk_mayF hb x hx
/-- What is sorted so is what both make together. -/
theorem mrg_of {a b D : List Fd} (h : mergeE a b = 0) (hp : D.Perm (a ++ b)) (hs : D.Pairwise leF) : MrgD a b D := by
  refine ⟨hp, ?_⟩
  have hne : D.Pairwise neF := (hp.pairwise_iff neF_symm).2 (app_ne h)
  exact (hs.and hne).imp fun ⟨h1, h2⟩ => ltF_of h1 h2
theorem mrg_chk {a b D : List Fd} (h : mergeE a b = 0) (hm : MrgD a b D) (hl : a.length + b.length ≤ 24) : chkF D = true :=
  chk_of (by rw [hm.1.length_eq, List.length_append]; exact hl) (fun x hx => app_may h x (hm.1.mem_iff.1 hx)) hm.2
theorem sameF_self (x : Fd) : sameF x x = true := by simp [sameF, sameL]
/-! ### what fits a part fits the whole -/
theorem getF_mem {l : List Fd} {s : ByteArray} {f : Fd} (h : getF l s = some f) : f ∈ l ∧ sameL f.n.data.toList s.data.toList = true := ⟨List.mem_of_find?_eq_some h, by have := List.find?_some h; exact this⟩
theorem pair_ne {D : List Fd} (h : D.Pairwise ltF) {x y : Fd} (hx : x ∈ D) (hy : y ∈ D) (hs : sameL x.n.data.toList y.n.data.toList = true) : x = y := by
  obtain ⟨i, hi, rfl⟩ := List.mem_iff_getElem.1 hx
  obtain ⟨j, hj, rfl⟩ := List.mem_iff_getElem.1 hy
  have hp := List.pairwise_iff_getElem.1 h
  rcases Nat.lt_trichotomy i j with e | e | e
  · have := ltF_ne (hp i j hi hj e)
    unfold neF at this
    rw [this] at hs
    cases hs
  · subst e; rfl
  · have := neF_symm (ltF_ne (hp j i hj hi e))
    unfold neF at this
    rw [this] at hs
    cases hs
end Go.Proofs.YtjamkfkbajhefaaGreatDoor
