/- forest.isBelow: its walk. -/
import Derived.Test.YticlejkeaagfjaaGreatDoorZj
import Derived.Deep.QuietTactic
import Derived.BigQuiet
namespace Go.Proofs.YticlejkeaagfjaaGreatDoor
open Go.RowKit Go.ChangeMaps

/-- A row of names without its first one, as the walk has it. -/
theorem row_tail {w : World} {b off cc : Nat} {l : List ByteArray} (h : IsRow w 1 (.slice (some ⟨b, off, none⟩) l.length cc) l.length (sVals l)) (h1 : 1 ≤ l.length) : IsRow w 1 (.slice (if cc = 1 then some ⟨b, off, none⟩ else some ⟨b, off + 1, none⟩) (l.length - 1) (cc - 1)) l.tail.length (sVals l.tail) := by
  obtain ⟨b', off', cap', hv, hlt, q1, q2, hc⟩ := h.open (by omega)
  simp only [Value.slice.injEq, Option.some.injEq, Addr.mk.injEq, and_true, true_and] at hv
  obtain ⟨⟨rfl, rfl⟩, rfl⟩ := hv
  have hl : l.tail.length = l.length - 1 := List.length_tail
  by_cases e : cc = 1
  · rw [if_pos e]
    have h0 : l.length - 1 = 0 := by omega
    have hn : l.tail = [] := List.eq_nil_of_length_eq_zero (by omega)
    rw [h0, hn]
    exact ⟨rfl, .inl ⟨rfl, _, _, rfl⟩⟩
  · rw [if_neg e, hl]
    refine ⟨by simp [sVals], .inr ⟨b, off + 1, cc - 1, rfl, hlt, by omega, by omega, fun j u hu => ?_⟩⟩
    have hu' : (sVals l)[j + 1]? = some u := by
      cases l with
      | nil => simp at h1
      | cons y l => simpa [sVals] using hu
    have := hc (j + 1) u hu'
    rwa [show off + 1 + j = off + (j + 1) by omega]
set_option maxRecDepth 100000 in
set_option maxHeartbeats 4000000 in
theorem isBelow_any (x o : LT) (w : World) (hx : IsTy w x.t x.vo x.va x.vc) (ho : IsTy w o.t o.vo o.va o.vc) (nx : NmT x.t) (no : NmT o.t) (h1 : 1 ≤ x.t.ch.length) (hW : W3 w) :
    Calls Tryz.prog 48 #[ltV x, ltV o] w fun e w' => e = .returned (.bool (belB x.t o.t)) ∧ Below w.heap.size w w' := by
  obtain ⟨W0, hW0⟩ : ∃ W0, W0 = (w.alloc (.cells (tyA x.t x.vo x.va x.vc) 32)).alloc (.cells (tyA o.t o.vo o.va o.vc) 32) := ⟨_, rfl⟩
  have hA : Below w.heap.size w W0 := by rw [hW0]; exact (al_b w _).trans ((al_b _ _).mono (by simp))
  have hz : W0.heap.size = w.heap.size + 2 := by rw [hW0]; simp
  have hn0 : W0.heap[w.heap.size]? = some (.cells (tyA x.t x.vo x.va x.vc) 32 (0, 0)) := by
    rw [hW0]
    show ((w.heap.push _).push _)[w.heap.size]? = _
    rw [Array.getElem?_push, if_neg (by simp), Array.getElem?_push, if_pos rfl]
  have hn1 : W0.heap[w.heap.size + 1]? = some (.cells (tyA o.t o.vo o.va o.vc) 32 (0, 0)) := by
    rw [hW0]
    show ((w.heap.push _).push _)[w.heap.size + 1]? = _
    rw [Array.getElem?_push, if_pos (by simp)]
  have HX : Hid (∀ W, Below W0.heap.size W0 W → BxT w.heap.size x.t x.vo x.va x.vc W) := fun W h => BxT.of ((h.block _ (by omega)).trans hn0)
  have HY : Hid (∀ W, Below W0.heap.size W0 W → BxT (w.heap.size + 1) o.t o.vo o.va o.vc W) := fun W h => BxT.of ((h.block _ (by omega)).trans hn1)
  have HBw : Hid (∀ W, Below W0.heap.size W0 W → Below w.heap.size w W) := fun W h => hA.trans (h.mono hA.size)
  have HM : Hid (Calls Tryz.prog 65 #[o.va, x.vo] W0 fun e w' => MgA o.t.all x.t.own W0 e w') := merge_any _ _ o.t.all x.t.own W0 (ho.2.1.below hA) (hx.1.below hA) no.la nx.lo no.a nx.o (hW.below hA)
  have HEq : Hid (∀ W v, Below W0.heap.size W0 W → IsRow W 3 v (mgL o.t.all x.t.own).1.length (fCells (mgL o.t.all x.t.own).1) → Calls Tryz.prog 45 #[v, x.va] W fun e w' => e = .returned (.bool (sameR (mgL o.t.all x.t.own).1 x.t.all)) ∧ Below W.heap.size W w') := fun W v h hr => equalF_any _ _ _ x.t.all W hr (hx.2.1.below (HBw.out W h)) (Nat.le_trans (mgL_len _ _) (by decide)) nx.la
  obtain ⟨b, off, hac, -, hlt, hcap, hcc⟩ := s_at hx.2.2 h1
  have HEs : Hid (∀ W, Below W0.heap.size W0 W → Calls Tryz.prog 54 #[o.vc, .slice (if x.cc = 1 then some ⟨b, off, none⟩ else some ⟨b, off + 1, none⟩) (x.t.ch.length - 1) (x.cc - 1)] W fun e w' => e = .returned (.bool (sameS o.t.ch x.t.ch.tail)) ∧ Below W.heap.size W w') := fun W h => equalS_any _ _ o.t.ch x.t.ch.tail W (ho.2.2.below (HBw.out W h)) (row_tail (hac ▸ hx.2.2.below (HBw.out W h)) h1) no.lc (by rw [List.length_tail]; exact Nat.le_trans (Nat.sub_le _ _) nx.lc)
  have HD : Hid (belB x.t o.t = (decide ((mgL o.t.all x.t.own).2 = 0) && (sameR (mgL o.t.all x.t.own).1 x.t.all && sameS o.t.ch x.t.ch.tail))) := rfl
  obtain ⟨xt, xao, xco, xaa, xca, xac, xcc⟩ := x
  dsimp only [LT.vc] at hac
  subst hac
  clear hx ho nx no hW hA hn0 hn1
  generalize belB xt o.t = BB at *
  go_enter Tryz.func48, Tryz.ntmps48
  obtain ⟨⟨a0, a1, a2, a3⟩, a4, a5, a6, a7⟩ := HX.out W0 (Below.refl _ _)
  obtain ⟨⟨b0, b1, b2, b3⟩, b4, b5, b6, b7⟩ := HY.out W0 (Below.refl _ _)
  go_wp2_with fail
  rw [← hW0]
  clear hW0
  go_wp2_with fail
  refine HM.out.mono ?_
  rintro e w1 ⟨s, c, rfl, hrow, -, hb1⟩
  have HH1 : Hid (Below W0.heap.size W0 w1) := hb1
  have HRow : Hid (∀ W, Below w1.heap.size w1 W → IsRow W 3 (.slice s (mgL o.t.all xt.own).1.length c) (mgL o.t.all xt.own).1.length (fCells (mgL o.t.all xt.own).1)) := fun W h => hrow.below h
  have HT1 : Hid (∀ W, Below w1.heap.size w1 W → Below W0.heap.size W0 W) := fun W h => hb1.trans (h.mono hb1.size)
  clear hb1 hrow HM a0 a1 a2 a3 a4 a5 a6 a7 b0 b1 b2 b3 b4 b5 b6 b7
  generalize sameR (mgL o.t.all xt.own).1 xt.all = EQ at *
  generalize (mgL o.t.all xt.own).1 = D at *
  generalize (mgL o.t.all xt.own).2 = E at *
  generalize sameS o.t.ch xt.ch.tail = ES at *
  have HEq1 : Hid (∀ W, Below w1.heap.size w1 W → Calls Tryz.prog 45 #[.slice s D.length c, .slice xaa xt.all.length xca] W fun e w' => e = .returned (.bool EQ) ∧ Below W.heap.size W w') := fun W h => HEq.out W _ (HT1.out W h) (HRow.out W h)
  have HBd : Hid (Below w1.heap.size w1 w1.drew) := (Below.refl _ _).drew
  have HFin : Hid (∀ W, Below w1.heap.size w1 W → Below w.heap.size w W) := fun W h => HBw.out _ (HT1.out W h)
  have q1 : (1 : Int) ≤ (xt.ch.length : Int) := by omega
  have q2 : (xt.ch.length : Int) ≤ (xcc : Int) := by omega
  clear HEq HRow HBw
  by_cases hE : E = 0
  rotate_left
  · have hB : BB = false := by rw [HD.out, decide_eq_false hE, Bool.false_and]
    have dE : (E == 0) = false := by simp [hE]
    subst hB
    clear hE HD
    go_wp2_with fail
    refine wp_region_quiet (C := fun w' => Below w1.heap.size w1 w') (by kernel_rfl) (by kernel_rfl) HBd.out ?_
    dsimp only
    repeat (first
      | go_big_quiet_skip
      | (go_big_quiet_want
         apply Exists.intro
         refine ⟨fun W' hW' => ?_, ?_⟩
         · have hw : Below w1.heap.size w1 W' := hW'
           go_simp
           first
             | done
             | rfl
         go_big_quiet_on
         try simp only [Act.put, List.setIfInBounds_toArray, List.set_cons_zero, List.set_cons_succ]))
    refine wpQuiet_nil ?_
    intro w6 hqw6
    have HB6 : Hid (Below w.heap.size w w6) := HFin.out _ hqw6
    clear hqw6
    go_wp2
    go_ret
    exact ⟨rfl, HB6.out⟩
  subst hE
  cases hEQ : EQ
  · have hB : BB = false := by rw [HD.out, hEQ, Bool.false_and, Bool.and_false]
    subst hB
    rw [hEQ] at HEq1
    clear hEQ HD HEs
    go_wp2_with fail
    refine wp_region_quiet (C := fun w' => Below w1.heap.size w1 w') (by kernel_rfl) (by kernel_rfl) HBd.out ?_
    dsimp only
    repeat (first
      | go_big_quiet_skip
      | (go_big_quiet_want
         apply Exists.intro
         refine ⟨fun W' hW' => ?_, ?_⟩
         · have hw : Below w1.heap.size w1 W' := hW'
           obtain ⟨⟨g0, g1, g2, g3⟩, g4, g5, g6, g7⟩ := HX.out W' (HT1.out W' hw)
           go_simp
           first
             | done
             | rfl
             | (go_at_call 45; refine (HEq1.out W' hw).mono ?_; rintro e w'' ⟨rfl, hb⟩; exact ⟨rfl, hw.trans (hb.mono hw.size)⟩)
         go_big_quiet_on
         try simp only [Act.put, List.setIfInBounds_toArray, List.set_cons_zero, List.set_cons_succ]))
    refine wpQuiet_nil ?_
    intro w6 hqw6
    have HB6 : Hid (Below w.heap.size w w6) := HFin.out _ hqw6
    clear hqw6
    go_wp2
    go_ret
    exact ⟨rfl, HB6.out⟩
  have hB : BB = ES := by rw [HD.out, hEQ]; simp
  subst hB
  rw [hEQ] at HEq1
  clear hEQ HD
  go_wp2_with fail
  refine wp_region_quiet (C := fun w' => Below w1.heap.size w1 w') (by kernel_rfl) (by kernel_rfl) HBd.out ?_
  dsimp only
  repeat (first
    | go_big_quiet_skip
    | (go_big_quiet_want
       apply Exists.intro
       refine ⟨fun W' hW' => ?_, ?_⟩
       · have hw : Below w1.heap.size w1 W' := hW'
         obtain ⟨⟨g0, g1, g2, g3⟩, g4, g5, g6, g7⟩ := HX.out W' (HT1.out W' hw)
         obtain ⟨⟨k0, k1, k2, k3⟩, k4, k5, k6, k7⟩ := HY.out W' (HT1.out W' hw)
         go_simp
         first
           | done
           | rfl
           | (go_at_call 45; refine (HEq1.out W' hw).mono ?_; rintro e w'' ⟨rfl, hb⟩; exact ⟨rfl, hw.trans (hb.mono hw.size)⟩)
           | (go_at_call 54; refine (HEs.out W' (HT1.out W' hw)).mono ?_; rintro e w'' ⟨rfl, hb⟩; exact ⟨rfl, hw.trans (hb.mono hw.size)⟩)
       go_big_quiet_on
       try simp only [Act.put, List.setIfInBounds_toArray, List.set_cons_zero, List.set_cons_succ]))
  refine wpQuiet_nil ?_
  intro w6 hqw6
  have HB6 : Hid (Below w.heap.size w w6) := HFin.out _ hqw6
  clear hqw6
  go_wp2
  all_goals go_ret
  all_goals exact ⟨rfl, HB6.out⟩
end Go.Proofs.YticlejkeaagfjaaGreatDoor
