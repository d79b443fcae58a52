/- The reference's Keep: its walk. -/
import Derived.Test.YtacpllmlpmllbaaGreatDoorZk18
import Derived.Test.YtacpllmlpmllbaaGreatDoorZk31
import Derived.Test.YtacpllmlpmllbaaGreatDoorZk29
import Derived.Test.YtacpllmlpmllbaaGreatDoorZk17
import Derived.Test.YtacpllmlpmllbaaGreatDoorZk12
import Derived.Test.YtacpllmlpmllbaaGreatDoorZk23
import Derived.Deep.AppendLies
import Derived.Deep.RegionHeld3
import Derived.Test.YtacpllmlpmllbaaGreatDoorZk7
import Derived.Test.YtacpllmlpmllbaaGreatDoorZk14
namespace Go.Proofs.YtacpllmlpmllbaaGreatDoor
open Go.RowKit Go.ChangeMaps

set_option maxRecDepth 100000 in
set_option maxHeartbeats 4000000 in
theorem refKeep_any (a b c : Int) (k : ByteArray) (u v : Value) (l : List At) (f : List Fd) (w : World) (hq : IsRow w 4 u l.length (aCells l)) (hr : IsRow w 3 v f.length (fCells f)) (hl : l.length ≤ 1000) (hfl : f.length ≤ 1000) (hn : NmQa l) (hnf : NmR f) :
    Calls Tryz.prog 30 #[.agg (evA a b c k u), v] w fun e w' => KpP a b c k (keepL f l) w e w' := by
  obtain ⟨au, cu, rfl⟩ := hq.form
  obtain ⟨i0, hi0, hz0, hz1, hz2⟩ := info_parts info_rq
  obtain ⟨W0, hW0⟩ : ∃ W0, W0 = (w.alloc (.cells (evA a b c k (.slice au l.length cu)) 32)).alloc (.cells (evA 0 0 0 ⟨#[]⟩ (.slice none 0 0)) 32) := ⟨_, rfl⟩
  have hA : Below w.heap.size w W0 := by rw [hW0]; exact (al_b w _).trans ((al_b _ _).mono (by simp))
  have hz : W0.heap.size = w.heap.size + 2 := by rw [hW0]; simp
  have hn0 : W0.heap[w.heap.size]? = some (.cells (evA a b c k (.slice au l.length cu)) 32 (0, 0)) := by
    rw [hW0]
    show ((w.heap.push _).push _)[w.heap.size]? = _
    rw [Array.getElem?_push, if_neg (by simp), Array.getElem?_push, if_pos rfl]
  have hn1 : W0.heap[w.heap.size + 1]? = some (.cells (evA 0 0 0 ⟨#[]⟩ (.slice none 0 0)) 32 (0, 0)) := by
    rw [hW0]
    show ((w.heap.push _).push _)[w.heap.size + 1]? = _
    rw [Array.getElem?_push, if_pos (by simp)]
  have HX : Hid (∀ W, Below W0.heap.size W0 W → BxV w.heap.size a b c k (.slice au l.length cu) W ∧ BxV (w.heap.size + 1) 0 0 0 ⟨#[]⟩ (.slice none 0 0) W ∧ (∀ j, W.frozen? ⟨w.heap.size, j, none⟩ = false) ∧ ∀ j, W.frozen? ⟨w.heap.size + 1, j, none⟩ = false) := fun W h => ⟨BxV.of ((h.block _ (by omega)).trans hn0), BxV.of ((h.block _ (by omega)).trans hn1), fun j => Lib.frozen_of_heap ((h.block _ (by omega)).trans hn0) j, fun j => Lib.frozen_of_heap ((h.block _ (by omega)).trans hn1) j⟩
  have HBw : Hid (∀ W, Below W0.heap.size W0 W → Below w.heap.size w W) := fun W h => hA.trans (h.mono hA.size)
  have HQ : Hid (∀ W, Below W0.heap.size W0 W → IsRow W 4 (.slice au l.length cu) l.length (aCells l)) := fun W h => hq.below (HBw.out W h)
  have HF : Hid (∀ (j : Nat) (hj : j < l.length) W, Below W0.heap.size W0 W → Calls Tryz.prog 70 #[v, .string l[j].n] W fun e w' => ∃ r, e = .returned (.int .i64 r) ∧ FiR f l[j].n r ∧ Below W.heap.size W w') := fun j hj W h => refFindF_any _ f _ W (hr.below (HBw.out W h)) (by omega) hnf (hn _ (List.getElem_mem hj))
  have HKs : Hid (∀ (j : Nat) (hj : j < l.length), keepL f (l.take (j + 1)) = if (getF f l[j].n).isSome = true then keepL f (l.take j) ++ [l[j]] else keepL f (l.take j)) := fun j hj => keep_snoc f l j hj
  have HKl : Hid (∀ j, (keepL f (l.take j)).length ≤ 1000) := fun j => by
    have h1 := keep_len f (l.take j)
    have h2 : (l.take j).length ≤ l.length := by simp; omega
    show _ ≤ _
    omega
  have HKe : Hid (keepL f (l.take l.length) = keepL f l) := by show _ = _; rw [List.take_length]
  have HW0 : Hid (Below W0.heap.size W0 W0) := Below.refl _ _
  have Hz : Hid (W0.heap.size = w.heap.size + 2) := hz
  clear hq hr hA hn0 hn1 hn hnf hz hfl
  go_enter Tryz.func30, Tryz.ntmps30
  go_wp2_with fail
  rw [← hW0]
  clear hW0
  go_loopw [5, 6] (fun o i wr => ∃ j : Nat, j ≤ l.length ∧ i = .int .i64 (j : Int) ∧ Hid (wr.ownsRow W0.heap.size 90 4 o (keepL f (l.take j)).length (aCells (keepL f (l.take j)))) ∧ Hid (Below W0.heap.size W0 wr)) (fun _ i _ => l.length - (intOf i).toNat)
  case atStart => exact ⟨0, Nat.zero_le _, rfl, World.ownsRow_nil _ _ _ _, HW0⟩
  case round =>
    obtain ⟨j, hj, rfl, HO, HB⟩ := hrel
    have hsz := HB.out.size
    have hkl := HKl.out j
    obtain ⟨⟨⟨q0, q1, q2⟩, q3, q4⟩, -, -, -⟩ := HX.out _ HB.out
    by_cases hlk : j < l.length
    · have dk : decide ((j : Int) < (l.length : Int)) = true := by simp; omega
      obtain ⟨bb, off, rfl, hlt, hcap, hc⟩ := a_at (HQ.out wr HB.out) (by omega)
      obtain ⟨y0, y1, y2, y3⟩ := hc j hlk
      have HFj : Hid (Calls Tryz.prog 70 #[v, .string l[j].n] wr fun e w' => ∃ r, e = .returned (.int .i64 r) ∧ FiR f l[j].n r ∧ Below wr.heap.size wr w') := HF.out j hlk wr HB.out
      have HKj' : Hid (keepL f (l.take (j + 1)) = if (getF f l[j].n).isSome = true then keepL f (l.take j) ++ [l[j]] else keepL f (l.take j)) := HKs.out j hlk
      have HCe : Hid (∀ W, Below wr.heap.size wr W → W.cell? ⟨bb, off + j * 4, none⟩ = some (.string l[j].n) ∧ W.cell? ⟨bb, off + j * 4 + 1, none⟩ = some (.int .i64 l[j].k) ∧ W.cell? ⟨bb, off + j * 4 + 2, none⟩ = some (.int .i64 l[j].v) ∧ W.cell? ⟨bb, off + j * 4 + 3, none⟩ = some (.string l[j].s)) := fun W h => ⟨(h.cell (p := ⟨bb, _, none⟩) hlt).trans y0, (h.cell (p := ⟨bb, _, none⟩) hlt).trans y1, (h.cell (p := ⟨bb, _, none⟩) hlt).trans y2, (h.cell (p := ⟨bb, _, none⟩) hlt).trans y3⟩
      have h0 : (0 : Int) ≤ (j : Int) := by omega
      have h1 : (j : Int) < (l.length : Int) := by omega
      generalize l[j]'hlk = x at *
      obtain ⟨xn, xk, xv, xs⟩ := x
      dsimp only at *
      clear hc HF HKs HQ HBw HKl HKe y1 y2 y3
      go_wp2_with fail
      refine HFj.out.mono ?_
      rintro e w2 ⟨r, rfl, hfi, hb2⟩
      have H2 : Hid (Below W0.heap.size W0 w2) := HB.out.trans (hb2.mono hsz)
      have HO2 : Hid (w2.ownsRow W0.heap.size 90 4 u5 (keepL f (l.take j)).length (aCells (keepL f (l.take j)))) := own_belowE HO.out hb2
      obtain ⟨e0, e1, e2, e3⟩ := HCe.out w2 hb2
      have hs2 := H2.out.size
      obtain ⟨⟨⟨p0, p1, p2⟩, p3, p4⟩, -, -, -⟩ := HX.out _ H2.out
      clear hb2 HFj HCe HO y0 q0 q1 q2 q3 q4
      rcases hfi with ⟨m, hm, rfl, hg⟩ | ⟨rfl, hg⟩
      · have HK : Hid (keepL f (l.take (j + 1)) = keepL f (l.take j) ++ [⟨xn, xk, xv, xs⟩]) := by show _ = _; rw [HKj'.out, hg]; rfl
        have dm : decide ((0 : Int) ≤ (m : Int)) = true := by simp
        have dm' : (0 : Int) ≤ (m : Int) := by omega
        clear HKj' hg hm
        go_wp2_with (at_builtin; go_loud (refine wpl_appE w2 rfl (.tmp 23) (.tmp 29) 30 90 rfl i0 _ 4 48 Tryz.underlying30 hi0 hz0 hz1 hz2 rfl (by decide) W0.heap.size u5 (keepL f (l.take j)).length _ rfl HO2.out [.string xn, .int .i64 xk, .int .i64 xv, .string xs] rfl _ rfl rfl (by intro u hu; simp at hu; rcases hu with rfl | rfl | rfl | rfl <;> rfl) (by omega) (by unfold maxLen; omega) (by omega) ?_); intro v4 w4 hown4 hb4)
        have HO4 : Hid (w4.ownsRow W0.heap.size 90 4 v4 (keepL f (l.take (j + 1))).length (aCells (keepL f (l.take (j + 1))))) := by
          show World.ownsRow _ _ _ _ _ _ _
          rw [HK.out, aCells_snoc, List.length_append]
          exact hown4
        have H4 : Hid (Below W0.heap.size W0 w4) := H2.out.trans hb4
        clear hown4 hb4 HK HO2 e0 e1 e2 e3 p0 p1 p2 p3 p4
        go_wp2
        go_roundw
        case rel => exact ⟨j + 1, by omega, by simp, HO4, H4⟩
        case measure => simp [intOf]; omega
      · have HK : Hid (keepL f (l.take (j + 1)) = keepL f (l.take j)) := by show _ = _; rw [HKj'.out, hg]; rfl
        have HO4 : Hid (w2.ownsRow W0.heap.size 90 4 u5 (keepL f (l.take (j + 1))).length (aCells (keepL f (l.take (j + 1))))) := by show World.ownsRow _ _ _ _ _ _ _; rw [HK.out]; exact HO2.out
        clear HK HKj' hg HO2
        go_wp2
        go_roundw
        case rel => exact ⟨j + 1, by omega, by simp, HO4, H2⟩
        case measure => simp [intOf]; omega
    · have hj' : j = l.length := by omega
      have dk : decide ((j : Int) < (l.length : Int)) = false := by simp; omega
      subst hj'
      have hown := HO.out
      rw [HKe.out] at hown
      obtain ⟨xo, yo, rfl⟩ := (IsRow.own hown).form
      have HR : Hid (IsRow wr 4 (.slice xo (keepL f l).length yo) (keepL f l).length (aCells (keepL f l)) ∧ NewA W0.heap.size xo) := ⟨IsRow.own hown, NewA.own hown⟩
      obtain ⟨-, ⟨⟨p0, p1, p2⟩, p3, p4⟩, fz0, fz1⟩ := HX.out wr HB.out
      have HBr : Hid (Below w.heap.size w wr) := HBw.out wr HB.out
      have HEnd : Hid (∀ u0 u1 u2 u3 u4 u5, KpP a b c k (keepL f l) w (.returned (.agg (evA a b c k (.slice xo (keepL f l).length yo)))) ((((((wr.setCell ⟨w.heap.size, 4, none⟩ u0).setCell ⟨w.heap.size + 1, 0, none⟩ u1).setCell ⟨w.heap.size + 1, 1, none⟩ u2).setCell ⟨w.heap.size + 1, 2, none⟩ u3).setCell ⟨w.heap.size + 1, 3, none⟩ u4).setCell ⟨w.heap.size + 1, 4, none⟩ u5)) := fun u0 u1 u2 u3 u4 u5 => by
        have hN := HR.out.2
        have hg0 : w.heap.size < W0.heap.size := by have := Hz.out; omega
        have hg1 : w.heap.size + 1 < W0.heap.size := by have := Hz.out; omega
        refine ⟨xo, yo, rfl, row_far (row_far (row_far (row_far (row_far (row_far HR.out.1 hN hg0 4 _) hN hg1 0 _) hN hg1 1 _) hN hg1 2 _) hN hg1 3 _) hN hg1 4 _, hN.le (by omega), ?_⟩
        exact (((((HBr.out.setCell (p := ⟨w.heap.size, 4, none⟩) (Nat.le_refl _) u0).setCell (p := ⟨w.heap.size + 1, 0, none⟩) (Nat.le_add_right _ 1) u1).setCell (p := ⟨w.heap.size + 1, 1, none⟩) (Nat.le_add_right _ 1) u2).setCell (p := ⟨w.heap.size + 1, 2, none⟩) (Nat.le_add_right _ 1) u3).setCell (p := ⟨w.heap.size + 1, 3, none⟩) (Nat.le_add_right _ 1) u4).setCell (p := ⟨w.heap.size + 1, 4, none⟩) (Nat.le_add_right _ 1) u5
      clear HF HKs HQ HO HX HBw HKl HKe hown HR HB HW0
      go_wp2_with fail
      try simp only [Exit.inBlock, Exit.then]
      refine bodyPost_ret (v := .agg (evA a b c k (.slice xo (keepL f l).length yo))) ?_ rfl (HEnd.out _ _ _ _ _ _)
      rw [results_c1 rfl]; go_simp
end Go.Proofs.YtacpllmlpmllbaaGreatDoor
/- law04.Attrs where its row lies, law06.Ref, the reference's SameAttrs and Same at what is the same: walks. -/
namespace Go.Proofs.YtacpllmlpmllbaaGreatDoor
open Go.RowKit Go.ChangeMaps

theorem a_takeO (l : List At) (k : Nat) (hk : k < l.length) : aCells (l.take (k + 1)) = aCells (l.take k) ++ enA l[k] := by
  rw [List.take_succ_eq_append_getElem hk, aCells_snoc]
set_option maxRecDepth 100000 in
set_option maxHeartbeats 4000000 in
theorem attrsO_any (v : Value) (l : List At) (w : World) (hr : IsRow w 4 v l.length (aCells l)) (hl : l.length ≤ 1000000) :
    Calls Tryz.prog 27 #[v] w fun e w' => ∃ a c, e = .returned (.slice a l.length c) ∧ w'.ownsRow w.heap.size 90 4 (.slice a l.length c) l.length (aCells l) ∧ Below w.heap.size w w' := by
  obtain ⟨a0, cap0, rfl⟩ := hr.form
  have HR : Hid (IsRow w 4 (.slice a0 l.length cap0) l.length (aCells l)) := hr
  clear hr
  obtain ⟨i0, hi0, hz0, hz1, hz2⟩ := info_parts info_rq
  go_enter Tryz.func27, Tryz.ntmps27
  go_wp2_with fail
  go_loopw [3, 4] (fun r i wr => ∃ k : Nat, k ≤ l.length ∧ i = .int .i64 (k : Int) ∧ Hid (wr.ownsRow w.heap.size 90 4 r k (aCells (l.take k))) ∧ Below w.heap.size w wr) (fun _ i _ => l.length - (intOf i).toNat)
  case atStart => exact ⟨0, Nat.zero_le _, rfl, World.ownsRow_nil _ _ _ _, Below.refl _ _⟩
  case round =>
    obtain ⟨k, hk, rfl, HO, hB⟩ := hrel
    have hsz := hB.size
    by_cases hlk : k < l.length
    · have dk : decide ((k : Int) < l.length) = true := by simp; omega
      obtain ⟨b, off, rfl, hlt, hcap, hc⟩ := a_at HR.out (by omega)
      obtain ⟨k0, k1, k2, k3⟩ := hc k hlk
      have ck0 := (hB.cell (p := ⟨b, off + k * 4, none⟩) hlt).trans k0
      have ck1 := (hB.cell (p := ⟨b, off + k * 4 + 1, none⟩) hlt).trans k1
      have ck2 := (hB.cell (p := ⟨b, off + k * 4 + 2, none⟩) hlt).trans k2
      have ck3 := (hB.cell (p := ⟨b, off + k * 4 + 3, none⟩) hlt).trans k3
      have HTh : Hid (aCells (l.take (k + 1)) = aCells (l.take k) ++ enA l[k]) := a_takeO l k hlk
      have hne : some b ≠ u3.ownBlock := fun e => by have := (HO.out.lt b e.symm).1; omega
      have hbw : b < wr.heap.size := by omega
      have HBr : Hid (Below w.heap.size w wr) := hB
      generalize l[k]'hlk = x at *
      obtain ⟨an, ak, av, as'⟩ := x
      dsimp only at *
      have q1 : (0 : Int) ≤ (k : Int) := by omega
      have q2 : (k : Int) < (l.length : Int) := by omega
      clear hc k0 k1 k2 k3 hB
      go_wp2_with fail
      go_region_held3 (fun w' => w'.cell? ⟨b, off + k * 4, none⟩ = some (.string an) ∧ w'.cell? ⟨b, off + k * 4 + 1, none⟩ = some (.int .i64 ak) ∧ w'.cell? ⟨b, off + k * 4 + 2, none⟩ = some (.int .i64 av) ∧ w'.cell? ⟨b, off + k * 4 + 3, none⟩ = some (.string as'))
        (first
          | go_keep
          | (go_split_ands
             refine ⟨?_, ?_, ?_, ?_⟩
             all_goals (rw [hgrow.cell_far _ (by simp; omega) hne]; assumption)))
        ((refine step_append_lies _ (by rfl) _ _ _ (by rfl) w.heap.size 90 i0 _ 4 48 Tryz.underlying30 hi0 hz0 hz1 hz2 rfl (by omega) u3 k (aCells (l.take k)) (by rfl) ((HO.out.alloc _).drew)
            ⟨wr.heap.size, 0, none⟩ 1 1 [.string an, .int .i64 ak, .int .i64 av, .string as'] (by rfl) (by rfl) (World.news_of_block (cs := #[.string an, .int .i64 ak, .int .i64 av, .string as']) (t := 90) (fr := (0, 0)) (heap_alloc_new wr _)) (by simp [Value.oneCell'])
            (by omega) (by unfold maxLen; omega) (by omega) (by simp; omega) (wr.heap.size + 1) (by simp) ?_; intro gg cap w1 hown1 hgrow hat hlt1))
      have HO2 : Hid (w1.ownsRow w.heap.size 90 4 (.slice (some ⟨gg, 0, none⟩) (k + 1) cap) (k + 1) (aCells (l.take (k + 1)))) := by
        show World.ownsRow _ _ _ _ _ _ _
        rw [HTh.out]; exact hown1
      have HB2 : Hid (Below w.heap.size w w1) := (HBr.out.trans ((al_b wr _).drew.mono hsz)).grown hgrow (by simp; omega) (fun k hk => (HO.out.lt k hk).1)
      clear hown1 hgrow hat hlt1 HTh HO
      go_wp2
      go_roundw
      case rel => exact ⟨k + 1, by omega, by simp, HO2, HB2.out⟩
      case measure => simp [intOf]; omega
    · have hk' : k = l.length := by omega
      subst hk'
      have dk : decide ((l.length : Int) < l.length) = false := by simp
      have hown := HO.out
      rw [List.take_of_length_le (Nat.le_refl _)] at hown
      obtain ⟨ra, rc, rfl⟩ := (IsRow.own hown).form
      have HX : Hid (wr.ownsRow w.heap.size 90 4 (.slice ra l.length rc) l.length (aCells l) ∧ Below w.heap.size w wr) := ⟨hown, hB⟩
      clear hown hB
      go_wp2
      go_ret
      exact ⟨_, _, rfl, HX.out.1, HX.out.2⟩
/-- An event as the reference has it. -/
def ReP (a b c : Int) (k : ByteArray) (l : List At) (w : World) (e : Ending) (w' : World) : Prop := ∃ x y, e = .returned (.agg (evA a b c k (.slice x l.length y))) ∧ IsRow w' 4 (.slice x l.length y) l.length (aCells l) ∧ Below w.heap.size w w'
/-- Behind its store. -/
def CtE (a b c : Int) (k : ByteArray) (l : List At) (w : World) (wx : World) : Prop := ∃ x y, Hid (IsRow wx 4 (.slice x l.length y) l.length (aCells l)) ∧ Hid (Below w.heap.size w wx) ∧ Hid (BxV (w.heap.size + 1) a b c k (.slice x l.length y) wx)
set_option maxRecDepth 100000 in
set_option maxHeartbeats 4000000 in
theorem refE_any (a b c : Int) (k : ByteArray) (u : Value) (l : List At) (w : World) (hq : IsRow w 4 u l.length (aCells l)) (hl : l.length ≤ 1000000) :
    Calls Tryz.prog 10 #[.agg (evA a b c k u)] w fun e w' => ReP a b c k l w e w' := by
  obtain ⟨au, cu, rfl⟩ := hq.form
  obtain ⟨W0, hW0⟩ : ∃ W0, W0 = (w.alloc (.cells (evA a b c k (.slice au l.length cu)) 26)).alloc (.cells (evA 0 0 0 ⟨#[]⟩ (.slice none 0 0)) 32) := ⟨_, rfl⟩
  have hA : Below w.heap.size w W0 := by rw [hW0]; exact (al_b w _).trans ((al_b _ _).mono (by simp))
  have hz : W0.heap.size = w.heap.size + 2 := by rw [hW0]; simp
  have hn0 : W0.heap[w.heap.size]? = some (.cells (evA a b c k (.slice au l.length cu)) 26 (0, 0)) := by
    rw [hW0]
    show ((w.heap.push _).push _)[w.heap.size]? = _
    rw [Array.getElem?_push, if_neg (by simp), Array.getElem?_push, if_pos rfl]
  have hn1 : W0.heap[w.heap.size + 1]? = some (.cells (evA 0 0 0 ⟨#[]⟩ (.slice none 0 0)) 32 (0, 0)) := by
    rw [hW0]
    show ((w.heap.push _).push _)[w.heap.size + 1]? = _
    rw [Array.getElem?_push, if_pos (by simp)]
  have HX : Hid (∀ W, Below W0.heap.size W0 W → BxV w.heap.size a b c k (.slice au l.length cu) W) := fun W h => BxV.of ((h.block _ (by omega)).trans hn0)
  have HZ : Hid (∀ W, Below W0.heap.size W0 W → BxV (w.heap.size + 1) 0 0 0 ⟨#[]⟩ (.slice none 0 0) W) := fun W h => BxV.of ((h.block _ (by omega)).trans hn1)
  have HF1 : Hid (∀ W, Below W0.heap.size W0 W → ∀ j, W.frozen? ⟨w.heap.size + 1, j, none⟩ = false) := fun W h j => Lib.frozen_of_heap ((h.block _ (by omega)).trans hn1) j
  have HBw : Hid (∀ W, Below W0.heap.size W0 W → Below w.heap.size w W) := fun W h => hA.trans (h.mono hA.size)
  have HRa : Hid (∀ W, Below W0.heap.size W0 W → Calls Tryz.prog 27 #[.slice au l.length cu] W fun e w' => ∃ x y, e = .returned (.slice x l.length y) ∧ Hid (w'.ownsRow W0.heap.size 90 4 (.slice x l.length y) l.length (aCells l)) ∧ Below W0.heap.size W0 w' ∧ Below W.heap.size W w') := fun W h => by
    refine (attrsO_any _ l W (hq.below (HBw.out W h)) hl).mono ?_
    rintro e w' ⟨x, y, rfl, ho, hb⟩
    refine ⟨x, y, rfl, ?_, h.trans (hb.mono h.size), hb⟩
    show World.ownsRow _ _ _ _ _ _ _
    obtain ⟨h1, h2⟩ := ho
    refine ⟨h1, ?_⟩
    rcases h2 with ⟨hv, hn⟩ | ⟨g, cap, cur, hv, hb1, hrest⟩
    · exact .inl ⟨hv, hn⟩
    · exact .inr ⟨g, cap, cur, hv, Nat.le_trans h.size hb1, hrest⟩
  have HFin : Hid (∀ (wA : World) (x1 : Option Addr) (y1 : Nat), Hid (wA.ownsRow W0.heap.size 90 4 (.slice x1 l.length y1) l.length (aCells l)) → Below W0.drew.heap.size W0.drew wA → Below W0.heap.size W0 wA → CtE a b c k l w (((((wA.setCell ⟨w.heap.size + 1, 0, none⟩ (.int .i64 a)).setCell ⟨w.heap.size + 1, 1, none⟩ (.int .i64 b)).setCell ⟨w.heap.size + 1, 2, none⟩ (.int .i64 c)).setCell ⟨w.heap.size + 1, 3, none⟩ (.string k)).setCell ⟨w.heap.size + 1, 4, none⟩ (.slice x1 l.length y1))) := fun wA x1 y1 o1 _ hB => by
    have n1 : NewA (w.heap.size + 2) x1 := (NewA.own o1.out).le (by omega)
    have r1 := IsRow.own o1.out
    have hg : w.heap.size + 1 < w.heap.size + 2 := by omega
    have hk := (hB.block (w.heap.size + 1) (by omega)).trans hn1
    exact ⟨x1, y1, (row_far (row_far (row_far (row_far (row_far r1 n1 hg 0 _) n1 hg 1 _) n1 hg 2 _) n1 hg 3 _) n1 hg 4 _), ((((((HBw.out _ hB).setCell (p := ⟨w.heap.size + 1, 0, none⟩) (Nat.le_add_right _ 1) (.int .i64 a)).setCell (p := ⟨w.heap.size + 1, 1, none⟩) (Nat.le_add_right _ 1) (.int .i64 b)).setCell (p := ⟨w.heap.size + 1, 2, none⟩) (Nat.le_add_right _ 1) (.int .i64 c)).setCell (p := ⟨w.heap.size + 1, 3, none⟩) (Nat.le_add_right _ 1) (.string k)).setCell (p := ⟨w.heap.size + 1, 4, none⟩) (Nat.le_add_right _ 1) (.slice x1 l.length y1)), BxV.of (heap_set (heap_set (heap_set (heap_set (heap_set hk 0 _) 1 _) 2 _) 3 _) 4 _)⟩
  have HK5 : Hid (∀ WE : World, BxV w.heap.size a b c k (.slice au l.length cu) WE → ∀ u0 u1 u2 u3 u4, BxV w.heap.size a b c k (.slice au l.length cu) (((((WE.setCell ⟨w.heap.size + 1, 0, none⟩ u0).setCell ⟨w.heap.size + 1, 1, none⟩ u1).setCell ⟨w.heap.size + 1, 2, none⟩ u2).setCell ⟨w.heap.size + 1, 3, none⟩ u3).setCell ⟨w.heap.size + 1, 4, none⟩ u4)) := fun WE h u0 u1 u2 u3 u4 => by
    have q : ∀ (W : World) (j k : Nat) (v : Value), (W.setCell ⟨w.heap.size + 1, j, none⟩ v).cell? ⟨w.heap.size, k, none⟩ = W.cell? ⟨w.heap.size, k, none⟩ := fun W j k v => World.cell?_setCell_other _ _ _ _ (by simp only [ne_eq, Addr.mk.injEq, not_and]; intro h; omega)
    unfold BxV at h ⊢
    simp only [q]
    exact h
  have HR1 : Hid (Below W0.heap.size W0 W0.drew) := (Below.refl _ _).drew
  clear hn0 hn1 hA hq hl
  go_enter Tryz.func10, Tryz.ntmps10
  go_wp2_with fail
  rw [← hW0]
  clear hW0
  go_cut [] (fun wx => CtE a b c k l w wx)
  case first =>
    refine wp_region_held_drew (S := fun w' => BxV w.heap.size a b c k (.slice au l.length cu) w') (by kernel_rfl) (HX.out _ HR1.out) (fun hHeld => ?_)
    generalize W0.drew = wd at *
    refine wpAnyH_take (i := 0) (v := ?_) rfl (by kernel_rfl) (by kernel_rfl) (by kernel_rfl) (fun _ _ _ h => h) (Or.inl ⟨by rfl, ?_⟩) hHeld ?_
    rotate_left 1
    · intro w9 hSw; obtain ⟨⟨g0, g1, g2⟩, g3, g4⟩ := hSw; go_simp; try with_reducible rfl
    change wpAnyH _ _ _ _ _ _ _ (Act.put _ (some 3) _) _
    simp only [Act.put, List.setIfInBounds_toArray, List.set_cons_zero, List.set_cons_succ]
    refine wpAnyH_take (i := 1) (v := ?_) rfl (by kernel_rfl) (by kernel_rfl) (by kernel_rfl) (fun _ _ _ h => h) (Or.inl ⟨by rfl, ?_⟩) hHeld ?_
    rotate_left 1
    · intro w9 hSw; obtain ⟨⟨g0, g1, g2⟩, g3, g4⟩ := hSw; go_simp; try with_reducible rfl
    change wpAnyH _ _ _ _ _ _ _ (Act.put _ (some 4) _) _
    simp only [Act.put, List.setIfInBounds_toArray, List.set_cons_zero, List.set_cons_succ]
    refine wpAnyH_take (i := 2) (v := ?_) rfl (by kernel_rfl) (by kernel_rfl) (by kernel_rfl) (fun _ _ _ h => h) (Or.inl ⟨by rfl, ?_⟩) hHeld ?_
    rotate_left 1
    · intro w9 hSw; obtain ⟨⟨g0, g1, g2⟩, g3, g4⟩ := hSw; go_simp; try with_reducible rfl
    change wpAnyH _ _ _ _ _ _ _ (Act.put _ (some 5) _) _
    simp only [Act.put, List.setIfInBounds_toArray, List.set_cons_zero, List.set_cons_succ]
    refine wpAnyH_take (i := 3) (v := ?_) rfl (by kernel_rfl) (by kernel_rfl) (by kernel_rfl) (fun _ _ _ h => h) (Or.inl ⟨by rfl, ?_⟩) hHeld ?_
    rotate_left 1
    · intro w9 hSw; obtain ⟨⟨g0, g1, g2⟩, g3, g4⟩ := hSw; go_simp; try with_reducible rfl
    change wpAnyH _ _ _ _ _ _ _ (Act.put _ (some 6) _) _
    simp only [Act.put, List.setIfInBounds_toArray, List.set_cons_zero, List.set_cons_succ]
    refine wpAnyH_take (i := 4) (v := ?_) rfl (by kernel_rfl) (by kernel_rfl) (by kernel_rfl) (fun _ _ _ h => h) (Or.inl ⟨by rfl, ?_⟩) hHeld ?_
    rotate_left 1
    · intro w9 hSw; obtain ⟨⟨g0, g1, g2⟩, g3, g4⟩ := hSw; go_simp; try with_reducible rfl
    change wpAnyH _ _ _ _ _ _ _ (Act.put _ (some 7) _) _
    simp only [Act.put, List.setIfInBounds_toArray, List.set_cons_zero, List.set_cons_succ]
    refine wpAnyH_take (i := 5) (v := ?_) rfl (by kernel_rfl) (by kernel_rfl) (by kernel_rfl) (fun _ _ _ h => h) (Or.inl ⟨by rfl, ?_⟩) hHeld ?_
    rotate_left 1
    · intro w9 hSw; obtain ⟨⟨g0, g1, g2⟩, g3, g4⟩ := hSw; go_simp; try with_reducible rfl
    change wpAnyH _ _ _ _ _ _ _ (Act.put _ (some 8) _) _
    simp only [Act.put, List.setIfInBounds_toArray, List.set_cons_zero, List.set_cons_succ]
    refine wpAnyH_ready (rs := [6]) (by kernel_rfl) (by simp) ?_
    refine AllReadyH.cons rfl (fun K hK => ?_) AllReadyH.nil
    go_simp
    refine (HRa.out _ HR1.out).mono ?_
    rintro e w4 ⟨x1, y1, rfl, HO1, hb4, hc4⟩
    go_simp
    refine hK.out _ _ (HX.out _ hb4) (fun hHeld => ?_)
    clear hK K
    refine wpAnyH_take (i := 7) (v := ?_) rfl (by kernel_rfl) (by kernel_rfl) (by kernel_rfl) (fun _ _ _ h => h) (Or.inl ⟨by rfl, ?_⟩) hHeld ?_
    rotate_left 1
    · intro w9 hSw; obtain ⟨⟨g0, g1, g2⟩, g3, g4⟩ := hSw; go_simp; try with_reducible rfl
    change wpAnyH _ _ _ _ _ _ _ (Act.put _ (some 10) _) _
    simp only [Act.put, List.setIfInBounds_toArray, List.set_cons_zero, List.set_cons_succ]
    obtain ⟨⟨m0, m1, m2⟩, m3, m4⟩ := HZ.out _ hb4
    have mf := HF1.out _ hb4
    have HCt : Hid _ := HFin.out w4 x1 y1 HO1 hc4 hb4
    have HC8 := HX.out _ hb4
    refine wpAnyH_ready (rs := [8]) (by kernel_rfl) (by simp) ?_
    refine AllReadyH.cons rfl (fun K hK => ?_) AllReadyH.nil
    go_simp
    refine hK.out _ _ (HK5.out w4 HC8 _ _ _ _ _) (fun hHeld => ?_)
    clear hK K
    refine wpAnyH_done (by kernel_rfl) ?_ _
    try go_wp2_with fail
    go_meet
    exact HCt.out
  case rest =>
    obtain ⟨x1, y1, HRw, HBx, HBv⟩ := hcut
    obtain ⟨⟨z0, z1, z2⟩, z3, z4⟩ := HBv.out
    have HEnd : Hid (ReP a b c k l w (.returned (.agg (evA a b c k (.slice x1 l.length y1)))) wc) := ⟨x1, y1, rfl, HRw.out, HBx.out⟩
    clear HX HZ HF1 HBw HRa HFin HK5 HR1
    go_wp2_with fail
    try simp only [Exit.inBlock, Exit.then]
    refine bodyPost_ret (v := .agg (evA a b c k (.slice x1 l.length y1))) ?_ rfl HEnd.out
    rw [results_c1 rfl]; go_simp
end Go.Proofs.YtacpllmlpmllbaaGreatDoor
/- The reference's SameAttrs and Same at what is the same: walks. -/
namespace Go.Proofs.YtacpllmlpmllbaaGreatDoor
open Go.RowKit Go.ChangeMaps

/-- Two rows' attributes of one place. -/
def TwA (b0 o0 b1 o1 : Nat) (x : At) (W : World) : Prop := (W.cell? ⟨b0, o0, none⟩ = some (.string x.n) ∧ W.cell? ⟨b0, o0 + 1, none⟩ = some (.int .i64 x.k) ∧ W.cell? ⟨b0, o0 + 2, none⟩ = some (.int .i64 x.v) ∧ W.cell? ⟨b0, o0 + 3, none⟩ = some (.string x.s)) ∧ (W.cell? ⟨b1, o1, none⟩ = some (.string x.n) ∧ W.cell? ⟨b1, o1 + 1, none⟩ = some (.int .i64 x.k) ∧ W.cell? ⟨b1, o1 + 2, none⟩ = some (.int .i64 x.v) ∧ W.cell? ⟨b1, o1 + 3, none⟩ = some (.string x.s))
set_option maxRecDepth 100000 in
set_option maxHeartbeats 2000000 in
theorem sameAt_any (u v : Value) (l : List At) (w : World) (hu : IsRow w 4 u l.length (aCells l)) (hv : IsRow w 4 v l.length (aCells l)) (hl : l.length ≤ 1000000) :
    Calls Tryz.prog 28 #[u, v] w fun e w' => e = .returned (.bool true) ∧ Below w.heap.size w w' := by
  obtain ⟨a0, c0, rfl⟩ := hu.form
  obtain ⟨a1, c1, rfl⟩ := hv.form
  have HU : Hid (IsRow w 4 (.slice a0 l.length c0) l.length (aCells l)) := hu
  have HV : Hid (IsRow w 4 (.slice a1 l.length c1) l.length (aCells l)) := hv
  clear hu hv
  go_enter Tryz.func28, Tryz.ntmps28
  go_wp2_with fail
  go_loopw [4, 5] (fun r i wr => r = .bool false ∧ ∃ j : Nat, j ≤ l.length ∧ i = .int .i64 (j : Int) ∧ Hid (Below w.heap.size w wr)) (fun _ i _ => l.length - (intOf i).toNat)
  case atStart => exact ⟨rfl, 0, by omega, rfl, Below.refl _ _⟩
  case round =>
    obtain ⟨rfl, j, hj, rfl, HB⟩ := hrel
    by_cases hlk : j < l.length
    · have dj : decide ((j : Int) < (l.length : Int)) = true := by simp; omega
      obtain ⟨b0, o0, rfl, hlt0, hcap0, hc0⟩ := a_at HU.out (by omega)
      obtain ⟨b1, o1, rfl, hlt1, hcap1, hc1⟩ := a_at HV.out (by omega)
      have HY : Hid (∀ W, Below w.heap.size w W → TwA b0 (o0 + j * 4) b1 (o1 + j * 4) l[j] W) := fun W h => by
        obtain ⟨p0, p1, p2, p3⟩ := hc0 j hlk
        obtain ⟨q0, q1, q2, q3⟩ := hc1 j hlk
        have e : ∀ b o, b < w.heap.size → W.cell? ⟨b, o, none⟩ = w.cell? ⟨b, o, none⟩ := fun b o hb => h.cell (p := ⟨b, o, none⟩) hb
        exact ⟨⟨(e _ _ hlt0).trans p0, (e _ _ hlt0).trans p1, (e _ _ hlt0).trans p2, (e _ _ hlt0).trans p3⟩, (e _ _ hlt1).trans q0, (e _ _ hlt1).trans q1, (e _ _ hlt1).trans q2, (e _ _ hlt1).trans q3⟩
      have q1 : (0 : Int) ≤ (j : Int) := by omega
      have q2 : (j : Int) < (l.length : Int) := by omega
      have HS : TwA b0 (o0 + j * 4) b1 (o1 + j * 4) l[j] wr := HY.out wr HB.out
      generalize l[j]'hlk = x at *
      clear hc0 hc1
      go_wp2_with fail
      refine wp_region_quiet (C := fun w' => Below w.heap.size w w') (by kernel_rfl) (by kernel_rfl) (HB.out.drew) ?_
      dsimp only
      repeat (first
        | go_big_quiet_skip
        | (go_big_quiet_want
           apply Exists.intro
           refine ⟨fun W' hW' => ?_, ?_⟩
           · have hw : Below w.heap.size w W' := hW'
             obtain ⟨⟨g0, g1, g2, g3⟩, k0, k1, k2, k3⟩ := HY.out W' hw
             go_simp
             first
               | done
               | rfl
           go_big_quiet_on
           try simp only [Act.put, List.setIfInBounds_toArray, List.set_cons_zero, List.set_cons_succ]))
      refine wpQuiet_nil ?_
      intro w2 hqw2
      have H2 : Hid (Below w.heap.size w w2) := hqw2
      clear hqw2 HS
      go_wp2
      go_roundw
      case rel => exact ⟨rfl, j + 1, by omega, by simp, H2⟩
      case measure => simp [intOf]; omega
    · have dj : decide ((j : Int) < (l.length : Int)) = false := by simp; omega
      go_wp2
      go_ret
      exact ⟨rfl, HB.out⟩
set_option maxRecDepth 100000 in
set_option maxHeartbeats 1000000 in
/-- The reference's Same at two events that are the same. -/
theorem refSameE_any (a b c : Int) (k : ByteArray) (u v : Value) (l : List At) (w : World) (hu : IsRow w 4 u l.length (aCells l)) (hv : IsRow w 4 v l.length (aCells l)) (hl : l.length ≤ 1000000) :
    Calls Tryz.prog 14 #[.agg (evA a b c k u), .agg (evA a b c k v)] w fun e w' => e = .returned (.bool true) ∧ Below w.heap.size w w' := by
  obtain ⟨a0, c0, rfl⟩ := hu.form
  obtain ⟨a1, c1, rfl⟩ := hv.form
  have HSm : Hid (∀ W, Below w.heap.size w W → Calls Tryz.prog 28 #[.slice a0 l.length c0, .slice a1 l.length c1] W fun e w' => e = .returned (.bool true) ∧ Below W.heap.size W w') := fun W h => sameAt_any _ _ l W (hu.below h) (hv.below h) hl
  have e1 : (k.toList == k.toList) = true := by simp
  clear hu hv
  obtain ⟨w1, hw1⟩ : ∃ w1, w1 = w.alloc (.cells (evA a b c k (.slice a0 l.length c0)) 32) := ⟨_, rfl⟩
  have B1 : Hid (Below w.heap.size w w1) := by show Below _ _ _; rw [hw1]; exact al_b _ _
  have hn1 : w1.heap[w.heap.size]? = some (.cells (evA a b c k (.slice a0 l.length c0)) 32 (0, 0)) := by rw [hw1]; exact new_at _ _
  have C1 : Hid (∀ W, Below w1.heap.size w1 W → W.heap[w.heap.size]? = some (.cells (evA a b c k (.slice a0 l.length c0)) 32 (0, 0))) := fun W h => (h.block _ (Array.getElem?_eq_some_iff.1 hn1).1).trans hn1
  clear hn1
  obtain ⟨w2, hw2⟩ : ∃ w2, w2 = w1.alloc (.cells (evA a b c k (.slice a1 l.length c1)) 32) := ⟨_, rfl⟩
  have B2 : Hid (Below w1.heap.size w1 w2) := by show Below _ _ _; rw [hw2]; exact al_b _ _
  have hn2 : w2.heap[(w.heap.size + 1)]? = some (.cells (evA a b c k (.slice a1 l.length c1)) 32 (0, 0)) := by rw [hw2]; rw [show w.heap.size + 1 = w1.heap.size by (rw [hw1]; simp)]; exact new_at _ _
  have C2 : Hid (∀ W, Below w2.heap.size w2 W → W.heap[(w.heap.size + 1)]? = some (.cells (evA a b c k (.slice a1 l.length c1)) 32 (0, 0))) := fun W h => (h.block _ (Array.getElem?_eq_some_iff.1 hn2).1).trans hn2
  clear hn2
  have hk := C1.out w2 B2.out
  have c1_0 : w2.cell? ⟨w.heap.size, 0, none⟩ = some (.int .i64 a) := by rw [Lib.cell_of_heap hk]; rfl
  have c1_1 : w2.cell? ⟨w.heap.size, 1, none⟩ = some (.int .i64 b) := by rw [Lib.cell_of_heap hk]; rfl
  have c1_2 : w2.cell? ⟨w.heap.size, 2, none⟩ = some (.int .i64 c) := by rw [Lib.cell_of_heap hk]; rfl
  have c1_3 : w2.cell? ⟨w.heap.size, 3, none⟩ = some (.string k) := by rw [Lib.cell_of_heap hk]; rfl
  have c1_4 : w2.cell? ⟨w.heap.size, 4, none⟩ = some (.slice a0 l.length c0) := by rw [Lib.cell_of_heap hk]; rfl
  clear hk
  have hk := C2.out w2 (Below.refl _ _)
  have c2_0 : w2.cell? ⟨(w.heap.size + 1), 0, none⟩ = some (.int .i64 a) := by rw [Lib.cell_of_heap hk]; rfl
  have c2_1 : w2.cell? ⟨(w.heap.size + 1), 1, none⟩ = some (.int .i64 b) := by rw [Lib.cell_of_heap hk]; rfl
  have c2_2 : w2.cell? ⟨(w.heap.size + 1), 2, none⟩ = some (.int .i64 c) := by rw [Lib.cell_of_heap hk]; rfl
  have c2_3 : w2.cell? ⟨(w.heap.size + 1), 3, none⟩ = some (.string k) := by rw [Lib.cell_of_heap hk]; rfl
  have c2_4 : w2.cell? ⟨(w.heap.size + 1), 4, none⟩ = some (.slice a1 l.length c1) := by rw [Lib.cell_of_heap hk]; rfl
  clear hk
  go_enter Tryz.func14, Tryz.ntmps14
  go_wp2_with fail
  rw [← hw1, ← hw2]
  clear hw1 hw2
  go_wp2_with fail
  clear c1_0 c1_1 c1_2 c1_3 c1_4 c2_0 c2_1 c2_2 c2_3 c2_4
  refine (HSm.out _ (bT B1.out B2.out)).mono ?_
  rintro e w3 ⟨rfl, hb⟩
  have B3 : Hid (Below w2.heap.size w2 w3) := hb
  clear hb 
  have HBz : Hid (Below w.heap.size w w3) := (bT (bT B1.out B2.out) B3.out)
  go_wp2
  go_ret
  exact ⟨rfl, HBz.out⟩
end Go.Proofs.YtacpllmlpmllbaaGreatDoor
/- The law's Ref: its walk. -/
namespace Go.Proofs.YtacpllmlpmllbaaGreatDoor
open Go.RowKit Go.ChangeMaps

set_option maxRecDepth 100000 in
set_option maxHeartbeats 2000000 in
theorem refsO_any (v : Value) (l : List Fd) (w : World) (hr : IsRow w 3 v l.length (fCells l)) (hl : l.length ≤ 1000000) :
    Calls Tryz.prog 31 #[v] w fun e w' => ∃ a c, e = .returned (.slice a l.length c) ∧ w'.ownsRow w.heap.size 120 3 (.slice a l.length c) l.length (fCells l) ∧ Below w.heap.size w w' := by
  obtain ⟨a0, cap0, rfl⟩ := hr.form
  have HR : Hid (IsRow w 3 (.slice a0 l.length cap0) l.length (fCells l)) := hr
  clear hr
  obtain ⟨i0, hi0, hz0, hz1, hz2⟩ := info_parts info_rf
  go_enter Tryz.func31, Tryz.ntmps31
  go_wp2_with fail
  go_loopw [3, 4] (fun r i wr => ∃ k : Nat, k ≤ l.length ∧ i = .int .i64 (k : Int) ∧ wr.ownsRow w.heap.size 120 3 r k (fCells (l.take k)) ∧ Below w.heap.size w wr) (fun _ i _ => l.length - (intOf i).toNat)
  case atStart => exact ⟨0, Nat.zero_le _, rfl, World.ownsRow_nil _ _ _ _, Below.refl _ _⟩
  case round =>
    obtain ⟨k, hk, rfl, hown, hB⟩ := hrel
    have hsz := hB.size
    by_cases hlk : k < l.length
    · have dk : decide ((k : Int) < l.length) = true := by simp; omega
      obtain ⟨b, off, rfl, hlt, hcap, hc⟩ := f_at (HR.out.below hB) (by omega)
      obtain ⟨ck0, ck1, ck2⟩ := hc k hlk
      have HTh : Hid (fCells (l.take (k + 1)) = fCells (l.take k) ++ enF l[k]) := f_take l k hlk
      have HO : Hid (wr.ownsRow w.heap.size 120 3 u3 k (fCells (l.take k))) := hown
      generalize l[k]'hlk = x at *
      obtain ⟨fn, fk, fm⟩ := x
      clear hc hown
      go_wp2_with (at_builtin; go_loud (refine wpl_appE wr rfl (.tmp 11) (.tmp 16) 53 120 rfl i0 _ 3 32 Tryz.underlying53 hi0 hz0 hz1 hz2 rfl (by decide) w.heap.size u3 k _ rfl HO.out [.string fn, .int .i64 fk, .bool fm] rfl _ rfl rfl (by intro u hu; simp at hu; rcases hu with rfl | rfl | rfl <;> rfl) (by omega) (by unfold maxLen; omega) (by omega) ?_); intro v4 w4 hown4 hb4)
      have HO4 : Hid (w4.ownsRow w.heap.size 120 3 v4 (k + 1) (fCells (l.take (k + 1)))) := by show World.ownsRow _ _ _ _ _ _ _; rw [HTh.out]; exact hown4
      have HB4 : Hid (Below w.heap.size w w4) := hB.trans hb4
      clear hown4 hb4 HTh HO hB
      go_wp2
      go_roundw
      case rel => exact ⟨k + 1, by omega, by simp, HO4.out, HB4.out⟩
      case measure => simp [intOf]; omega
    · have hk' : k = l.length := by omega
      subst hk'
      have dk : decide ((l.length : Int) < l.length) = false := by simp
      rw [List.take_of_length_le (Nat.le_refl _)] at hown
      obtain ⟨ra, rc, rfl⟩ := (IsRow.own hown).form
      have HX : Hid (wr.ownsRow w.heap.size 120 3 (.slice ra l.length rc) l.length (fCells l) ∧ Below w.heap.size w wr) := ⟨hown, hB⟩
      clear hown hB
      go_wp2
      go_ret
      exact ⟨_, _, rfl, HX.out.1, HX.out.2⟩
theorem BxT.ofA {g : Nat} {t : Ty} {vo va vc : Value} {w : World} {ty : TypeId} {z : Nat × Nat} (h : w.heap[g]? = some (.cells (tyA t vo va vc) ty z)) : BxT g t vo va vc w := by
  have e : ∀ j, w.cell? ⟨g, j, none⟩ = (tyA t vo va vc)[j]? := fun j => by rw [Lib.cell_of_heap h]
  exact ⟨⟨e 0, e 1, e 2, e 3⟩, e 4, e 5, e 6, e 7⟩
/-- Behind the store of a type for the reference. -/
def CtF (w : World) (t : Ty) (wx : World) : Prop := ∃ y : LT, y.t = t ∧ Hid (IsTy wx y.t y.vo y.va y.vc) ∧ Hid (Below w.heap.size w wx) ∧ Hid (BxT (w.heap.size + 1) y.t y.vo y.va y.vc wx)
/-- A type as the reference has it. -/
def RtP (t : Ty) (w : World) (e : Ending) (w' : World) : Prop := ∃ y : LT, e = .returned (ltV y) ∧ y.t = t ∧ IsTy w' y.t y.vo y.va y.vc ∧ Below w.heap.size w w'
end Go.Proofs.YtacpllmlpmllbaaGreatDoor
