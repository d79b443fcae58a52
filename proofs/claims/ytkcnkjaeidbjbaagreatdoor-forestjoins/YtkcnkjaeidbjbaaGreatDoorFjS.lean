/- The reference's Same and SameAll of types that are the same: walks. -/
import Derived.Test.YtkcnkjaeidbjbaaGreatDoorFjR
import Derived.Test.YtkcnkjaeidbjbaaGreatDoorZl
import Derived.Test.YtkcnkjaeidbjbaaGreatDoorZf
import Derived.Deep.QuietTactic
import Derived.BigQuiet
namespace Go.Proofs.YtkcnkjaeidbjbaaGreatDoor
open Go.RowKit Go.ChangeMaps

theorem sVals_svals (l : List ByteArray) : sVals l = svals (l.map fun b => b.data.toList) := by
  unfold sVals svals
  rw [List.map_map]
  congr 1
theorem sameRs_self (l : List Fd) : sameR l l = true := (sameR_iff l l).2 rfl
theorem beq_selfJ (s : ByteArray) : (s.toList == s.toList) = true := by simp
set_option maxRecDepth 100000 in
set_option maxHeartbeats 4000000 in
theorem refSameT_ok (x y : LT) (w : World) (ht : y.t = x.t) (hx : IsTy w x.t x.vo x.va x.vc) (hy : IsTy w y.t y.vo y.va y.vc) (hm : SmT x.t) :
    Calls Tryz.prog 20 #[ltV x, ltV y] w fun e w' => e = .returned (.bool true) ∧ Below w.heap.size w w' := by
  obtain ⟨t, ao, co, aa, ca, ac, cc⟩ := x
  obtain ⟨t', ao', co', aa', ca', ac', cc'⟩ := y
  dsimp only at ht hm
  subst ht
  dsimp only [LT.vo, LT.va, LT.vc] at hx hy ⊢
  obtain ⟨W0, hW0⟩ : ∃ W0, W0 = (w.alloc (.cells (tyA t' (.slice ao t'.own.length co) (.slice aa t'.all.length ca) (.slice ac t'.ch.length cc)) 41)).alloc (.cells (tyA t' (.slice ao' t'.own.length co') (.slice aa' t'.all.length ca') (.slice ac' t'.ch.length cc')) 41) := ⟨_, rfl⟩
  have hA : Below w.heap.size w W0 := by rw [hW0]; exact (al_b w _).trans ((al_b _ _).mono (by simp))
  have hz : W0.heap.size = w.heap.size + 2 := by rw [hW0]; simp
  have hn0 : W0.heap[w.heap.size]? = some (.cells (tyA t' (.slice ao t'.own.length co) (.slice aa t'.all.length ca) (.slice ac t'.ch.length cc)) 41 (0, 0)) := by
    rw [hW0]
    show ((w.heap.push _).push _)[w.heap.size]? = _
    rw [Array.getElem?_push, if_neg (by simp), Array.getElem?_push, if_pos rfl]
  have hn1 : W0.heap[w.heap.size + 1]? = some (.cells (tyA t' (.slice ao' t'.own.length co') (.slice aa' t'.all.length ca') (.slice ac' t'.ch.length cc')) 41 (0, 0)) := by
    rw [hW0]
    show ((w.heap.push _).push _)[w.heap.size + 1]? = _
    rw [Array.getElem?_push, if_pos (by simp)]
  have HX : Hid (∀ W, Below W0.heap.size W0 W → BxT w.heap.size t' (.slice ao t'.own.length co) (.slice aa t'.all.length ca) (.slice ac t'.ch.length cc) W) := fun W h => BxT.ofA ((h.block _ (by omega)).trans hn0)
  have HY : Hid (∀ W, Below W0.heap.size W0 W → BxT (w.heap.size + 1) t' (.slice ao' t'.own.length co') (.slice aa' t'.all.length ca') (.slice ac' t'.ch.length cc') W) := fun W h => BxT.ofA ((h.block _ (by omega)).trans hn1)
  have HBw : Hid (∀ W, Below W0.heap.size W0 W → Below w.heap.size w W) := fun W h => hA.trans (h.mono hA.size)
  have HSo : Hid (∀ W, Below W0.heap.size W0 W → Calls Tryz.prog 52 #[.slice ao t'.own.length co, .slice ao' t'.own.length co'] W fun e w' => e = .returned (.bool true) ∧ Below W.heap.size W w') := fun W h => by
    have := refSame_any _ _ t'.own t'.own W (hx.1.below (HBw.out W h)) (hy.1.below (HBw.out W h)) (by have := hm.1; omega) (by have := hm.1; omega)
    rw [sameRs_self] at this
    exact this
  have HSa : Hid (∀ W, Below W0.heap.size W0 W → Calls Tryz.prog 52 #[.slice aa t'.all.length ca, .slice aa' t'.all.length ca'] W fun e w' => e = .returned (.bool true) ∧ Below W.heap.size W w') := fun W h => by
    have := refSame_any _ _ t'.all t'.all W (hx.2.1.below (HBw.out W h)) (hy.2.1.below (HBw.out W h)) (by have := hm.2.1; omega) (by have := hm.2.1; omega)
    rw [sameRs_self] at this
    exact this
  have HSc : Hid (∀ W, Below W0.heap.size W0 W → Calls Tryz.prog 53 #[.slice ac t'.ch.length cc, .slice ac' t'.ch.length cc'] W fun e w' => e = .returned (.bool true) ∧ Below W.heap.size W w') := fun W h => by
    have r1 := hx.2.2.below (HBw.out W h)
    have r2 := hy.2.2.below (HBw.out W h)
    rw [sVals_svals, ← List.length_map (f := fun b : ByteArray => b.data.toList)] at r1 r2
    have := sameTexts_eq _ _ _ W r1 r2 (by rw [List.length_map]; have := hm.2.2; omega)
    rw [List.length_map] at this
    exact this
  have e1 := beq_selfJ t'.n
  have e2 := beq_selfJ t'.p
  have HW0 : Hid (Below W0.heap.size W0 W0) := Below.refl _ _
  clear hA hn0 hn1 hx hy hm
  go_enter Tryz.func20, Tryz.ntmps20
  go_wp2_with fail
  rw [← hW0]
  clear hW0
  obtain ⟨⟨g0, g1, g2, g3⟩, g4, g5, g6, g7⟩ := HX.out _ HW0.out
  obtain ⟨⟨k0, k1, k2, k3⟩, k4, k5, k6, k7⟩ := HY.out _ HW0.out
  go_wp2_with fail
  refine (HSo.out _ HW0.out).mono ?_
  rintro e w1 ⟨rfl, hb⟩
  have Hw1 : Hid (Below W0.heap.size W0 w1) := hb
  clear hb g0 g1 g2 g3 g4 g5 g6 g7 k0 k1 k2 k3 k4 k5 k6 k7
  obtain ⟨⟨g0, g1, g2, g3⟩, g4, g5, g6, g7⟩ := HX.out _ Hw1.out
  obtain ⟨⟨k0, k1, k2, k3⟩, k4, k5, k6, k7⟩ := HY.out _ Hw1.out
  go_wp2_with fail
  refine (HSa.out _ Hw1.out).mono ?_
  rintro e w2 ⟨rfl, hb⟩
  have Hw2 : Hid (Below W0.heap.size W0 w2) := Hw1.out.trans (hb.mono Hw1.out.size)
  clear hb g0 g1 g2 g3 g4 g5 g6 g7 k0 k1 k2 k3 k4 k5 k6 k7
  obtain ⟨⟨g0, g1, g2, g3⟩, g4, g5, g6, g7⟩ := HX.out _ Hw2.out
  obtain ⟨⟨k0, k1, k2, k3⟩, k4, k5, k6, k7⟩ := HY.out _ Hw2.out
  go_wp2_with fail
  refine (HSc.out _ Hw2.out).mono ?_
  rintro e w3 ⟨rfl, hb⟩
  have HB : Hid (Below w.heap.size w w3) := HBw.out _ (Hw2.out.trans (hb.mono Hw2.out.size))
  clear hb g0 g1 g2 g3 g4 g5 g6 g7 k0 k1 k2 k3 k4 k5 k6 k7
  go_wp2
  go_ret
  exact ⟨rfl, HB.out⟩
set_option maxRecDepth 100000 in
set_option maxHeartbeats 4000000 in
theorem refSameAll_ok (v u : Value) (A B : List LT) (w : World) (ht : tys A = tys B) (hA : IsTys w v A) (hB : IsTys w u B) (hl : A.length ≤ 100000) (hm : SmL A) :
    Calls Tryz.prog 25 #[v, u] w fun e w' => e = .returned (.bool true) ∧ Below w.heap.size w w' := by
  have hlen : B.length = A.length := by have := congrArg List.length ht; rw [tys_len, tys_len] at this; exact this.symm
  obtain ⟨a0, cap0, rfl⟩ := hA.1.form
  obtain ⟨a1, cap1, rfl⟩ := hB.1.form
  have HR : Hid (∀ W, Below w.heap.size w W → IsRow W 8 (.slice a0 A.length cap0) A.length (tCells A) ∧ IsRow W 8 (.slice a1 B.length cap1) B.length (tCells B)) := fun W h => ⟨hA.1.below h, hB.1.below h⟩
  have HS : Hid (∀ (k : Nat) (hk : k < A.length) (hk' : k < B.length) W, Below w.heap.size w W → Calls Tryz.prog 20 #[ltV A[k], ltV B[k]] W fun e w' => e = .returned (.bool true) ∧ Below W.heap.size W w') := fun k hk hk' W h => by
    refine refSameT_ok _ _ W ?_ ((hA.2 _ (List.getElem_mem hk)).below h) ((hB.2 _ (List.getElem_mem hk')).below h) (hm _ (List.getElem_mem hk))
    rw [← tys_at A k hk, ← tys_at B k hk']
    simp only [ht]
  have dl : ((A.length : Int) == (B.length : Int)) = true := by rw [hlen]; simp
  have dl' : ((A.length : Int) != (B.length : Int)) = false := by rw [hlen]; simp
  have HLe : Hid (B.length = A.length) := hlen
  clear hA hB hm ht
  go_enter Tryz.func25, Tryz.ntmps25
  go_wp2_with fail
  go_loopw [4, 5] (fun r i wr => r = .bool false ∧ ∃ k : Nat, k ≤ A.length ∧ i = .int .i64 (k : Int) ∧ Hid (Below w.heap.size w wr)) (fun _ i _ => A.length - (intOf i).toNat)
  case atStart => exact ⟨rfl, 0, Nat.zero_le _, rfl, Below.refl _ _⟩
  case round =>
    obtain ⟨rfl, k, hk, rfl, HB⟩ := hrel
    by_cases hlk : k < A.length
    · have dk : decide ((k : Int) < (A.length : Int)) = true := by simp; omega
      have hlk' : k < B.length := by have := HLe.out; omega
      have i1 : (0 : Int) ≤ (k : Int) := by omega
      have i2 : (k : Int) < (A.length : Int) := by omega
      have i3 : (k : Int) < (B.length : Int) := by omega
      obtain ⟨b0, off0, e0, -, -, -, hc0⟩ := t_at (HR.out wr HB.out).1 (by omega)
      obtain ⟨b1, off1, e1, -, -, -, hc1⟩ := t_at (HR.out wr HB.out).2 (by omega)
      subst e0 e1
      have HCl : Hid (∀ W, Below w.heap.size w W → ((W.cell? ⟨b0, off0 + k * 8, none⟩ = some (.string A[k].t.n) ∧ W.cell? ⟨b0, off0 + k * 8 + 1, none⟩ = some (.string A[k].t.p) ∧ W.cell? ⟨b0, off0 + k * 8 + 2, none⟩ = some A[k].vo ∧ W.cell? ⟨b0, off0 + k * 8 + 3, none⟩ = some A[k].va) ∧ W.cell? ⟨b0, off0 + k * 8 + 4, none⟩ = some A[k].vc ∧ W.cell? ⟨b0, off0 + k * 8 + 5, none⟩ = some (.int .i64 A[k].t.nd) ∧ W.cell? ⟨b0, off0 + k * 8 + 6, none⟩ = some (.int .i64 A[k].t.lf) ∧ W.cell? ⟨b0, off0 + k * 8 + 7, none⟩ = some (.int .i64 A[k].t.sq)) ∧ ((W.cell? ⟨b1, off1 + k * 8, none⟩ = some (.string B[k].t.n) ∧ W.cell? ⟨b1, off1 + k * 8 + 1, none⟩ = some (.string B[k].t.p) ∧ W.cell? ⟨b1, off1 + k * 8 + 2, none⟩ = some B[k].vo ∧ W.cell? ⟨b1, off1 + k * 8 + 3, none⟩ = some B[k].va) ∧ W.cell? ⟨b1, off1 + k * 8 + 4, none⟩ = some B[k].vc ∧ W.cell? ⟨b1, off1 + k * 8 + 5, none⟩ = some (.int .i64 B[k].t.nd) ∧ W.cell? ⟨b1, off1 + k * 8 + 6, none⟩ = some (.int .i64 B[k].t.lf) ∧ W.cell? ⟨b1, off1 + k * 8 + 7, none⟩ = some (.int .i64 B[k].t.sq))) := fun W h => by
        obtain ⟨x0, f0, e0, -, -, -, d0⟩ := t_at (HR.out W h).1 (by omega)
        obtain ⟨x1, f1, e1, -, -, -, d1⟩ := t_at (HR.out W h).2 (by omega)
        simp only [Option.some.injEq, Addr.mk.injEq, and_true] at e0 e1
        obtain ⟨rfl, rfl⟩ := e0
        obtain ⟨rfl, rfl⟩ := e1
        exact ⟨d0 k hlk, d1 k hlk'⟩
      have HSk : Hid (∀ W, Below w.heap.size w W → Calls Tryz.prog 20 #[ltV A[k], ltV B[k]] W fun e w' => e = .returned (.bool true) ∧ Below W.heap.size W w') := fun W h => HS.out k hlk hlk' W h
      generalize A[k]'hlk = x at *
      generalize B[k]'hlk' = y at *
      clear hc0 hc1 HS HR HLe
      go_wp2_with fail
      refine wp_region_quiet (C := fun w' => Below w.heap.size w w') (by kernel_rfl) (by kernel_rfl) (HB.out.drew) ?_
      dsimp only
      repeat (first
        | go_big_quiet_skip
        | (go_big_quiet_want
           apply Exists.intro
           refine ⟨fun W' hW' => ?_, ?_⟩
           · have hw : Below w.heap.size w W' := hW'
             obtain ⟨⟨⟨g0, g1, g2, g3⟩, g4, g5, g6, g7⟩, ⟨k0, k1, k2, k3⟩, k4, k5, k6, k7⟩ := HCl.out W' hw
             go_simp
             first
               | done
               | rfl
               | (go_at_call 20; (with_reducible refine Calls.mono (HSk.out W' hw) ?_); rintro e w'' ⟨rfl, hb⟩; exact ⟨rfl, hw.trans (hb.mono hw.size)⟩)
           go_big_quiet_on
           try simp only [Act.put, List.setIfInBounds_toArray, List.set_cons_zero, List.set_cons_succ]))
      refine wpQuiet_nil ?_
      intro w2 hqw2
      have Hw2 : Hid (Below w.heap.size w w2) := hqw2
      clear hqw2
      go_wp2
      go_roundw
      case rel => exact ⟨rfl, k + 1, by omega, by simp, Hw2.out⟩
      case measure => simp [intOf]; omega
    · have dk : decide ((k : Int) < (A.length : Int)) = false := by simp; omega
      clear HS HR
      go_wp2
      go_ret
      exact ⟨rfl, HB.out⟩
end Go.Proofs.YtkcnkjaeidbjbaaGreatDoor
