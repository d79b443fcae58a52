/- The reference's May, Check: walks. -/
import Derived.Test.YtbekpemidpngaaaGreatDoorZk29
namespace Go.Proofs.YtbekpemidpngaaaGreatDoor
open Go.RowKit Go.ChangeMaps

set_option maxRecDepth 100000 in
set_option maxHeartbeats 8000000 in
theorem may8_any (x : PR) (w : World) (hr : IsRow w 3 x.v x.y.l.length (itCells x.y.l)) (hn : NmP x.y) :
    Calls Tryz.prog 29 #[prV x] w fun e w' => e = .returned (.bool (mayP x.y)) ∧ Below w.heap.size w w' := by
  obtain ⟨⟨n, o, l⟩, a, c⟩ := x
  obtain ⟨n1, n2, n3⟩ := hn
  show Calls Tryz.prog 29 #[.agg #[.string n, .int .i64 o, .slice a l.length c]] w _
  dsimp only [PR.v, prV] at *
  have HSi : Hid (∀ W, Calls Tryz.prog 52 #[.string n] W fun e w' => e = .returned (.bool (oneP n)) ∧ Below W.heap.size W w') := fun W => refSimple_any n W (by omega)
  have HWd : Hid (∀ W, Calls Tryz.prog 53 #[.string n] W fun e w' => e = .returned (.bool (ownW n)) ∧ Below W.heap.size W w') := fun W => word8_any n W (by omega)
  have HCk : Hid (∀ i (h : i < l.length) W, Calls Tryz.prog 54 #[itV l[i]] W fun e w' => e = .returned (.bool (chk1 l[i])) ∧ Below W.heap.size W w') := fun i h W => refVCheck_any _ _ _ W (n3 _ (List.getElem_mem h))
  have HCm : Hid (∀ (x y : It) W, Calls Tryz.prog 39 #[itV x, itV y] W fun e w' => e = .returned (.int .i64 (cfV x y)) ∧ Below W.heap.size W w') := fun x y W => V.refCompare_any _ _ _ _ _ _ W
  have HTk : Hid (∀ (k : Int) W, Calls Tryz.prog 55 #[.int .i64 o, .int .i64 k] W fun e w' => e = .returned (.bool (tkB o k)) ∧ w' = W) := fun k W => takes8_any o k W
  have HR : Hid (∀ W, Below w.heap.size w W → IsRow W 3 (.slice a l.length c) l.length (itCells l)) := fun W hb => hr.below hb
  have hEq := may_eq ⟨n, o, l⟩
  dsimp only at hEq
  obtain ⟨Z, hZ⟩ : ∃ Z, mayP ⟨n, o, l⟩ = Z := ⟨_, rfl⟩
  rw [hZ] at hEq ⊢
  clear hZ
  generalize oneP n = P1 at *
  generalize ownW n = P2 at *
  clear hr n1 n3
  obtain ⟨w1, hw1⟩ : ∃ w1, w1 = w.alloc (.cells #[.string n, .int .i64 o, .slice a l.length c] 49) := ⟨_, rfl⟩
  have B1 : Hid (Below w.heap.size w w1) := by show Below _ _ _; rw [hw1]; exact al_b _ _
  have hn1 : w1.heap[w.heap.size]? = some (.cells #[.string n, .int .i64 o, .slice a l.length c] 49 (0, 0)) := by rw [hw1]; exact new_at _ _
  have C1 : Hid (∀ W, Below w1.heap.size w1 W → W.heap[w.heap.size]? = some (.cells #[.string n, .int .i64 o, .slice a l.length c] 49 (0, 0))) := fun W h => (h.block _ (Array.getElem?_eq_some_iff.1 hn1).1).trans hn1
  clear hn1
  go_enter Tryz.func29, Tryz.ntmps29
  have hk := C1.out w1 (Below.refl _ _)
  have c1_0 : w1.cell? ⟨w.heap.size, 0, none⟩ = some (.string n) := by rw [Lib.cell_of_heap hk]; rfl
  have c1_1 : w1.cell? ⟨w.heap.size, 1, none⟩ = some (.int .i64 o) := by rw [Lib.cell_of_heap hk]; rfl
  have c1_2 : w1.cell? ⟨w.heap.size, 2, none⟩ = some (.slice a l.length c) := by rw [Lib.cell_of_heap hk]; rfl
  clear hk
  rw [hw1] at c1_0 c1_1 c1_2
  go_wp2_with fail
  rw [← hw1]
  clear hw1 c1_0 c1_1 c1_2
  refine (HSi.out _).mono ?_
  rintro e w2 ⟨rfl, hb⟩
  have B2 : Hid (Below w1.heap.size w1 w2) := hb
  clear hb HSi
  have Bw2 : Hid (Below w.heap.size w w2) := (bT B1.out B2.out)
  cases P1 with
  | false =>
    obtain rfl : Z = false := by rw [hEq]; rfl
    clear hEq
    go_wp2
    go_ret
    exact ⟨rfl, Bw2.out⟩
  | true =>
  have hk := C1.out w2 B2.out
  have c1_0 : w2.cell? ⟨w.heap.size, 0, none⟩ = some (.string n) := by rw [Lib.cell_of_heap hk]; rfl
  clear hk
  go_wp2_with fail
  clear c1_0
  refine (HWd.out _).mono ?_
  rintro e w3 ⟨rfl, hb⟩
  have B3 : Hid (Below w2.heap.size w2 w3) := hb
  clear hb HWd
  have Bw3 : Hid (Below w.heap.size w w3) := (bT (bT B1.out B2.out) B3.out)
  cases P2 with
  | true =>
    obtain rfl : Z = false := by rw [hEq]; rfl
    clear hEq
    go_wp2
    go_ret
    exact ⟨rfl, Bw3.out⟩
  | false =>
  have HK : Hid (∀ W, Below w3.heap.size w3 W → W.heap[w.heap.size]? = some (.cells #[.string n, .int .i64 o, .slice a l.length c] 49 (0, 0))) := fun W h => C1.out W (bT (bT B2.out B3.out) h)
  clear C1 B1 B2 B3
  have hk := HK.out w3 (Below.refl _ _)
  have c1_0 : w3.cell? ⟨w.heap.size, 0, none⟩ = some (.string n) := by rw [Lib.cell_of_heap hk]; rfl
  have c1_1 : w3.cell? ⟨w.heap.size, 1, none⟩ = some (.int .i64 o) := by rw [Lib.cell_of_heap hk]; rfl
  have c1_2 : w3.cell? ⟨w.heap.size, 2, none⟩ = some (.slice a l.length c) := by rw [Lib.cell_of_heap hk]; rfl
  clear hk
  by_cases ho1 : 1 ≤ o
  rotate_left
  · have d1 : decide (o < 1) = true := decide_eq_true (by omega)
    have d2 : decide (1 ≤ o) = false := decide_eq_false ho1
    obtain rfl : Z = false := by rw [hEq, d2]; rfl
    clear hEq
    go_wp2
    go_ret
    exact ⟨rfl, Bw3.out⟩
  have d1 : decide (o < 1) = false := decide_eq_false (by omega)
  by_cases ho9 : o ≤ 9
  rotate_left
  · have d2 : decide (9 < o) = true := decide_eq_true (by omega)
    have d3 : decide (o ≤ 9) = false := decide_eq_false ho9
    obtain rfl : Z = false := by rw [hEq, d3]; simp
    clear hEq
    go_wp2
    go_ret
    exact ⟨rfl, Bw3.out⟩
  have d2 : decide (9 < o) = false := decide_eq_false (by omega)
  have hZ2 : Z = (goB l && tailB o l) := by rw [hEq, decide_eq_true ho1, decide_eq_true ho9]; rfl
  have HNo : Hid (∀ i (h : i < l.length), i ≤ 16 → elB l i h = false → Z = false) := fun i h h16 e => by
    rw [hZ2]
    have : goB l = false := by
      unfold goB
      rw [decide_eq_false_iff_not]
      intro g
      rw [g i h h16] at e
      cases e
    rw [this]
    rfl
  have HYes : Hid ((∀ i (h : i < l.length), i ≤ 16 → elB l i h = true) → Z = tailB o l) := fun h => by
    rw [hZ2]
    unfold goB
    rw [decide_eq_true h]
    rfl
  clear hEq hZ2
  go_wp2_with fail
  clear c1_0 c1_1 c1_2 d1 d2
  go_loopw [3] (fun i wr => ∃ j : Nat, j ≤ l.length ∧ j ≤ 17 ∧ i = .int .i64 (j : Int) ∧ Hid (∀ k (h : k < l.length), k < j → elB l k h = true) ∧ Hid (Below w3.heap.size w3 wr)) (fun i _ => l.length - (intOf i).toNat)
  case atStart => exact ⟨0, by omega, by omega, rfl, (fun k h hj => absurd hj (Nat.not_lt_zero _)), Below.refl _ _⟩
  case round =>
    obtain ⟨j, hj, hj17, rfl, HO, HB⟩ := hrel
    have HBr : Hid (Below w.heap.size w wr) := bT Bw3.out HB.out
    have HKr : Hid (∀ W, Below wr.heap.size wr W → W.heap[w.heap.size]? = some (.cells #[.string n, .int .i64 o, .slice a l.length c] 49 (0, 0))) := fun W h => HK.out W (bT HB.out h)
    have hk := HKr.out wr (Below.refl _ _)
    have c1_1 : wr.cell? ⟨w.heap.size, 1, none⟩ = some (.int .i64 o) := by rw [Lib.cell_of_heap hk]; rfl
    have c1_2 : wr.cell? ⟨w.heap.size, 2, none⟩ = some (.slice a l.length c) := by rw [Lib.cell_of_heap hk]; rfl
    clear hk
    by_cases hlk : j < l.length ∧ j ≤ 16
    · obtain ⟨hlk, h16⟩ := hlk
      have dj : decide ((j : Int) < (l.length : Int)) = true := by simp; omega
      have d16 : decide ((j : Int) ≤ 16) = true := decide_eq_true (by omega)
      have hl0 : 0 < l.length := by omega
      have HY : Hid (∃ b0 o0, a = some ⟨b0, o0, none⟩ ∧ ∀ W, Below w.heap.size w W → ∀ i (h : i < l.length), W.cell? ⟨b0, o0 + i * 3, none⟩ = some (.int .i64 l[i].k) ∧ W.cell? ⟨b0, o0 + i * 3 + 1, none⟩ = some (.int .i64 l[i].n) ∧ W.cell? ⟨b0, o0 + i * 3 + 2, none⟩ = some (.string l[i].s)) := by
        obtain ⟨b0, o0, hab, -⟩ := items_at (HR.out w (Below.refl _ _)) j hlk
        refine ⟨b0, o0, hab, fun W h i hi => ?_⟩
        obtain ⟨b', o', hv, -, p0, p1, p2⟩ := items_at (HR.out W h) i hi
        rw [hab] at hv
        simp only [Option.some.injEq, Addr.mk.injEq] at hv
        obtain ⟨rfl, rfl, -⟩ := hv
        exact ⟨p0, p1, p2⟩
      obtain ⟨b0, o0, rfl, HY2⟩ := HY.out
      have HYj : Hid (∀ W, Below w.heap.size w W → W.cell? ⟨b0, o0 + j * 3, none⟩ = some (.int .i64 l[j].k) ∧ W.cell? ⟨b0, o0 + j * 3 + 1, none⟩ = some (.int .i64 l[j].n) ∧ W.cell? ⟨b0, o0 + j * 3 + 2, none⟩ = some (.string l[j].s)) := fun W h => HY2 W h j hlk
      have HY0 : Hid (∀ W, Below w.heap.size w W → W.cell? ⟨b0, o0, none⟩ = some (.int .i64 l[0].k)) := fun W h => by
        have := (HY2 W h 0 hl0).1
        rwa [Nat.zero_mul, Nat.add_zero] at this
      have q1 : (0 : Int) ≤ (j : Int) := by omega
      have q2 : (j : Int) < (l.length : Int) := by omega
      have q3 : (0 : Int) < (l.length : Int) := by omega
      have HCj : Hid (∀ W, Calls Tryz.prog 54 #[itV l[j]] W fun e w' => e = .returned (.bool (chk1 l[j])) ∧ Below W.heap.size W w') := fun W => HCk.out j hlk W
      have HOn : Hid (elB l j hlk = true → ∀ k (h : k < l.length), k < j + 1 → elB l k h = true) := fun hs k h hk => by
        by_cases e : k = j
        · subst e; exact hs
        · exact HO.out k h (by omega)
      have HNj : Hid (elB l j hlk = false → Z = false) := fun h => HNo.out j hlk h16 h
      cases j with
      | zero =>
        have he : elB l 0 hlk = chk1 l[0] := by unfold elB; simp
        have HOn2 : Hid (chk1 l[0] = true → ∀ k (h : k < l.length), k < 0 + 1 → elB l k h = true) := fun h => HOn.out (by rw [he]; exact h)
        have HNj2 : Hid (chk1 l[0] = false → Z = false) := fun h => HNj.out (by rw [he]; exact h)
        simp only [Nat.zero_mul, Nat.add_zero] at HYj
        clear HO HOn HNj he HCk HNo HYes HY HY2 HTk
        generalize l[0]'hlk = X at *
        obtain ⟨Xk, Xn, Xs⟩ := X
        dsimp only at *
        generalize hX : chk1 ⟨Xk, Xn, Xs⟩ = B at *
        have e0 : ((0 : Nat) : Int) = 0 := rfl
        have dk0 : decide ((0 : Int) < (l.length : Int)) = true := decide_eq_true (by omega)
        clear hX
        cases B with
        | false =>
          have HZ : Hid (Z = false) := HNj2.out rfl
          clear HOn2 HNj2
          go_wp2_with fail
          clear c1_1 c1_2
          refine wp_region_quiet (C := fun w' => Below wr.heap.size wr w') (by kernel_rfl) (by kernel_rfl) ((Below.refl _ _).drew) ?_
          dsimp only
          repeat (first
            | go_big_quiet_skip
            | (go_big_quiet_want
               apply Exists.intro
               refine ⟨fun W' hW' => ?_, ?_⟩
               · have hw : Below wr.heap.size wr W' := hW'
                 obtain ⟨g0, g1, g2⟩ := HYj.out W' (bT HBr.out hw)
                 have g3 := HY0.out W' (bT HBr.out hw)
                 have hk := HKr.out W' hw
                 have k2 : W'.cell? ⟨w.heap.size, 2, none⟩ = some (.slice (some ⟨b0, o0, none⟩) l.length c) := by rw [Lib.cell_of_heap hk]; rfl
                 clear hk
                 go_simp
                 first
                   | done
                   | rfl
                   | (go_at_call 54; (with_reducible refine Calls.mono (HCj.out W') ?_); rintro e w'' ⟨rfl, hb⟩; exact ⟨rfl, hw.trans (hb.mono hw.size)⟩)
               go_big_quiet_on
               try simp only [Act.put, List.setIfInBounds_toArray, List.set_cons_zero, List.set_cons_succ]))
          refine wpQuiet_nil ?_
          intro w5 hq5
          have HB5 : Hid (Below w3.heap.size w3 w5) := bT HB.out hq5
          have HBw5 : Hid (Below w.heap.size w w5) := bT HBr.out hq5
          clear hq5
          go_wp2
          go_ret
          exact ⟨by rw [HZ.out]; rfl, HBw5.out⟩
        | true =>
          have HO3 : Hid (∀ k (h : k < l.length), k < 0 + 1 → elB l k h = true) := HOn2.out rfl
          clear HOn2 HNj2
          go_wp2_with fail
          clear c1_1 c1_2
          refine wp_region_quiet (C := fun w' => Below wr.heap.size wr w') (by kernel_rfl) (by kernel_rfl) ((Below.refl _ _).drew) ?_
          dsimp only
          repeat (first
            | go_big_quiet_skip
            | (go_big_quiet_want
               apply Exists.intro
               refine ⟨fun W' hW' => ?_, ?_⟩
               · have hw : Below wr.heap.size wr W' := hW'
                 obtain ⟨g0, g1, g2⟩ := HYj.out W' (bT HBr.out hw)
                 have g3 := HY0.out W' (bT HBr.out hw)
                 have hk := HKr.out W' hw
                 have k2 : W'.cell? ⟨w.heap.size, 2, none⟩ = some (.slice (some ⟨b0, o0, none⟩) l.length c) := by rw [Lib.cell_of_heap hk]; rfl
                 clear hk
                 go_simp
                 first
                   | done
                   | rfl
                   | (go_at_call 54; (with_reducible refine Calls.mono (HCj.out W') ?_); rintro e w'' ⟨rfl, hb⟩; exact ⟨rfl, hw.trans (hb.mono hw.size)⟩)
               go_big_quiet_on
               try simp only [Act.put, List.setIfInBounds_toArray, List.set_cons_zero, List.set_cons_succ]))
          refine wpQuiet_nil ?_
          intro w5 hq5
          have HB5 : Hid (Below w3.heap.size w3 w5) := bT HB.out hq5
          have HBw5 : Hid (Below w.heap.size w w5) := bT HBr.out hq5
          clear hq5
          go_wp2
          go_roundw
          case rel => exact ⟨0 + 1, by omega, by omega, by simp, HO3.out, HB5.out⟩
          case measure => simp [intOf]; omega
      | succ i =>
        have hi : i < l.length := by omega
        have HYi : Hid (∀ W, Below w.heap.size w W → W.cell? ⟨b0, o0 + i * 3, none⟩ = some (.int .i64 l[i].k) ∧ W.cell? ⟨b0, o0 + i * 3 + 1, none⟩ = some (.int .i64 l[i].n) ∧ W.cell? ⟨b0, o0 + i * 3 + 2, none⟩ = some (.string l[i].s)) := fun W h => HY2 W h i hi
        have he : elB l (i + 1) hlk = (chk1 l[i + 1] && (decide (l[i + 1].k = l[0].k) && decide (cfV l[i] l[i + 1] < 0))) := by unfold elB; simp
        have HOn2 : Hid ((chk1 l[i + 1] && (decide (l[i + 1].k = l[0].k) && decide (cfV l[i] l[i + 1] < 0))) = true → ∀ k (h : k < l.length), k < i + 1 + 1 → elB l k h = true) := fun h => HOn.out (by rw [he]; exact h)
        have HNj2 : Hid ((chk1 l[i + 1] && (decide (l[i + 1].k = l[0].k) && decide (cfV l[i] l[i + 1] < 0))) = false → Z = false) := fun h => HNj.out (by rw [he]; exact h)
        have HCmj : Hid (∀ W, Calls Tryz.prog 39 #[itV l[i], itV l[i + 1]] W fun e w' => e = .returned (.int .i64 (cfV l[i] l[i + 1])) ∧ Below W.heap.size W w') := fun W => HCm.out _ _ W
        clear HO HOn HNj he HCk HNo HYes HY HY2 HCm HTk
        generalize l[i + 1]'hlk = X at *
        generalize l[0]'(by omega) = Y0 at *
        generalize l[i]'hi = Y at *
        obtain ⟨Xk, Xn, Xs⟩ := X
        obtain ⟨Yk, Yn, Ys⟩ := Y
        obtain ⟨Y0k, Y0n, Y0s⟩ := Y0
        dsimp only at *
        generalize cfV ⟨Yk, Yn, Ys⟩ ⟨Xk, Xn, Xs⟩ = M at *
        generalize chk1 ⟨Xk, Xn, Xs⟩ = B at *
        have d0 : decide ((0 : Int) < ((i : Int) + 1)) = true := decide_eq_true (by omega)
        have d0n : decide (0 < i + 1) = true := decide_eq_true (by omega)
        have s1 : ((i : Int) + 1 - 1) = i := by omega
        have q1' : (0 : Int) ≤ (i : Int) + 1 := by omega
        have q2' : (i : Int) + 1 < (l.length : Int) := by omega
        have wi : IntKind.i64.wrap (i : Int) = (i : Int) := by rw [IntKind.wrap_i64]; omega
        have s2 : (0 : Int) ≤ (i : Int) := by omega
        have s3 : (i : Int) < (l.length : Int) := by omega
        cases B with
        | false =>
          have HZ : Hid (Z = false) := HNj2.out rfl
          clear HOn2 HNj2
          go_wp2_with fail
          clear c1_1 c1_2
          refine wp_region_quiet (C := fun w' => Below wr.heap.size wr w') (by kernel_rfl) (by kernel_rfl) ((Below.refl _ _).drew) ?_
          dsimp only
          repeat (first
            | go_big_quiet_skip
            | (go_big_quiet_want
               apply Exists.intro
               refine ⟨fun W' hW' => ?_, ?_⟩
               · have hw : Below wr.heap.size wr W' := hW'
                 obtain ⟨g0, g1, g2⟩ := HYj.out W' (bT HBr.out hw)
                 have g3 := HY0.out W' (bT HBr.out hw)
                 have hk := HKr.out W' hw
                 have k2 : W'.cell? ⟨w.heap.size, 2, none⟩ = some (.slice (some ⟨b0, o0, none⟩) l.length c) := by rw [Lib.cell_of_heap hk]; rfl
                 clear hk
                 go_simp
                 first
                   | done
                   | rfl
                   | (go_at_call 54; (with_reducible refine Calls.mono (HCj.out W') ?_); rintro e w'' ⟨rfl, hb⟩; exact ⟨rfl, hw.trans (hb.mono hw.size)⟩)
               go_big_quiet_on
               try simp only [Act.put, List.setIfInBounds_toArray, List.set_cons_zero, List.set_cons_succ]))
          refine wpQuiet_nil ?_
          intro w5 hq5
          have HB5 : Hid (Below w3.heap.size w3 w5) := bT HB.out hq5
          have HBw5 : Hid (Below w.heap.size w w5) := bT HBr.out hq5
          clear hq5
          go_wp2
          go_ret
          exact ⟨by rw [HZ.out]; rfl, HBw5.out⟩
        | true =>
          by_cases hk : Xk = Y0k
          · subst hk
            by_cases hM : M < 0
            · have HO3 : Hid (∀ k (h : k < l.length), k < i + 1 + 1 → elB l k h = true) := HOn2.out (by simp [hM])
              have dM : decide (0 ≤ M) = false := decide_eq_false (by omega)
              clear HOn2 HNj2
              go_wp2_with fail
              clear c1_1 c1_2
              refine wp_region_quiet (C := fun w' => Below wr.heap.size wr w') (by kernel_rfl) (by kernel_rfl) ((Below.refl _ _).drew) ?_
              dsimp only
              repeat (first
                | go_big_quiet_skip
                | (go_big_quiet_want
                   apply Exists.intro
                   refine ⟨fun W' hW' => ?_, ?_⟩
                   · have hw : Below wr.heap.size wr W' := hW'
                     obtain ⟨g0, g1, g2⟩ := HYj.out W' (bT HBr.out hw)
                     have g3 := HY0.out W' (bT HBr.out hw)
                     have hk := HKr.out W' hw
                     have k2 : W'.cell? ⟨w.heap.size, 2, none⟩ = some (.slice (some ⟨b0, o0, none⟩) l.length c) := by rw [Lib.cell_of_heap hk]; rfl
                     clear hk
                     obtain ⟨j0, j1, j2⟩ := HYi.out W' (bT HBr.out hw)
                     go_simp
                     first
                       | done
                       | rfl
                       | (go_at_call 54; (with_reducible refine Calls.mono (HCj.out W') ?_); rintro e w'' ⟨rfl, hb⟩; exact ⟨rfl, hw.trans (hb.mono hw.size)⟩)
                       | (go_at_call 39; (with_reducible refine Calls.mono (HCmj.out W') ?_); rintro e w'' ⟨rfl, hb⟩; exact ⟨rfl, hw.trans (hb.mono hw.size)⟩)
                   go_big_quiet_on
                   try simp only [Act.put, List.setIfInBounds_toArray, List.set_cons_zero, List.set_cons_succ]))
              refine wpQuiet_nil ?_
              intro w5 hq5
              have HB5 : Hid (Below w3.heap.size w3 w5) := bT HB.out hq5
              have HBw5 : Hid (Below w.heap.size w w5) := bT HBr.out hq5
              clear hq5
              go_wp2
              go_roundw
              case rel => exact ⟨i + 1 + 1, by omega, by omega, by simp, HO3.out, HB5.out⟩
              case measure => simp [intOf]; omega
            · have HZ : Hid (Z = false) := HNj2.out (by simp [hM])
              have dM : decide (0 ≤ M) = true := decide_eq_true (by omega)
              clear HOn2 HNj2
              go_wp2_with fail
              clear c1_1 c1_2
              refine wp_region_quiet (C := fun w' => Below wr.heap.size wr w') (by kernel_rfl) (by kernel_rfl) ((Below.refl _ _).drew) ?_
              dsimp only
              repeat (first
                | go_big_quiet_skip
                | (go_big_quiet_want
                   apply Exists.intro
                   refine ⟨fun W' hW' => ?_, ?_⟩
                   · have hw : Below wr.heap.size wr W' := hW'
                     obtain ⟨g0, g1, g2⟩ := HYj.out W' (bT HBr.out hw)
                     have g3 := HY0.out W' (bT HBr.out hw)
                     have hk := HKr.out W' hw
                     have k2 : W'.cell? ⟨w.heap.size, 2, none⟩ = some (.slice (some ⟨b0, o0, none⟩) l.length c) := by rw [Lib.cell_of_heap hk]; rfl
                     clear hk
                     obtain ⟨j0, j1, j2⟩ := HYi.out W' (bT HBr.out hw)
                     go_simp
                     first
                       | done
                       | rfl
                       | (go_at_call 54; (with_reducible refine Calls.mono (HCj.out W') ?_); rintro e w'' ⟨rfl, hb⟩; exact ⟨rfl, hw.trans (hb.mono hw.size)⟩)
                       | (go_at_call 39; (with_reducible refine Calls.mono (HCmj.out W') ?_); rintro e w'' ⟨rfl, hb⟩; exact ⟨rfl, hw.trans (hb.mono hw.size)⟩)
                   go_big_quiet_on
                   try simp only [Act.put, List.setIfInBounds_toArray, List.set_cons_zero, List.set_cons_succ]))
              refine wpQuiet_nil ?_
              intro w5 hq5
              have HB5 : Hid (Below w3.heap.size w3 w5) := bT HB.out hq5
              have HBw5 : Hid (Below w.heap.size w w5) := bT HBr.out hq5
              clear hq5
              go_wp2
              go_ret
              exact ⟨by rw [HZ.out]; rfl, HBw5.out⟩
          · have HZ : Hid (Z = false) := HNj2.out (by simp [hk])
            have dk : (Xk != Y0k) = true := by simp [hk]
            clear HOn2 HNj2
            go_wp2_with fail
            clear c1_1 c1_2
            refine wp_region_quiet (C := fun w' => Below wr.heap.size wr w') (by kernel_rfl) (by kernel_rfl) ((Below.refl _ _).drew) ?_
            dsimp only
            repeat (first
              | go_big_quiet_skip
              | (go_big_quiet_want
                 apply Exists.intro
                 refine ⟨fun W' hW' => ?_, ?_⟩
                 · have hw : Below wr.heap.size wr W' := hW'
                   obtain ⟨g0, g1, g2⟩ := HYj.out W' (bT HBr.out hw)
                   have g3 := HY0.out W' (bT HBr.out hw)
                   have hk := HKr.out W' hw
                   have k2 : W'.cell? ⟨w.heap.size, 2, none⟩ = some (.slice (some ⟨b0, o0, none⟩) l.length c) := by rw [Lib.cell_of_heap hk]; rfl
                   clear hk
                   go_simp
                   first
                     | done
                     | rfl
                     | (go_at_call 54; (with_reducible refine Calls.mono (HCj.out W') ?_); rintro e w'' ⟨rfl, hb⟩; exact ⟨rfl, hw.trans (hb.mono hw.size)⟩)
                 go_big_quiet_on
                 try simp only [Act.put, List.setIfInBounds_toArray, List.set_cons_zero, List.set_cons_succ]))
            refine wpQuiet_nil ?_
            intro w5 hq5
            have HB5 : Hid (Below w3.heap.size w3 w5) := bT HB.out hq5
            have HBw5 : Hid (Below w.heap.size w w5) := bT HBr.out hq5
            clear hq5
            go_wp2
            go_ret
            exact ⟨by rw [HZ.out]; rfl, HBw5.out⟩
    · have HZ : Hid (Z = tailB o l) := HYes.out fun i hi h16 => HO.out i hi (by omega)
      have HLt : Hid (j < l.length → j = 17) := fun h => by
        have hh : j < l.length := h
        omega
      have HLl : Hid (l.length ≤ 1000000) := n2
      clear HO HNo HYes HCk HCm hj hlk
      have hcond : (decide ((j : Int) < (l.length : Int)) && decide ((j : Int) ≤ 16)) = false := by
        by_cases h : j < l.length
        · have := HLt.out h
          subst this
          simp
        · rw [decide_eq_false (by omega)]
          rfl
      obtain ⟨Q, hQ⟩ : ∃ Q, decide ((j : Int) < (l.length : Int)) = Q := ⟨_, rfl⟩
      rw [hQ] at hcond
      have hcut : Q = false ∨ (Q = true ∧ decide ((j : Int) ≤ 16) = false) := by
        cases Q with
        | false => exact .inl rfl
        | true => exact .inr ⟨rfl, by simpa using hcond⟩
      clear hcond HLt
      have hT : tailB o l = if o = 1 then decide (l.length = 0) else if o = 9 then decide (1 ≤ l.length) && decide (l.length ≤ 16) else oneT o l := rfl
      rw [hT] at HZ
      clear hT
      obtain ⟨LN, hLN⟩ : ∃ LN, LN = l.length := ⟨_, rfl⟩
      have HKn : Hid (∀ W, Below wr.heap.size wr W → W.heap[w.heap.size]? = some (.cells #[.string n, .int .i64 o, .slice a LN c] 49 (0, 0))) := by rw [hLN]; exact HKr
      rw [← hLN] at HZ c1_2 hQ HLl
      have HLn : Hid (LN = l.length) := hLN
      clear HKr hLN n2 HK
      have hcut' : (¬ j < LN ∧ Q = false) ∨ ((j < LN ∧ ¬ j ≤ 16) ∧ Q = true) := by
        rcases hcut with rfl | ⟨rfl, h16⟩
        · exact .inl ⟨by have := of_decide_eq_false hQ; omega, rfl⟩
        · exact .inr ⟨⟨by have := of_decide_eq_true hQ; omega, by have := of_decide_eq_false h16; omega⟩, rfl⟩
      clear hcut
      rcases hcut' with ⟨hnl, rfl⟩ | ⟨⟨hnl, h16⟩, rfl⟩
      · by_cases h1 : o = 1
        · subst h1
          rw [if_pos rfl] at HZ
          have d : (((LN : Int)) == 0) = decide (LN = 0) := by rw [Bool.eq_iff_iff, beq_iff_eq, decide_eq_true_eq]; omega
          have d' : decide ((LN : Int) = 0) = decide (LN = 0) := by rw [Bool.eq_iff_iff, decide_eq_true_eq, decide_eq_true_eq]; omega
          obtain rfl := HZ.out
          clear HZ
          go_wp2
          go_ret
          exact ⟨by first | rfl | (rw [d]; rfl) | (rw [d']; rfl) | simp [d, d'], HBr.out⟩
        rw [if_neg h1] at HZ
        have n1 : (o == 1) = false := by simp [h1]
        have n1' : decide (o = 1) = false := decide_eq_false h1
        by_cases h9 : o = 9
        · subst h9
          rw [if_pos rfl] at HZ
          by_cases hl1 : 1 ≤ LN
          · have d : decide ((1 : Int) ≤ (LN : Int)) = true := decide_eq_true (by omega)
            have d2 : decide ((LN : Int) ≤ 16) = decide (LN ≤ 16) := by rw [Bool.eq_iff_iff, decide_eq_true_eq, decide_eq_true_eq]; omega
            rw [decide_eq_true hl1, Bool.true_and] at HZ
            obtain rfl := HZ.out
            have D2 : Hid (decide ((LN : Int) ≤ 16) = decide (LN ≤ 16)) := d2
            clear HZ d2 h1 hl1
            go_wp2
            go_ret
            exact ⟨by first | rfl | (rw [D2.out]; rfl) | simp [D2.out], HBr.out⟩
          · have d : decide ((1 : Int) ≤ (LN : Int)) = false := decide_eq_false (by omega)
            rw [decide_eq_false hl1, Bool.false_and] at HZ
            obtain rfl := HZ.out
            clear HZ h1 hl1
            go_wp2
            go_ret
            exact ⟨by first | rfl | simp, HBr.out⟩
        rw [if_neg h9] at HZ
        have n9 : (o == 9) = false := by simp [h9]
        have n9' : decide (o = 9) = false := decide_eq_false h9
        clear h1 h9
        by_cases hl1 : LN = 1
        · subst hl1
          obtain ⟨y, rfl⟩ : ∃ y, l = [y] := List.length_eq_one_iff.1 HLn.out.symm
          obtain ⟨b0, o0, rfl, -, g0, -, -⟩ := items_at (HR.out w (Below.refl _ _)) 0 (by simp)
          simp only [Nat.zero_mul, Nat.add_zero, List.getElem_cons_zero] at g0
          have HY0 : Hid (∀ W, Below w.heap.size w W → W.cell? ⟨b0, o0, none⟩ = some (.int .i64 y.k)) := fun W h => by
            obtain ⟨b', o', hv, -, p0, -, -⟩ := items_at (HR.out W h) 0 (by simp)
            simp only [Option.some.injEq, Addr.mk.injEq] at hv
            obtain ⟨rfl, rfl, -⟩ := hv
            simp only [Nat.zero_mul, Nat.add_zero, List.getElem_cons_zero] at p0
            exact p0
          have HT1 : Hid (∀ W, Calls Tryz.prog 55 #[.int .i64 o, .int .i64 y.k] W fun e w' => e = .returned (.bool (tkB o y.k)) ∧ w' = W) := fun W => HTk.out _ W
          have hz' : Z = tkB o y.k := HZ.out
          have HZ2 : Hid (Z = tkB o y.k) := hz'
          clear g0 HTk hz' HZ HLn HLl
          generalize tkB o y.k = TK at *
          obtain ⟨yk, yn, ys⟩ := y
          have HZ' : Hid (Z = TK) := HZ2.out
          clear HZ2
          go_wp2_with fail
          clear c1_1 c1_2
          refine wp_region_quiet (C := fun w' => Below wr.heap.size wr w') (by kernel_rfl) (by kernel_rfl) ((Below.refl _ _).drew) ?_
          dsimp only
          repeat (first
            | go_big_quiet_skip
            | (go_big_quiet_want
               apply Exists.intro
               refine ⟨fun W' hW' => ?_, ?_⟩
               · have hw : Below wr.heap.size wr W' := hW'
                 have g3 := HY0.out W' (bT HBr.out hw)
                 have hk := HKn.out W' hw
                 have k1 : W'.cell? ⟨w.heap.size, 1, none⟩ = some (.int .i64 o) := by rw [Lib.cell_of_heap hk]; rfl
                 have k2 : W'.cell? ⟨w.heap.size, 2, none⟩ = some (.slice (some ⟨b0, o0, none⟩) 1 c) := by rw [Lib.cell_of_heap hk]; rfl
                 clear hk
                 go_simp
                 first
                   | done
                   | rfl
                   | (go_at_call 55; (with_reducible refine Calls.mono (HT1.out W') ?_); rintro e w'' ⟨rfl, rfl⟩; exact ⟨rfl, hw⟩)
               go_big_quiet_on
               try simp only [Act.put, List.setIfInBounds_toArray, List.set_cons_zero, List.set_cons_succ]))
          refine wpQuiet_nil ?_
          intro w5 hq5
          have HBw5 : Hid (Below w.heap.size w w5) := bT HBr.out hq5
          clear hq5
          go_wp2
          go_ret
          exact ⟨by rw [HZ'.out]; rfl, HBw5.out⟩
        · have hZf : Z = false := by
            rw [HZ.out]
            have hll : ¬ l.length = 1 := fun e => hl1 (HLn.out.trans e)
            clear HR HKn HZ HLn c1_2
            match l, hll with
            | [], _ => rfl
            | [_], h => exact absurd rfl h
            | _ :: _ :: _, _ => rfl
          have HZ' : Hid (Z = false) := hZf
          have d : (((LN : Int)) == 1) = false := by rw [beq_eq_false_iff_ne]; omega
          have d' : decide ((LN : Int) = 1) = false := decide_eq_false (by omega)
          have d'' : (LN == 1) = false := by rw [beq_eq_false_iff_ne]; omega
          clear hZf HZ hl1 HLl HR HLn
          go_wp2_with fail
          clear c1_1 c1_2
          refine wp_region_quiet (C := fun w' => Below wr.heap.size wr w') (by kernel_rfl) (by kernel_rfl) ((Below.refl _ _).drew) ?_
          dsimp only
          repeat (first
            | go_big_quiet_skip
            | (go_big_quiet_want
               apply Exists.intro
               refine ⟨fun W' hW' => ?_, ?_⟩
               · have hw : Below wr.heap.size wr W' := hW'
                 have hk := HKn.out W' hw
                 have k1 : W'.cell? ⟨w.heap.size, 1, none⟩ = some (.int .i64 o) := by rw [Lib.cell_of_heap hk]; rfl
                 have k2 : W'.cell? ⟨w.heap.size, 2, none⟩ = some (.slice a LN c) := by rw [Lib.cell_of_heap hk]; rfl
                 clear hk
                 go_simp
                 first
                   | done
                   | rfl
               go_big_quiet_on
               try simp only [Act.put, List.setIfInBounds_toArray, List.set_cons_zero, List.set_cons_succ]))
          refine wpQuiet_nil ?_
          intro w5 hq5
          have HBw5 : Hid (Below w.heap.size w w5) := bT HBr.out hq5
          clear hq5
          go_wp2
          go_ret
          exact ⟨by rw [HZ'.out]; rfl, HBw5.out⟩
      · by_cases h1 : o = 1
        · subst h1
          rw [if_pos rfl] at HZ
          have d : (((LN : Int)) == 0) = decide (LN = 0) := by rw [Bool.eq_iff_iff, beq_iff_eq, decide_eq_true_eq]; omega
          have d' : decide ((LN : Int) = 0) = decide (LN = 0) := by rw [Bool.eq_iff_iff, decide_eq_true_eq, decide_eq_true_eq]; omega
          obtain rfl := HZ.out
          clear HZ
          go_wp2
          go_ret
          exact ⟨by first | rfl | (rw [d]; rfl) | (rw [d']; rfl) | simp [d, d'], HBr.out⟩
        rw [if_neg h1] at HZ
        have n1 : (o == 1) = false := by simp [h1]
        have n1' : decide (o = 1) = false := decide_eq_false h1
        by_cases h9 : o = 9
        · subst h9
          rw [if_pos rfl] at HZ
          by_cases hl1 : 1 ≤ LN
          · have d : decide ((1 : Int) ≤ (LN : Int)) = true := decide_eq_true (by omega)
            have d2 : decide ((LN : Int) ≤ 16) = decide (LN ≤ 16) := by rw [Bool.eq_iff_iff, decide_eq_true_eq, decide_eq_true_eq]; omega
            rw [decide_eq_true hl1, Bool.true_and] at HZ
            obtain rfl := HZ.out
            have D2 : Hid (decide ((LN : Int) ≤ 16) = decide (LN ≤ 16)) := d2
            clear HZ d2 h1 hl1
            go_wp2
            go_ret
            exact ⟨by first | rfl | (rw [D2.out]; rfl) | simp [D2.out], HBr.out⟩
          · have d : decide ((1 : Int) ≤ (LN : Int)) = false := decide_eq_false (by omega)
            rw [decide_eq_false hl1, Bool.false_and] at HZ
            obtain rfl := HZ.out
            clear HZ h1 hl1
            go_wp2
            go_ret
            exact ⟨by first | rfl | simp, HBr.out⟩
        rw [if_neg h9] at HZ
        have n9 : (o == 9) = false := by simp [h9]
        have n9' : decide (o = 9) = false := decide_eq_false h9
        clear h1 h9
        by_cases hl1 : LN = 1
        · exfalso
          omega
        · have hZf : Z = false := by
            rw [HZ.out]
            have hll : ¬ l.length = 1 := fun e => hl1 (HLn.out.trans e)
            clear HR HKn HZ HLn c1_2
            match l, hll with
            | [], _ => rfl
            | [_], h => exact absurd rfl h
            | _ :: _ :: _, _ => rfl
          have HZ' : Hid (Z = false) := hZf
          have d : (((LN : Int)) == 1) = false := by rw [beq_eq_false_iff_ne]; omega
          have d' : decide ((LN : Int) = 1) = false := decide_eq_false (by omega)
          have d'' : (LN == 1) = false := by rw [beq_eq_false_iff_ne]; omega
          clear hZf HZ hl1 HLl HR HLn
          go_wp2_with fail
          clear c1_1 c1_2
          refine wp_region_quiet (C := fun w' => Below wr.heap.size wr w') (by kernel_rfl) (by kernel_rfl) ((Below.refl _ _).drew) ?_
          dsimp only
          repeat (first
            | go_big_quiet_skip
            | (go_big_quiet_want
               apply Exists.intro
               refine ⟨fun W' hW' => ?_, ?_⟩
               · have hw : Below wr.heap.size wr W' := hW'
                 have hk := HKn.out W' hw
                 have k1 : W'.cell? ⟨w.heap.size, 1, none⟩ = some (.int .i64 o) := by rw [Lib.cell_of_heap hk]; rfl
                 have k2 : W'.cell? ⟨w.heap.size, 2, none⟩ = some (.slice a LN c) := by rw [Lib.cell_of_heap hk]; rfl
                 clear hk
                 go_simp
                 first
                   | done
                   | rfl
               go_big_quiet_on
               try simp only [Act.put, List.setIfInBounds_toArray, List.set_cons_zero, List.set_cons_succ]))
          refine wpQuiet_nil ?_
          intro w5 hq5
          have HBw5 : Hid (Below w.heap.size w w5) := bT HBr.out hq5
          clear hq5
          go_wp2
          go_ret
          exact ⟨by rw [HZ'.out]; rfl, HBw5.out⟩
set_option maxRecDepth 100000 in
set_option maxHeartbeats 4000000 in
theorem check8_any (v : Value) (F : List PR) (D : List Pd) (w : World) (hr : IsFl w v F) (hD : F.map (·.y) = D) (hl : F.length ≤ 1000000) (hn : ∀ y ∈ D, NmP y) :
    Calls Tryz.prog 11 #[v] w fun e w' => e = .returned (.bool (chkFl D)) ∧ Below w.heap.size w w' := by
  obtain ⟨a0, c0, rfl⟩ := hr.1.form
  have HR : Hid (∀ W, Below w.heap.size w W → IsRow W 3 (.slice a0 F.length c0) F.length (pCells F)) := fun W hb => hr.1.below hb
  have HM : Hid (∀ i (hi : i < F.length) W, Below w.heap.size w W → Calls Tryz.prog 29 #[prV F[i]] W fun e w' => e = .returned (.bool (mayP F[i].y)) ∧ Below W.heap.size W w') := fun i hi W hb => may8_any F[i] W ((hr.2 _ (List.getElem_mem hi)).below hb) (hn _ (by rw [← hD]; exact List.mem_map.2 ⟨F[i], List.getElem_mem hi, rfl⟩))
  have hDl : D.length = F.length := by rw [← hD, List.length_map]
  have HNo : Hid (∀ i (hi : i < F.length), mayP F[i].y = false → chkFl D = false) := fun i hi h => by
    unfold chkFl
    have : D.all mayP = false := by
      rw [← hD, List.all_eq_false]
      exact ⟨F[i].y, List.mem_map.2 ⟨F[i], List.getElem_mem hi, rfl⟩, by rw [h]; decide⟩
    rw [this, Bool.and_false]
  have HBig : Hid (12 < F.length → chkFl D = false) := fun h => by
    unfold chkFl
    rw [hDl, decide_eq_false (by omega)]
    rfl
  have HYes : Hid (F.length ≤ 12 → (∀ i (hi : i < F.length), mayP F[i].y = true) → chkFl D = true) := fun h12 h => by
    unfold chkFl
    rw [hDl, decide_eq_true h12, Bool.true_and, ← hD, List.all_eq_true]
    intro y hy
    obtain ⟨x, hx, rfl⟩ := List.mem_map.1 hy
    obtain ⟨i, hi, rfl⟩ := List.mem_iff_getElem.1 hx
    exact h i hi
  generalize chkFl D = Z at *
  clear hr hD hn hDl
  go_enter Tryz.func11, Tryz.ntmps11
  go_wp2_with fail
  go_loopw [3] (fun i wr => ∃ j : Nat, j ≤ F.length ∧ j ≤ 13 ∧ i = .int .i64 (j : Int) ∧ Hid (∀ k (h : k < F.length), k < j → mayP F[k].y = true) ∧ Hid (Below w.heap.size w wr)) (fun i _ => F.length - (intOf i).toNat)
  case atStart => exact ⟨0, by omega, by omega, rfl, (fun k h hj => absurd hj (Nat.not_lt_zero _)), Below.refl _ _⟩
  case round =>
    obtain ⟨j, hj, hj13, rfl, HO, HB⟩ := hrel
    by_cases hlk : j < F.length ∧ j ≤ 12
    · obtain ⟨hlk, h12⟩ := hlk
      have dj : decide ((j : Int) < (F.length : Int)) = true := by simp; omega
      have d12 : decide ((j : Int) ≤ 12) = true := decide_eq_true (by omega)
      obtain ⟨b0, o0, rfl, hlt, c0', c1, c2⟩ := p_at (HR.out wr HB.out) j hlk
      have q1 : (0 : Int) ≤ (j : Int) := by omega
      have q2 : (j : Int) < (F.length : Int) := by omega
      have HMj : Hid (∀ W, Below w.heap.size w W → Calls Tryz.prog 29 #[prV F[j]] W fun e w' => e = .returned (.bool (mayP F[j].y)) ∧ Below W.heap.size W w') := fun W hb => HM.out j hlk W hb
      have HOn : Hid (mayP F[j].y = true → ∀ k (h : k < F.length), k < j + 1 → mayP F[k].y = true) := fun hs k h hk => by
        by_cases e : k = j
        · subst e; exact hs
        · exact HO.out k h (by omega)
      have HNj : Hid (mayP F[j].y = false → Z = false) := fun h => HNo.out j hlk h
      clear HO HM HNo HYes HBig
      generalize mayP F[j].y = B at *
      generalize F[j]'hlk = x at *
      obtain ⟨⟨n, o, l⟩, a, c⟩ := x
      dsimp only [prV, PR.v] at *
      go_wp2_with fail
      refine (HMj.out _ HB.out).mono ?_
      rintro e w3 ⟨rfl, hb⟩
      have HB3 : Hid (Below w.heap.size w w3) := bT HB.out hb
      clear hb HMj c0' c1 c2
      cases B with
      | false =>
        have HZ : Hid (Z = false) := HNj.out rfl
        go_wp2
        go_ret
        exact ⟨by rw [HZ.out]; rfl, HB3.out⟩
      | true =>
        have HO3 : Hid (∀ k (h : k < F.length), k < j + 1 → mayP F[k].y = true) := HOn.out rfl
        go_wp2
        go_roundw
        case rel => exact ⟨j + 1, by omega, by omega, by simp, HO3.out, HB3.out⟩
        case measure => simp [intOf]; omega
    · by_cases h12 : F.length ≤ 12
      · have hjl : j = F.length := by omega
        have HZ : Hid (Z = true) := HYes.out h12 fun i hi => HO.out i hi (by omega)
        have dj : decide ((j : Int) < (F.length : Int)) = false := by simp; omega
        have d12 : decide ((F.length : Int) ≤ 12) = true := decide_eq_true (by omega)
        have hnl : ¬ j < F.length := by omega
        clear HO HM HNo HYes HBig HR hlk hjl
        go_wp2
        go_ret
        exact ⟨by rw [HZ.out]; rfl, HB.out⟩
      · have hjl : j = 13 := by omega
        subst hjl
        have HZ : Hid (Z = false) := HBig.out (by omega)
        have d12 : decide ((F.length : Int) ≤ 12) = false := decide_eq_false (by omega)
        have hnl : 13 < F.length ∨ ¬ 13 < F.length := Nat.lt_or_ge 13 _ |>.imp id Nat.not_lt.2
        have h13 : ¬ (13 : Int) ≤ 12 := by decide
        clear HO HM HNo HYes HBig HR hlk hj
        rcases hnl with hnl | hnl <;> (
          have hnl' : ¬ F.length ≤ 12 := by omega
          go_wp2
          go_ret
          exact ⟨by rw [HZ.out]; rfl, HB.out⟩)
end Go.Proofs.YtbekpemidpngaaaGreatDoor
