/- filter.Fits: its walk. -/
import Derived.Test.YtjamkfkbajhefaaGreatDoorZk20
import Derived.Test.YtjamkfkbajhefaaGreatDoorZk8
import Derived.WalkMore
namespace Go.Proofs.YtjamkfkbajhefaaGreatDoor.F
open Go.RowKit Go.ChangeMaps

/-- Can a predicate be asked of a schema? -/
def stF (l : List Fd) (y : Pd) : Int := match getF l y.n with
  | none => 4
  | some f => match y.l with
    | [] => 0
    | x0 :: _ => if x0.k = f.k then 0 else 8
def fgo (l : List Fd) : List Pd → Int
  | [] => 0
  | y :: D => if stF l y = 0 then fgo l D else stF l y
def fitsX (l : List Fd) (D : List Pd) : Int := if (chkF l && chkFl D) = true then fgo l D else 1
theorem fgo_all {l : List Fd} : ∀ {D : List Pd}, (∀ i (h : i < D.length), stF l D[i] = 0) → fgo l D = 0
  | [], _ => rfl
  | y :: D, h => by
    have h0 : stF l y = 0 := h 0 (by simp)
    unfold fgo
    rw [if_pos h0]
    exact fgo_all fun i hi => h (i + 1) (by simp; omega)
theorem fgo_at {l : List Fd} : ∀ {D : List Pd} {j : Nat} (hj : j < D.length), (∀ i (h : i < D.length), i < j → stF l D[i] = 0) → stF l D[j] ≠ 0 → fgo l D = stF l D[j]
  | [], _, hj, _, _ => absurd hj (by simp)
  | y :: D, 0, _, _, hne => by
    have h0 : ¬ stF l y = 0 := hne
    unfold fgo
    rw [if_neg h0]
    rfl
  | y :: D, j + 1, hj, h, hne => by
    have h0 : stF l y = 0 := h 0 (by simp) (by omega)
    unfold fgo
    rw [if_pos h0]
    exact fgo_at (j := j) (by simpa using hj) (fun i hi hij => h (i + 1) (by simp; omega) (by omega)) hne
theorem stF_none {l : List Fd} {y : Pd} (h : getF l y.n = none) : stF l y = 4 := by unfold stF; rw [h]
theorem stF_nil {l : List Fd} {y : Pd} {f : Fd} (h : getF l y.n = some f) (hl : y.l = []) : stF l y = 0 := by unfold stF; rw [h, hl]
theorem stF_cons {l : List Fd} {y : Pd} {f : Fd} {x0 : It} {r : List It} (h : getF l y.n = some f) (hl : y.l = x0 :: r) : stF l y = if x0.k = f.k then 0 else 8 := by unfold stF; rw [h, hl]
theorem may_one {y : Pd} (h : mayP y = true) : y.o = 1 ↔ y.l = [] := by
  constructor
  · intro h1
    unfold mayP at h
    rw [Bool.and_eq_true] at h
    have h2 := h.1
    unfold valsB at h2
    rw [if_pos h1, decide_eq_true_eq] at h2
    exact List.eq_nil_of_length_eq_zero h2
  · intro hl
    by_cases h1 : y.o = 1
    · exact h1
    · exact absurd hl (may_ne h h1)
set_option maxRecDepth 100000 in
set_option maxHeartbeats 8000000 in
theorem fitsP_any (u : Value) (l : List Fd) (v : Value) (F : List PR) (D : List Pd) (w : World) (hu : IsRow w 3 u l.length (fCells l)) (hll : l.length ≤ 1000000) (hv : IsFl w v F) (hD : F.map (·.y) = D) (hl : F.length ≤ 1000000) (hn : ∀ y ∈ D, NmP y) (hnl : NmF l) (hT : UT w) (hM : ML w) :
    Calls Tryz.prog 9 #[u, v] w fun e w' => e = .returned (.int .i64 (fitsX l D)) ∧ Below w.heap.size w w' := by
  obtain ⟨a0, c0, rfl⟩ := hu.form
  obtain ⟨a1, c1, rfl⟩ := hv.1.form
  have hDl : D.length = F.length := by rw [← hD, List.length_map]
  have HS : Hid (Calls Tryz.prog 24 #[.slice a0 l.length c0] w fun e w' => e = .returned (.bool (chkF l)) ∧ Below w.heap.size w w') := checkF_any _ l w hu hll hnl hT hM
  have HP : Hid (∀ W, Below w.heap.size w W → Calls Tryz.prog 25 #[.slice a1 F.length c1] W fun e w' => e = .returned (.bool (chkFl D)) ∧ Below W.heap.size W w') := fun W hb => checkP_any _ F D W (hv.below hb) hD hl hn (Utf8Tabs_below hT hb)
  have HFi : Hid (∀ i (h : i < F.length), ∀ W, Below w.heap.size w W → Calls Tryz.prog 26 #[.slice a0 l.length c0, .string F[i].y.n] W fun e w' => e = .returned (.tuple #[fV ((getF l F[i].y.n).getD zF), .bool (getF l F[i].y.n).isSome]) ∧ Below W.heap.size W w') := fun i h W hb => find_any _ l _ W (hu.below hb) hll hnl (Nat.le_trans (hn _ (by rw [← hD]; exact List.mem_map.2 ⟨F[i], List.getElem_mem h, rfl⟩)).1 (by decide)) (Utf8Tabs_below hT hb)
  clear hnl hT hM
  have HR : Hid (∀ W, Below w.heap.size w W → IsFl W (.slice a1 F.length c1) F) := fun W hb => hv.below hb
  have HU : Hid (IsRow w 3 (.slice a0 l.length c0) l.length (fCells l)) := hu
  have hEl : ∀ i (h : i < F.length) (h2 : i < D.length), D[i] = F[i].y := fun i h h2 => by
    have e : D[i] = (F.map (·.y))[i]'(by rw [List.length_map]; exact h) := by simp only [hD]
    rw [e, List.getElem_map]
  have HMy : Hid (chkFl D = true → ∀ i (h : i < F.length), mayP F[i].y = true) := fun hc i h => chk_may hc _ (by rw [← hD]; exact List.mem_map.2 ⟨F[i], List.getElem_mem h, rfl⟩)
  have HAt : Hid (∀ j (h : j < F.length), (∀ i (hi : i < F.length), i < j → stF l F[i].y = 0) → stF l F[j].y ≠ 0 → fgo l D = stF l F[j].y) := fun j h h1 h2 => by
    rw [← hEl j h (by omega)] at h2 ⊢
    exact fgo_at _ (fun i hi hij => by rw [hEl i (by omega)]; exact h1 i (by omega) hij) h2
  have HAll : Hid ((∀ i (hi : i < F.length), stF l F[i].y = 0) → fgo l D = 0) := fun h => fgo_all fun i hi => by rw [hEl i (by omega)]; exact h i (by omega)
  obtain ⟨R, hR⟩ : ∃ R, fitsX l D = R := ⟨_, rfl⟩
  rw [hR]
  have HRs : Hid ((if (chkF l && chkFl D) = true then fgo l D else 1) = R) := hR
  clear hR
  generalize fgo l D = Z at *
  generalize chkF l = X1 at *
  generalize chkFl D = X2 at *
  clear hu hv hD hn hDl hEl
  go_enter Tryz.func9, Tryz.ntmps9
  go_wp2_with fail
  refine HS.out.mono ?_
  rintro e w1 ⟨rfl, hb⟩
  have B1 : Hid (Below w.heap.size w w1) := hb
  clear hb HS
  cases X1 with
  | false =>
    obtain rfl : (1 : Int) = R := HRs.out
    go_wp2
    go_ret
    exact ⟨rfl, B1.out⟩
  | true =>
  go_wp2_with fail
  refine (HP.out _ B1.out).mono ?_
  rintro e w2 ⟨rfl, hb⟩
  have B2 : Hid (Below w.heap.size w w2) := bT B1.out hb
  clear hb HP
  cases X2 with
  | false =>
    obtain rfl : (1 : Int) = R := HRs.out
    go_wp2
    go_ret
    exact ⟨rfl, B2.out⟩
  | true =>
  obtain rfl : Z = R := HRs.out
  clear HRs
  have HMy2 : Hid (∀ i (h : i < F.length), mayP F[i].y = true) := HMy.out (by trivial)
  clear HMy
  go_wp2_with fail
  go_loopw [19] (fun i wr => ∃ j : Nat, j ≤ F.length ∧ i = .int .i64 (j : Int) ∧ Hid (∀ i (hi : i < F.length), i < j → stF l F[i].y = 0) ∧ Hid (Below w.heap.size w wr)) (fun i _ => F.length - (intOf i).toNat)
  case atStart => exact ⟨0, by omega, rfl, (fun k h hj => absurd hj (Nat.not_lt_zero _)), B2.out⟩
  case round =>
    obtain ⟨j, hj, rfl, HO, HB⟩ := hrel
    by_cases hlk : j < F.length
    · have dj : decide ((j : Int) < (F.length : Int)) = true := by simp; omega
      obtain ⟨b0, o0, rfl, hlt, p0, p1, p2⟩ := p_at (HR.out w (Below.refl _ _)).1 j hlk
      have HY : Hid (∀ W, Below w.heap.size w W → W.cell? ⟨b0, o0 + j * 3, none⟩ = some (.string F[j].y.n) ∧ W.cell? ⟨b0, o0 + j * 3 + 1, none⟩ = some (.int .i64 F[j].y.o) ∧ W.cell? ⟨b0, o0 + j * 3 + 2, none⟩ = some F[j].v) := fun W h => ⟨(h.cell (p := ⟨b0, _, none⟩) hlt).trans p0, (h.cell (p := ⟨b0, _, none⟩) hlt).trans p1, (h.cell (p := ⟨b0, _, none⟩) hlt).trans p2⟩
      have q1 : (0 : Int) ≤ (j : Int) := by omega
      have q2 : (j : Int) < (F.length : Int) := by omega
      have HRj : Hid (∀ W, Below w.heap.size w W → IsRow W 3 F[j].v F[j].y.l.length (itCells F[j].y.l)) := fun W hb => (HR.out W hb).2 _ (List.getElem_mem hlk)
      have HMj : Hid (mayP F[j].y = true) := HMy2.out j hlk
      have HFj := HFi.out j hlk
      have HO2 : Hid (stF l F[j].y = 0 → ∀ i (hi : i < F.length), i < j + 1 → stF l F[i].y = 0) := fun hs k h hk => by
        by_cases e : k = j
        · subst e; exact hs
        · exact HO.out k h (by omega)
      have HN : Hid (stF l F[j].y ≠ 0 → Z = stF l F[j].y) := fun h => HAt.out j hlk (fun i hi hij => HO.out i hi hij) h
      clear hlt p0 p1 p2 HO HAt HAll HMy2 HFi HR
      generalize F[j]'hlk = x at *
      obtain ⟨⟨n, o, m⟩, a, c⟩ := x
      dsimp only [PR.v] at HY HRj HN HO2 HFj HMj
      have HFj' : Hid (∀ W, Below w.heap.size w W → Calls Tryz.prog 26 #[.slice a0 l.length c0, .string n] W fun e w' => e = .returned (.tuple #[fV ((getF l n).getD zF), .bool (getF l n).isSome]) ∧ Below W.heap.size W w') := HFj
      clear HFj
      obtain ⟨g0, g1, g2⟩ := HY.out wr HB.out
      obtain ⟨wa, hwa⟩ : ∃ wa, wa = wr.alloc (.cells #[.string n, .int .i64 o, .slice a m.length c] 59) := ⟨_, rfl⟩
      have HBa : Hid (Below w.heap.size w wa) := by show Below _ _ _; rw [hwa]; exact bT HB.out (al_f _ _)
      have hka : wa.heap[wr.heap.size]? = some (.cells #[.string n, .int .i64 o, .slice a m.length c] 59 (0, 0)) := by rw [hwa]; exact nw_at _ _
      have HKa : Hid (∀ W, Below wa.heap.size wa W → W.heap[wr.heap.size]? = some (.cells #[.string n, .int .i64 o, .slice a m.length c] 59 (0, 0))) := fun W h => (h.block _ (Array.getElem?_eq_some_iff.1 hka).1).trans hka
      have r0 : wa.cell? ⟨wr.heap.size, 0, none⟩ = some (.string n) := by rw [Lib.cell_of_heap hka]; rfl
      have r1 : wa.cell? ⟨wr.heap.size, 1, none⟩ = some (.int .i64 o) := by rw [Lib.cell_of_heap hka]; rfl
      have r2 : wa.cell? ⟨wr.heap.size, 2, none⟩ = some (.slice a m.length c) := by rw [Lib.cell_of_heap hka]; rfl
      clear hka
      rw [hwa] at r0 r1 r2
      go_wp2_with fail
      rw [← hwa]
      clear hwa g0 g1 g2 r0 r1 r2
      refine (HFj'.out _ HBa.out).mono ?_
      rintro e w5 ⟨rfl, hb⟩
      have Ba5 : Hid (Below wa.heap.size wa w5) := hb
      have HB5 : Hid (Below w.heap.size w w5) := bT HBa.out hb
      clear hb HFj'
      cases hg : getF l n with
      | none =>
        have HZ : Hid (Z = 4) := by
          have h4 : stF l ⟨n, o, m⟩ = 4 := stF_none hg
          have := HN.out (by rw [h4]; decide)
          rw [h4] at this
          exact this
        clear HN HO2 hg
        dsimp only [Option.getD, Option.isSome, zF, fV]
        go_wp2
        go_ret
        exact ⟨by rw [HZ.out]; rfl, bT HB5.out (al_f _ _)⟩
      | some f =>
        obtain ⟨fn, fk, fm⟩ := f
        dsimp only [Option.getD, Option.isSome, fV]
        obtain ⟨W0, hW0⟩ : ∃ W0, W0 = w5.alloc (.cells #[.string fn, .int .i64 fk, .bool fm] 48) := ⟨_, rfl⟩
        have HB0 : Hid (Below w.heap.size w W0) := by show Below _ _ _; rw [hW0]; exact bT HB5.out (al_f _ _)
        have Ba0 : Hid (Below wa.heap.size wa W0) := by show Below _ _ _; rw [hW0]; exact bT Ba5.out (al_f _ _)
        have hkf : W0.heap[w5.heap.size]? = some (.cells #[.string fn, .int .i64 fk, .bool fm] 48 (0, 0)) := by rw [hW0]; exact nw_at _ _
        have HKf : Hid (∀ W, Below W0.heap.size W0 W → W.heap[w5.heap.size]? = some (.cells #[.string fn, .int .i64 fk, .bool fm] 48 (0, 0))) := fun W h => (h.block _ (Array.getElem?_eq_some_iff.1 hkf).1).trans hkf
        clear hkf
        by_cases h1 : o = 1
        · have hm0 : m = [] := (may_one HMj.out).1 h1
          have HO3' := HO2.out (stF_nil hg hm0)
          have HO3 : Hid (∀ i (hi : i < F.length), i < j + 1 → stF l F[i].y = 0) := HO3'
          subst h1
          clear HO3' HO2 HN hg hm0
          go_wp2_with fail
          rw [← hW0]
          clear hW0
          refine wp_region_quiet (C := fun w' => Below W0.heap.size W0 w') (by kernel_rfl) (by kernel_rfl) ((Below.refl _ _).drew) ?_
          dsimp only
          repeat (first
            | go_big_quiet_skip
            | (go_big_quiet_want
               apply Exists.intro
               refine ⟨fun W' hW' => ?_, ?_⟩
               · have hw : Below W0.heap.size W0 W' := hW'
                 have hk1 := HKa.out W' (bT Ba0.out hw)
                 have hk2 := HKf.out W' hw
                 have s1 : W'.cell? ⟨wr.heap.size, 1, none⟩ = some (.int .i64 1) := by rw [Lib.cell_of_heap hk1]; rfl
                 have s2 : W'.cell? ⟨wr.heap.size, 2, none⟩ = some (.slice a m.length c) := by rw [Lib.cell_of_heap hk1]; rfl
                 have t1 : W'.cell? ⟨w5.heap.size, 1, none⟩ = some (.int .i64 fk) := by rw [Lib.cell_of_heap hk2]; rfl
                 clear hk1 hk2
                 go_simp
                 first
                   | done
                   | rfl
               go_big_quiet_on
               try simp only [Act.put, List.setIfInBounds_toArray, List.set_cons_zero, List.set_cons_succ]))
          refine wpQuiet_nil ?_
          intro w7 hq7
          have HB7 : Hid (Below w.heap.size w w7) := bT HB0.out hq7
          clear hq7
          go_wp2
          go_roundw
          case rel => exact ⟨j + 1, by omega, by simp, HO3.out, HB7.out⟩
          case measure => simp [intOf]; omega
        have d1 : (o != 1) = true := by simp [h1]
        obtain ⟨x0, r, rfl⟩ : ∃ x r, m = x :: r := by
          cases m with
          | nil => exact absurd ((may_one HMj.out).2 rfl) h1
          | cons x r => exact ⟨x, r, rfl⟩
        obtain ⟨b1, o1, rfl, -, -⟩ := items_at (HRj.out w (Below.refl _ _)) 0 (by simp)
        have HX : Hid (∀ W, Below w.heap.size w W → W.cell? ⟨b1, o1, none⟩ = some (.int .i64 x0.k)) := fun W h => by
          obtain ⟨b', o', hv, -, p0, -, -⟩ := items_at (HRj.out W h) 0 (by simp)
          simp only [Option.some.injEq, Addr.mk.injEq] at hv
          obtain ⟨rfl, rfl, -⟩ := hv
          simp only [Nat.zero_mul, Nat.add_zero, List.getElem_cons_zero] at p0
          exact p0
        have hst := stF_cons hg (y := ⟨n, o, x0 :: r⟩) rfl
        have hm1 : x0 :: r ≠ [] := List.cons_ne_nil _ _
        have hm2 : 0 < (x0 :: r).length := by simp
        have hm3 : (0 : Int) < ((x0 :: r).length : Int) := by rw [List.length_cons]; omega
        dsimp only at hst
        have HN2 : Hid ((if x0.k = fk then (0 : Int) else 8) ≠ 0 → Z = if x0.k = fk then 0 else 8) := by rw [← hst]; exact HN.out
        have HO4 : Hid ((if x0.k = fk then (0 : Int) else 8) = 0 → ∀ i (hi : i < F.length), i < j + 1 → stF l F[i].y = 0) := by rw [← hst]; exact HO2.out
        obtain ⟨xk, xn, xs⟩ := x0
        dsimp only at HX HN2 HO4
        clear HN HO2 hst hg HRj HMj
        generalize hmm : (⟨xk, xn, xs⟩ : It) :: r = m at *
        clear hmm
        by_cases hk : xk = fk
        · subst hk
          have HO3' := HO4.out (if_pos rfl)
          have HO3 : Hid (∀ i (hi : i < F.length), i < j + 1 → stF l F[i].y = 0) := HO3'
          clear HO3' HO4 HN2
          go_wp2_with fail
          rw [← hW0]
          clear hW0
          refine wp_region_quiet (C := fun w' => Below W0.heap.size W0 w') (by kernel_rfl) (by kernel_rfl) ((Below.refl _ _).drew) ?_
          dsimp only
          repeat (first
            | go_big_quiet_skip
            | (go_big_quiet_want
               apply Exists.intro
               refine ⟨fun W' hW' => ?_, ?_⟩
               · have hw : Below W0.heap.size W0 W' := hW'
                 have hk1 := HKa.out W' (bT Ba0.out hw)
                 have hk2 := HKf.out W' hw
                 have s1 : W'.cell? ⟨wr.heap.size, 1, none⟩ = some (.int .i64 o) := by rw [Lib.cell_of_heap hk1]; rfl
                 have s2 : W'.cell? ⟨wr.heap.size, 2, none⟩ = some (.slice (some ⟨b1, o1, none⟩) m.length c) := by rw [Lib.cell_of_heap hk1]; rfl
                 have t1 : W'.cell? ⟨w5.heap.size, 1, none⟩ = some (.int .i64 xk) := by rw [Lib.cell_of_heap hk2]; rfl
                 clear hk1 hk2
                 have v0 := HX.out W' (bT HB0.out hw)
                 go_simp
                 first
                   | done
                   | rfl
               go_big_quiet_on
               try simp only [Act.put, List.setIfInBounds_toArray, List.set_cons_zero, List.set_cons_succ]))
          refine wpQuiet_nil ?_
          intro w7 hq7
          have HB7 : Hid (Below w.heap.size w w7) := bT HB0.out hq7
          clear hq7
          go_wp2
          go_roundw
          case rel => exact ⟨j + 1, by omega, by simp, HO3.out, HB7.out⟩
          case measure => simp [intOf]; omega
        · have dk : (xk != fk) = true := by simp [hk]
          have HZ : Hid (Z = 8) := by
            have := HN2.out (by rw [if_neg hk]; decide)
            rw [if_neg hk] at this
            exact this
          clear HO4 HN2
          go_wp2_with fail
          rw [← hW0]
          clear hW0
          refine wp_region_quiet (C := fun w' => Below W0.heap.size W0 w') (by kernel_rfl) (by kernel_rfl) ((Below.refl _ _).drew) ?_
          dsimp only
          repeat (first
            | go_big_quiet_skip
            | (go_big_quiet_want
               apply Exists.intro
               refine ⟨fun W' hW' => ?_, ?_⟩
               · have hw : Below W0.heap.size W0 W' := hW'
                 have hk1 := HKa.out W' (bT Ba0.out hw)
                 have hk2 := HKf.out W' hw
                 have s1 : W'.cell? ⟨wr.heap.size, 1, none⟩ = some (.int .i64 o) := by rw [Lib.cell_of_heap hk1]; rfl
                 have s2 : W'.cell? ⟨wr.heap.size, 2, none⟩ = some (.slice (some ⟨b1, o1, none⟩) m.length c) := by rw [Lib.cell_of_heap hk1]; rfl
                 have t1 : W'.cell? ⟨w5.heap.size, 1, none⟩ = some (.int .i64 fk) := by rw [Lib.cell_of_heap hk2]; rfl
                 clear hk1 hk2
                 have v0 := HX.out W' (bT HB0.out hw)
                 go_simp
                 first
                   | done
                   | rfl
               go_big_quiet_on
               try simp only [Act.put, List.setIfInBounds_toArray, List.set_cons_zero, List.set_cons_succ]))
          refine wpQuiet_nil ?_
          intro w7 hq7
          have HB7 : Hid (Below w.heap.size w w7) := bT HB0.out hq7
          clear hq7
          go_wp2
          go_ret
          exact ⟨by rw [HZ.out]; rfl, HB7.out⟩
    · have hnl := hlk
      have dj : decide ((j : Int) < (F.length : Int)) = false := by simp; omega
      have HZ : Hid (Z = 0) := HAll.out fun i hi => HO.out i hi (by omega)
      clear HO HAll HAt
      go_wp2
      go_ret
      exact ⟨by rw [HZ.out]; rfl, HB.out⟩
end Go.Proofs.YtjamkfkbajhefaaGreatDoor.F
/- The law's Few and FewAttrs: walks. -/
namespace Go.Proofs.YtjamkfkbajhefaaGreatDoor
open Go.RowKit

def okW (l : List Fd) (k : Nat) (h : k < l.length) : Prop := k ≤ 40 ∧ l[k].n.size ≤ 200
instance (l : List Fd) (k : Nat) (h : k < l.length) : Decidable (okW l k h) := by unfold okW; exact inferInstance
def fewF (l : List Fd) : Bool := decide (∀ (k : Nat) (h : k < l.length), okW l k h)
theorem fewF_no {l : List Fd} {k : Nat} (h : k < l.length) (hn : ¬ okW l k h) : fewF l = false := decide_eq_false fun hh => hn (hh k h)
def okWA (l : List At) (k : Nat) (h : k < l.length) : Prop := k ≤ 40 ∧ l[k].n.size ≤ 200 ∧ l[k].s.size ≤ 500
instance (l : List At) (k : Nat) (h : k < l.length) : Decidable (okWA l k h) := by unfold okWA; exact inferInstance
def fewA (l : List At) : Bool := decide (∀ (k : Nat) (h : k < l.length), okWA l k h)
theorem fewA_no {l : List At} {k : Nat} (h : k < l.length) (hn : ¬ okWA l k h) : fewA l = false := decide_eq_false fun hh => hn (hh k h)
set_option maxRecDepth 100000 in
set_option maxHeartbeats 2000000 in
theorem fewF_any (v : Value) (l : List Fd) (w : World) (hr : IsRow w 3 v l.length (fCells l)) (hl : l.length ≤ 140737488355328) :
    Calls Tryz.prog 43 #[v] w fun e w' => e = .returned (.bool (fewF l)) ∧ w' = w := by
  obtain ⟨a0, cap0, rfl⟩ := hr.form
  have HR : Hid (IsRow w 3 (.slice a0 l.length cap0) l.length (fCells l)) := hr
  clear hr
  go_enter Tryz.func43, Tryz.ntmps43
  go_wp2_with fail
  go_loopw [2, 3] (fun r i wr => r = .bool false ∧ ∃ k : Nat, k ≤ l.length ∧ k ≤ 41 ∧ i = .int .i64 (k : Int) ∧ Hid (∀ (j : Nat) (h : j < l.length), j < k → okW l j h) ∧ w = wr) (fun _ i _ => l.length - (intOf i).toNat)
  case atStart => exact ⟨rfl, 0, Nat.zero_le _, by omega, rfl, fun j h hj => absurd hj (Nat.not_lt_zero _), rfl⟩
  case round =>
    obtain ⟨rfl, k, hk, hk41, rfl, HO, rfl⟩ := hrel
    by_cases hlk : k < l.length
    · have dk : decide ((k : Int) < l.length) = true := by simp; omega
      obtain ⟨b, off, rfl, hlt, hcap, hc⟩ := f_at HR.out (by omega)
      obtain ⟨ck0, -, -⟩ := hc k hlk
      have HN : Hid (¬ okW l k hlk → fewF l = false) := fewF_no hlk
      by_cases h40 : k ≤ 40
      · have d40 : decide ((40 : Int) < (k : Int)) = false := by simp; omega
        by_cases h200 : l[k].n.size ≤ 200
        · have d200 : decide ((200 : Int) < (l[k].n.size : Int)) = false := by simp; omega
          have HO2 : Hid (∀ (j : Nat) (h : j < l.length), j < k + 1 → okW l j h) := fun j h hj => by
            by_cases e : j = k
            · subst e; exact ⟨h40, h200⟩
            · exact HO.out j h (by omega)
          generalize l[k].n = nm at *
          clear hc HO h200 HN
          go_wp2
          go_roundw
          case rel => exact ⟨rfl, k + 1, by omega, by omega, by simp, HO2, trivial⟩
          case measure => simp [intOf]; omega
        · have d200 : decide ((200 : Int) < (l[k].n.size : Int)) = true := by simp; omega
          have HNn : Hid (fewF l = false) := HN.out fun h => h200 h.2
          generalize l[k].n = nm at *
          clear hc HO h200 HN
          go_wp2
          go_ret
          exact ⟨by rw [HNn.out]; rfl, rfl⟩
      · have d40 : decide ((40 : Int) < (k : Int)) = true := by simp; omega
        have HNn : Hid (fewF l = false) := HN.out fun h => h40 h.1
        clear hc HO HN
        go_wp2
        go_ret
        exact ⟨by rw [HNn.out]; rfl, rfl⟩
    · have hk' : k = l.length := by omega
      subst hk'
      have dk : decide ((l.length : Int) < l.length) = false := by simp
      have HY : Hid (fewF l = true) := decide_eq_true fun j hj => HO.out j hj hj
      clear HO
      go_wp2
      go_ret
      exact ⟨by rw [HY.out]; rfl, rfl⟩
set_option maxRecDepth 100000 in
set_option maxHeartbeats 2000000 in
theorem fewA_any (v : Value) (l : List At) (w : World) (hr : IsRow w 4 v l.length (aCells l)) (hl : l.length ≤ 140737488355328) :
    Calls Tryz.prog 19 #[v] w fun e w' => e = .returned (.bool (fewA l)) ∧ w' = w := by
  obtain ⟨a0, cap0, rfl⟩ := hr.form
  have HR : Hid (IsRow w 4 (.slice a0 l.length cap0) l.length (aCells l)) := hr
  clear hr
  go_enter Tryz.func19, Tryz.ntmps19
  go_wp2_with fail
  go_loopw [2, 3] (fun r i wr => r = .bool false ∧ ∃ k : Nat, k ≤ l.length ∧ k ≤ 41 ∧ i = .int .i64 (k : Int) ∧ Hid (∀ (j : Nat) (h : j < l.length), j < k → okWA l j h) ∧ w = wr) (fun _ i _ => l.length - (intOf i).toNat)
  case atStart => exact ⟨rfl, 0, Nat.zero_le _, by omega, rfl, fun j h hj => absurd hj (Nat.not_lt_zero _), rfl⟩
  case round =>
    obtain ⟨rfl, k, hk, hk41, rfl, HO, rfl⟩ := hrel
    by_cases hlk : k < l.length
    · have dk : decide ((k : Int) < l.length) = true := by simp; omega
      obtain ⟨b, off, rfl, hlt, hcap, hc⟩ := a_at HR.out (by omega)
      obtain ⟨ck0, -, -, ck3⟩ := hc k hlk
      have HN : Hid (¬ okWA l k hlk → fewA l = false) := fewA_no hlk
      by_cases h40 : k ≤ 40
      · have d40 : decide ((40 : Int) < (k : Int)) = false := by simp; omega
        by_cases h200 : l[k].n.size ≤ 200
        · have d200 : decide ((200 : Int) < (l[k].n.size : Int)) = false := by simp; omega
          by_cases h500 : l[k].s.size ≤ 500
          · have d500 : decide ((500 : Int) < (l[k].s.size : Int)) = false := by simp; omega
            have HO2 : Hid (∀ (j : Nat) (h : j < l.length), j < k + 1 → okWA l j h) := fun j h hj => by
              by_cases e : j = k
              · subst e; exact ⟨h40, h200, h500⟩
              · exact HO.out j h (by omega)
            generalize l[k].n = nm at *
            generalize l[k].s = tx at *
            clear hc HO h200 h500 HN
            go_wp2
            go_roundw
            case rel => exact ⟨rfl, k + 1, by omega, by omega, by simp, HO2, trivial⟩
            case measure => simp [intOf]; omega
          · have d500 : decide ((500 : Int) < (l[k].s.size : Int)) = true := by simp; omega
            have HNn : Hid (fewA l = false) := HN.out fun h => h500 h.2.2
            generalize l[k].n = nm at *
            generalize l[k].s = tx at *
            clear hc HO h200 h500 HN
            go_wp2
            go_ret
            exact ⟨by rw [HNn.out]; rfl, rfl⟩
        · have d200 : decide ((200 : Int) < (l[k].n.size : Int)) = true := by simp; omega
          have HNn : Hid (fewA l = false) := HN.out fun h => h200 h.2.1
          generalize l[k].n = nm at *
          clear hc HO h200 HN
          go_wp2
          go_ret
          exact ⟨by rw [HNn.out]; rfl, rfl⟩
      · have d40 : decide ((40 : Int) < (k : Int)) = true := by simp; omega
        have HNn : Hid (fewA l = false) := HN.out fun h => h40 h.1
        clear hc HO HN
        go_wp2
        go_ret
        exact ⟨by rw [HNn.out]; rfl, rfl⟩
    · have hk' : k = l.length := by omega
      subst hk'
      have dk : decide ((l.length : Int) < l.length) = false := by simp
      have HY : Hid (fewA l = true) := decide_eq_true fun j hj => HO.out j hj hj
      clear HO
      go_wp2
      go_ret
      exact ⟨by rw [HY.out]; rfl, rfl⟩
end Go.Proofs.YtjamkfkbajhefaaGreatDoor
/- The law's Refs; the reference's Same of fields: walks. -/
namespace Go.Proofs.YtjamkfkbajhefaaGreatDoor
open Go.RowKit

end Go.Proofs.YtjamkfkbajhefaaGreatDoor
/- The reference's Same of fields: its walk. -/
namespace Go.Proofs.YtjamkfkbajhefaaGreatDoor
open Go.RowKit

/-- The same in all. -/
def eqF (x y : Fd) : Bool := decide (x.n = y.n) && (decide (x.k = y.k) && decide (x.m = y.m))
theorem eqF_iff (x y : Fd) : eqF x y = true ↔ x = y := by
  obtain ⟨n, k, m⟩ := x
  obtain ⟨n', k', m'⟩ := y
  simp [eqF]
def sameR (a b : List Fd) : Bool := decide (a.length = b.length) && decide (∀ (k : Nat) (h : k < a.length) (h2 : k < b.length), eqF a[k] b[k] = true)
theorem sameR_iff (a b : List Fd) : sameR a b = true ↔ a = b := by
  unfold sameR
  rw [Bool.and_eq_true, decide_eq_true_eq, decide_eq_true_eq]
  constructor
  · intro ⟨h1, h2⟩
    exact List.ext_getElem h1 fun k h h' => (eqF_iff _ _).1 (h2 k h h')
  · rintro rfl
    exact ⟨rfl, fun k h h2 => (eqF_iff _ _).2 rfl⟩
theorem sameR_no {a b : List Fd} {k : Nat} (h : k < a.length) (h2 : k < b.length) (hn : eqF a[k] b[k] = false) : sameR a b = false := by
  unfold sameR
  rw [Bool.and_eq_false_iff]
  right
  rw [decide_eq_false_iff_not]
  exact fun hh => by rw [hh k h h2] at hn; cases hn
end Go.Proofs.YtjamkfkbajhefaaGreatDoor
/- forest.counts, IsID, climb: walks. -/
namespace Go.Proofs.YtjamkfkbajhefaaGreatDoor
open Go.RowKit

def cntI (n : Int) : Bool := decide (1 ≤ n) && decide (n ≤ 1099511627775)
/-- May an identity be? -/
def idB (a b c : Int) : Bool := decide (1 ≤ a) && (decide (a ≤ 15) && (cntI b && cntI c))
abbrev idV (a b c : Int) : Value := .agg #[.int .i64 a, .int .i64 b, .int .i64 c]
theorem countsI_any (n : Int) (w : World) : Calls Tryz.prog 63 #[.int .i64 n] w fun e w' => e = .returned (.bool (cntI n)) ∧ w' = w := by
  by_cases h1 : 1 ≤ n
  · have d1 : decide (1 ≤ n) = true := decide_eq_true h1
    have e : cntI n = decide (n ≤ 1099511627775) := by unfold cntI; rw [d1, Bool.true_and]
    rw [e]
    clear e
    go_enter Tryz.func63, Tryz.ntmps63
    go_wp2
    go_ret
    exact ⟨rfl, rfl⟩
  · have d1 : decide (1 ≤ n) = false := decide_eq_false h1
    have e : cntI n = false := by unfold cntI; rw [d1, Bool.false_and]
    rw [e]
    clear e
    go_enter Tryz.func63, Tryz.ntmps63
    go_wp2
    go_ret
    exact ⟨rfl, rfl⟩
set_option maxRecDepth 100000 in
set_option maxHeartbeats 1000000 in
theorem isID_any (a b c : Int) (w : World) : Calls Tryz.prog 34 #[idV a b c] w fun e w' => e = .returned (.bool (idB a b c)) ∧ Below w.heap.size w w' := by
  have HB : Hid (Below w.heap.size w (w.alloc (.cells #[.int .i64 a, .int .i64 b, .int .i64 c] 25))) := al_b w _
  have HC : Hid (∀ n W, Calls Tryz.prog 63 #[.int .i64 n] W fun e w' => e = .returned (.bool (cntI n)) ∧ w' = W) := fun n W => countsI_any n W
  by_cases h1 : 1 ≤ a
  · have d1 : decide (1 ≤ a) = true := decide_eq_true h1
    by_cases h2 : a ≤ 15
    · have d2 : decide (a ≤ 15) = true := decide_eq_true h2
      have e0 : idB a b c = (cntI b && cntI c) := by unfold idB; rw [d1, d2, Bool.true_and, Bool.true_and]
      rw [e0]
      cases hb : cntI b
      · rw [Bool.false_and]
        have HCb := HC.out b
        rw [hb] at HCb
        clear e0 hb h1 h2
        go_enter Tryz.func34, Tryz.ntmps34
        go_wp2_with fail
        refine (HCb _).mono ?_
        rintro e w1 ⟨rfl, h1⟩
        obtain rfl := h1.symm
        go_wp2
        go_ret
        exact ⟨rfl, HB.out⟩
      · rw [Bool.true_and]
        have HCb := HC.out b
        rw [hb] at HCb
        have HCc := HC.out c
        generalize cntI c = cc at *
        clear e0 hb h1 h2 HC
        go_enter Tryz.func34, Tryz.ntmps34
        go_wp2_with fail
        refine (HCb _).mono ?_
        rintro e w1 ⟨rfl, h1⟩
        obtain rfl := h1.symm
        go_wp2_with fail
        refine (HCc _).mono ?_
        rintro e w2 ⟨rfl, h2⟩
        obtain rfl := h2.symm
        go_wp2
        go_ret
        exact ⟨rfl, HB.out⟩
    · have d2 : decide (a ≤ 15) = false := decide_eq_false h2
      have e0 : idB a b c = false := by unfold idB; rw [d1, d2, Bool.true_and, Bool.false_and]
      rw [e0]
      clear e0 HC h1 h2
      go_enter Tryz.func34, Tryz.ntmps34
      go_wp2
      go_ret
      exact ⟨rfl, HB.out⟩
  · have d1 : decide (1 ≤ a) = false := decide_eq_false h1
    have e0 : idB a b c = false := by unfold idB; rw [d1, Bool.false_and]
    rw [e0]
    clear e0 HC h1
    go_enter Tryz.func34, Tryz.ntmps34
    go_wp2
    go_ret
    exact ⟨rfl, HB.out⟩
/-- How far up the names are names, none the same as one below it: the names, folded. -/
def clm : List (List UInt8) → List ByteArray → List (List UInt8)
  | b, [] => b
  | b, s :: r => if checkL s.data.toList = 0 ∧ ¬ foldL s.data.toList ∈ b then clm (b ++ [foldL s.data.toList]) r else b
def fVs (b : List (List UInt8)) : List Value := b.map fun x => .string (str x)
theorem info_st : (Tryz.prog.info? 9).map (fun i => (i.zero, i.size, i.bytes)) = some (some (.string ⟨#[]⟩), 1, 16) := by kernel_rfl
theorem fV_at {w : World} {v : Value} {b : List (List UInt8)} (h : IsRow w 1 v b.length (fVs b)) (h0 : 0 < b.length) :
    ∃ g off cap, v = .slice (some ⟨g, off, none⟩) b.length cap ∧ g < w.heap.size ∧ ∀ (k : Nat) (hk : k < b.length), w.cell? ⟨g, off + k, none⟩ = some (.string (str b[k])) := by
  obtain ⟨g, off, cap, hv, hlt, q1, q2, hc⟩ := h.open (by omega)
  exact ⟨g, off, cap, hv, hlt, fun k hk => hc k _ (by simp [fVs, hk])⟩
theorem strEq (A B : List UInt8) : ((str A).toList == (str B).toList) = decide (A = B) := by
  rw [ByteArray.toList_eq, ByteArray.toList_eq, str_data, str_data, Bool.eq_iff_iff]
  simp
set_option maxRecDepth 100000 in
set_option maxHeartbeats 2000000 in
theorem climb_any (v : Value) (ch : List ByteArray) (w : World) (hr : IsRow w 1 v ch.length (sVals ch)) (hl : ch.length ≤ 100) (hn : ∀ s ∈ ch, s.size ≤ 1000000) (hU : UT w) :
    Calls Tryz.prog 44 #[v] w fun e w' => e = .returned (.int .i64 ((clm [] ch).length : Int)) ∧ Below w.heap.size w w' := by
  obtain ⟨a0, cap0, rfl⟩ := hr.form
  obtain ⟨i0, hi0, hz0, hz1, hz2⟩ := info_parts info_st
  have HR : Hid (∀ W, Below w.heap.size w W → IsRow W 1 (.slice a0 ch.length cap0) ch.length (sVals ch)) := fun W h => hr.below h
  have HC : Hid (∀ (k : Nat) (hk : k < ch.length) W, Calls Tryz.prog 33 #[.string ch[k]] W fun e w' => e = .returned (.int .i64 (checkL ch[k].data.toList)) ∧ Below W.heap.size W w') := fun k hk W => check_any _ W (Nat.le_trans (hn _ (List.getElem_mem hk)) (by decide))
  have HF : Hid (∀ (k : Nat) (hk : k < ch.length) W, Below w.heap.size w W → Calls Tryz.prog 49 #[.string ch[k]] W fun e w' => e = .returned (.string (str (foldL ch[k].data.toList))) ∧ Below W.heap.size W w') := fun k hk W hW => fold_any _ W (hn _ (List.getElem_mem hk)) (Utf8Tabs_below hU hW)
  clear hr hn hU
  go_enter Tryz.func44, Tryz.ntmps44
  go_wp2_with fail
  go_step3
  go_wp2_with fail
  go_step3
  go_wp2_with fail
  go_loopw [3, 11] (fun o i wr => ∃ (k : Nat) (B : List (List UInt8)) (va : Option Addr) (vc : Nat), k ≤ ch.length ∧ i = .int .i64 (k : Int) ∧ o = .slice va B.length vc ∧ B.length ≤ k ∧ Hid (clm [] ch = clm B (ch.drop k)) ∧ Hid (wr.ownsRow w.heap.size 9 1 (.slice va B.length vc) B.length (fVs B)) ∧ Hid (Below w.heap.size w wr)) (fun _ i _ => ch.length - (intOf i).toNat)
  case atStart => exact ⟨0, [], none, 0, Nat.zero_le _, rfl, rfl, Nat.le_refl _, rfl, World.ownsRow_nil _ _ _ _, Below.refl _ _⟩
  case round =>
    obtain ⟨k, B, va, vc, hk, rfl, rfl, hBk, HQ, HO, HB⟩ := hrel
    have hsz := HB.out.size
    by_cases hlk : k < ch.length
    · have dk : decide ((k : Int) < ch.length) = true := by simp; omega
      obtain ⟨b, off, rfl, -, hlt, hcap, hcc⟩ := s_at (HR.out _ HB.out) (by omega)
      have c0 := hcc k hlk
      have HCk := HC.out k hlk wr
      have HFk := HF.out k hlk
      have HFk' : Hid (∀ W, Below w.heap.size w W → Calls Tryz.prog 49 #[.string ch[k]] W fun e w' => e = .returned (.string (str (foldL ch[k].data.toList))) ∧ Below W.heap.size W w') := HFk
      have HStop : Hid (¬ (checkL ch[k].data.toList = 0 ∧ ¬ foldL ch[k].data.toList ∈ B) → clm [] ch = B) := fun hh => by
        rw [HQ.out, List.drop_eq_getElem_cons hlk, clm, if_neg hh]
      have HGo : Hid (checkL ch[k].data.toList = 0 → ¬ foldL ch[k].data.toList ∈ B → clm [] ch = clm (B ++ [foldL ch[k].data.toList]) (ch.drop (k + 1))) := fun h1 h2 => by
        rw [HQ.out, List.drop_eq_getElem_cons hlk, clm, if_pos ⟨h1, h2⟩]
      generalize ch[k]'hlk = s at *
      generalize checkL s.data.toList = C at *
      generalize foldL s.data.toList = F at *
      clear hcc HR HC HF HQ HFk
      by_cases h0 : C = 0
      · subst h0
        go_wp2_with fail
        refine HCk.mono ?_
        rintro e w1 ⟨rfl, hb1⟩
        have HB1 : Hid (Below w.heap.size w w1) := HB.out.trans (hb1.mono hsz)
        have HO1 : Hid (w1.ownsRow w.heap.size 9 1 (.slice va B.length vc) B.length (fVs B)) := own_belowE HO.out hb1
        clear hb1 HCk HO c0
        go_wp2_with fail
        refine (HFk'.out w1 HB1.out).mono ?_
        rintro e w2 ⟨rfl, hb2⟩
        have HB2 : Hid (Below w.heap.size w w2) := HB1.out.trans (hb2.mono HB1.out.size)
        have HO2 : Hid (w2.ownsRow w.heap.size 9 1 (.slice va B.length vc) B.length (fVs B)) := own_belowE HO1.out hb2
        have hs2 := HB2.out.size
        clear hb2 HFk' HO1
        go_wp2_with fail
        go_loopw [22] (fun i wr => ∃ j : Nat, j ≤ B.length ∧ i = .int .i64 (j : Int) ∧ Hid (∀ (t : Nat) (h : t < B.length), t < j → B[t] ≠ F) ∧ w2 = wr) (fun i _ => B.length - (intOf i).toNat)
        case atStart => exact ⟨0, Nat.zero_le _, rfl, (fun t h ht => absurd ht (Nat.not_lt_zero _)), rfl⟩
        case round =>
          obtain ⟨j, hj, rfl, HN, rfl⟩ := hrel
          by_cases hjk : j < B.length
          · have dj : decide (j < B.length) = true := by simp; omega
            have dj' : decide ((j : Int) < (B.length : Int)) = true := by simp; omega
            obtain ⟨g, goff, gcap, hgv, hglt, hgc⟩ := fV_at (IsRow.own HO2.out) (by omega)
            obtain ⟨rfl, -, rfl⟩ := Value.slice.inj hgv
            have d0 := hgc j hjk
            have q1 : (0 : Int) ≤ (j : Int) := by omega
            have q2 : (j : Int) < (B.length : Int) := by omega
            have eS := strEq B[j] F
            by_cases he : B[j] = F
            · rw [decide_eq_true he] at eS
              have HSt : Hid (clm [] ch = B) := HStop.out (fun hh => hh.2 (he ▸ List.getElem_mem hjk))
              clear he hgc hgv HN HStop HGo
              go_wp2
              try rw [Exit.noGoto_ret]
              go_ret
              exact ⟨by rw [HSt.out]; rfl, HB2.out⟩
            · rw [decide_eq_false he] at eS
              have HN2 : Hid (∀ (t : Nat) (h : t < B.length), t < j + 1 → B[t] ≠ F) := fun t h ht => by
                by_cases e : t = j
                · subst e; exact he
                · exact HN.out t h (by omega)
              clear he hgc hgv HN HStop HGo
              go_wp2
              go_roundw
              case rel => exact ⟨j + 1, by omega, by simp, HN2, trivial⟩
              case measure => simp [intOf]; omega
          · have dj : decide (j < B.length) = false := by simp; omega
            have dj' : decide ((j : Int) < (B.length : Int)) = false := by simp; omega
            have hnm : ¬ F ∈ B := fun hm => by
              obtain ⟨t, ht, e⟩ := List.mem_iff_getElem.1 hm
              exact HN.out t ht (by omega) e
            have HG : Hid (clm [] ch = clm (B ++ [F]) (ch.drop (k + 1))) := HGo.out (by trivial) hnm
            clear hnm HN HStop HGo
            go_wp2_with (at_builtin; go_loud (refine wpl_appE w2 rfl (.tmp 30) (.tmp 32) 36 9 rfl i0 _ 1 16 Tryz.underlying36 hi0 hz0 hz1 hz2 rfl (by decide) w.heap.size (.slice va B.length vc) B.length (fVs B) rfl HO2.out [.string (str F)] rfl _ rfl rfl (by simp [Value.oneCell']) (by omega) (by unfold maxLen; omega) (by omega) ?_; intro v4 w4 ho4 hb4; obtain ⟨va4, vc4, rfl⟩ := (IsRow.own ho4).form))
            have HB4 : Hid (Below w.heap.size w w4) := HB2.out.trans hb4
            have HO4 : Hid (w4.ownsRow w.heap.size 9 1 (.slice va4 (B ++ [F]).length vc4) (B ++ [F]).length (fVs (B ++ [F]))) := by
              show World.ownsRow _ _ _ _ _ _ _
              have e : fVs (B ++ [F]) = fVs B ++ [.string (str F)] := by simp [fVs]
              rw [e, List.length_append, List.length_singleton]
              exact ho4
            clear ho4 hb4 HO2
            go_wp2
            go_roundw
            case rel => exact ⟨k + 1, B ++ [F], va4, vc4, by omega, by simp, by simp, by simp; omega, HG, HO4, HB4⟩
            case measure => simp [intOf]; omega
      · have nb : (C != 0) = true := by simpa using h0
        have HSt : Hid (clm [] ch = B) := HStop.out (fun hh => h0 hh.1)
        clear h0 HStop HGo HFk'
        go_wp2_with fail
        refine HCk.mono ?_
        rintro e w1 ⟨rfl, hb1⟩
        have HB1 : Hid (Below w.heap.size w w1) := HB.out.trans (hb1.mono hsz)
        clear hb1 HCk HO c0
        go_wp2
        try rw [Exit.noGoto_ret]
        go_ret
        exact ⟨by rw [HSt.out]; rfl, HB1.out⟩
    · have dk : decide ((k : Int) < ch.length) = false := by simp; omega
      have HSt : Hid (clm [] ch = B) := by
        show _ = _
        rw [HQ.out, List.drop_eq_nil_of_le (by omega)]
        rfl
      clear HQ HR HC HF
      go_wp2
      try rw [Exit.noGoto_ret]
      go_ret
      exact ⟨by rw [HSt.out]; rfl, HB.out⟩
end Go.Proofs.YtjamkfkbajhefaaGreatDoor
