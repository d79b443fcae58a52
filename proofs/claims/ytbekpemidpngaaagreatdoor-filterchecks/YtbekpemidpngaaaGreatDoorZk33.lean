/- filter.Fits, the reference's Fits: walks. -/
import Derived.Test.YtbekpemidpngaaaGreatDoorZk30
import Derived.Test.YtbekpemidpngaaaGreatDoorZk31
import Derived.Test.YtbekpemidpngaaaGreatDoorZk25
import Derived.Test.YtbekpemidpngaaaGreatDoorZk16
import Derived.Test.YtbekpemidpngaaaGreatDoorZk26
import Derived.Lib.AppendZeros
import Derived.Maps.AppendAt
namespace Go.Proofs.YtbekpemidpngaaaGreatDoor
open Go.RowKit Go.ChangeMaps

/-- Can a predicate be asked of a schema? -/
def stF (l : List Fd) (y : Pd) : Int := match getF l y.n with
  | none => 4
  | some f => match y.l with
    | [] => 0
    | x0 :: _ => if x0.k = f.k then 0 else 8
def fgo (l : List Fd) : List Pd → Int
  | [] => 0
  | y :: D => if stF l y = 0 then fgo l D else stF l y
def fitsX (l : List Fd) (D : List Pd) : Int := if (chkF l && chkFl D) = true then fgo l D else 1
theorem fgo_all {l : List Fd} : ∀ {D : List Pd}, (∀ i (h : i < D.length), stF l D[i] = 0) → fgo l D = 0
  | [], _ => rfl
  | y :: D, h => by
    have h0 : stF l y = 0 := h 0 (by simp)
    unfold fgo
    rw [if_pos h0]
    exact fgo_all fun i hi => h (i + 1) (by simp; omega)
theorem fgo_at {l : List Fd} : ∀ {D : List Pd} {j : Nat} (hj : j < D.length), (∀ i (h : i < D.length), i < j → stF l D[i] = 0) → stF l D[j] ≠ 0 → fgo l D = stF l D[j]
  | [], _, hj, _, _ => absurd hj (by simp)
  | y :: D, 0, _, _, hne => by
    have h0 : ¬ stF l y = 0 := hne
    unfold fgo
    rw [if_neg h0]
    rfl
  | y :: D, j + 1, hj, h, hne => by
    have h0 : stF l y = 0 := h 0 (by simp) (by omega)
    unfold fgo
    rw [if_pos h0]
    exact fgo_at (j := j) (by simpa using hj) (fun i hi hij => h (i + 1) (by simp; omega) (by omega)) hne
theorem stF_none {l : List Fd} {y : Pd} (h : getF l y.n = none) : stF l y = 4 := by unfold stF; rw [h]
theorem stF_nil {l : List Fd} {y : Pd} {f : Fd} (h : getF l y.n = some f) (hl : y.l = []) : stF l y = 0 := by unfold stF; rw [h, hl]
theorem stF_cons {l : List Fd} {y : Pd} {f : Fd} {x0 : It} {r : List It} (h : getF l y.n = some f) (hl : y.l = x0 :: r) : stF l y = if x0.k = f.k then 0 else 8 := by unfold stF; rw [h, hl]
theorem may_one {y : Pd} (h : mayP y = true) : y.o = 1 ↔ y.l = [] := by
  constructor
  · intro h1
    unfold mayP at h
    rw [Bool.and_eq_true] at h
    have h2 := h.1
    unfold valsB at h2
    rw [if_pos h1, decide_eq_true_eq] at h2
    exact List.eq_nil_of_length_eq_zero h2
  · intro hl
    by_cases h1 : y.o = 1
    · exact h1
    · exact absurd hl (may_ne h h1)
set_option maxRecDepth 100000 in
set_option maxHeartbeats 8000000 in
theorem fitsP_any (u : Value) (l : List Fd) (v : Value) (F : List PR) (D : List Pd) (w : World) (hu : IsRow w 3 u l.length (fCells l)) (hll : l.length ≤ 1000000) (hv : IsFl w v F) (hD : F.map (·.y) = D) (hl : F.length ≤ 1000000) (hn : ∀ y ∈ D, NmP y) (hnl : NmF l) (hT : UT w) (hM : ML w) :
    Calls Tryz.prog 13 #[u, v] w fun e w' => e = .returned (.int .i64 (fitsX l D)) ∧ Below w.heap.size w w' := by
  obtain ⟨a0, c0, rfl⟩ := hu.form
  obtain ⟨a1, c1, rfl⟩ := hv.1.form
  have hDl : D.length = F.length := by rw [← hD, List.length_map]
  have HS : Hid (Calls Tryz.prog 30 #[.slice a0 l.length c0] w fun e w' => e = .returned (.bool (chkF l)) ∧ Below w.heap.size w w') := checkF_any _ l w hu hll hnl hT hM
  have HP : Hid (∀ W, Below w.heap.size w W → Calls Tryz.prog 10 #[.slice a1 F.length c1] W fun e w' => e = .returned (.bool (chkFl D)) ∧ Below W.heap.size W w') := fun W hb => checkP_any _ F D W (hv.below hb) hD hl hn (Utf8Tabs_below hT hb)
  have HFi : Hid (∀ i (h : i < F.length), ∀ W, Below w.heap.size w W → Calls Tryz.prog 31 #[.slice a0 l.length c0, .string F[i].y.n] W fun e w' => e = .returned (.tuple #[fV ((getF l F[i].y.n).getD zF), .bool (getF l F[i].y.n).isSome]) ∧ Below W.heap.size W w') := fun i h W hb => find_any _ l _ W (hu.below hb) hll hnl (Nat.le_trans (hn _ (by rw [← hD]; exact List.mem_map.2 ⟨F[i], List.getElem_mem h, rfl⟩)).1 (by decide)) (Utf8Tabs_below hT hb)
  clear hnl hT hM
  have HR : Hid (∀ W, Below w.heap.size w W → IsFl W (.slice a1 F.length c1) F) := fun W hb => hv.below hb
  have HU : Hid (IsRow w 3 (.slice a0 l.length c0) l.length (fCells l)) := hu
  have hEl : ∀ i (h : i < F.length) (h2 : i < D.length), D[i] = F[i].y := fun i h h2 => by
    have e : D[i] = (F.map (·.y))[i]'(by rw [List.length_map]; exact h) := by simp only [hD]
    rw [e, List.getElem_map]
  have HMy : Hid (chkFl D = true → ∀ i (h : i < F.length), mayP F[i].y = true) := fun hc i h => chk_may hc _ (by rw [← hD]; exact List.mem_map.2 ⟨F[i], List.getElem_mem h, rfl⟩)
  have HAt : Hid (∀ j (h : j < F.length), (∀ i (hi : i < F.length), i < j → stF l F[i].y = 0) → stF l F[j].y ≠ 0 → fgo l D = stF l F[j].y) := fun j h h1 h2 => by
    rw [← hEl j h (by omega)] at h2 ⊢
    exact fgo_at _ (fun i hi hij => by rw [hEl i (by omega)]; exact h1 i (by omega) hij) h2
  have HAll : Hid ((∀ i (hi : i < F.length), stF l F[i].y = 0) → fgo l D = 0) := fun h => fgo_all fun i hi => by rw [hEl i (by omega)]; exact h i (by omega)
  obtain ⟨R, hR⟩ : ∃ R, fitsX l D = R := ⟨_, rfl⟩
  rw [hR]
  have HRs : Hid ((if (chkF l && chkFl D) = true then fgo l D else 1) = R) := hR
  clear hR
  generalize fgo l D = Z at *
  generalize chkF l = X1 at *
  generalize chkFl D = X2 at *
  clear hu hv hD hn hDl hEl
  go_enter Tryz.func13, Tryz.ntmps13
  go_wp2_with fail
  refine HS.out.mono ?_
  rintro e w1 ⟨rfl, hb⟩
  have B1 : Hid (Below w.heap.size w w1) := hb
  clear hb HS
  cases X1 with
  | false =>
    obtain rfl : (1 : Int) = R := HRs.out
    go_wp2
    go_ret
    exact ⟨rfl, B1.out⟩
  | true =>
  go_wp2_with fail
  refine (HP.out _ B1.out).mono ?_
  rintro e w2 ⟨rfl, hb⟩
  have B2 : Hid (Below w.heap.size w w2) := bT B1.out hb
  clear hb HP
  cases X2 with
  | false =>
    obtain rfl : (1 : Int) = R := HRs.out
    go_wp2
    go_ret
    exact ⟨rfl, B2.out⟩
  | true =>
  obtain rfl : Z = R := HRs.out
  clear HRs
  have HMy2 : Hid (∀ i (h : i < F.length), mayP F[i].y = true) := HMy.out (by trivial)
  clear HMy
  go_wp2_with fail
  go_loopw [19] (fun i wr => ∃ j : Nat, j ≤ F.length ∧ i = .int .i64 (j : Int) ∧ Hid (∀ i (hi : i < F.length), i < j → stF l F[i].y = 0) ∧ Hid (Below w.heap.size w wr)) (fun i _ => F.length - (intOf i).toNat)
  case atStart => exact ⟨0, by omega, rfl, (fun k h hj => absurd hj (Nat.not_lt_zero _)), B2.out⟩
  case round =>
    obtain ⟨j, hj, rfl, HO, HB⟩ := hrel
    by_cases hlk : j < F.length
    · have dj : decide ((j : Int) < (F.length : Int)) = true := by simp; omega
      obtain ⟨b0, o0, rfl, hlt, p0, p1, p2⟩ := p_at (HR.out w (Below.refl _ _)).1 j hlk
      have HY : Hid (∀ W, Below w.heap.size w W → W.cell? ⟨b0, o0 + j * 3, none⟩ = some (.string F[j].y.n) ∧ W.cell? ⟨b0, o0 + j * 3 + 1, none⟩ = some (.int .i64 F[j].y.o) ∧ W.cell? ⟨b0, o0 + j * 3 + 2, none⟩ = some F[j].v) := fun W h => ⟨(h.cell (p := ⟨b0, _, none⟩) hlt).trans p0, (h.cell (p := ⟨b0, _, none⟩) hlt).trans p1, (h.cell (p := ⟨b0, _, none⟩) hlt).trans p2⟩
      have q1 : (0 : Int) ≤ (j : Int) := by omega
      have q2 : (j : Int) < (F.length : Int) := by omega
      have HRj : Hid (∀ W, Below w.heap.size w W → IsRow W 3 F[j].v F[j].y.l.length (itCells F[j].y.l)) := fun W hb => (HR.out W hb).2 _ (List.getElem_mem hlk)
      have HMj : Hid (mayP F[j].y = true) := HMy2.out j hlk
      have HFj := HFi.out j hlk
      have HO2 : Hid (stF l F[j].y = 0 → ∀ i (hi : i < F.length), i < j + 1 → stF l F[i].y = 0) := fun hs k h hk => by
        by_cases e : k = j
        · subst e; exact hs
        · exact HO.out k h (by omega)
      have HN : Hid (stF l F[j].y ≠ 0 → Z = stF l F[j].y) := fun h => HAt.out j hlk (fun i hi hij => HO.out i hi hij) h
      clear hlt p0 p1 p2 HO HAt HAll HMy2 HFi HR
      generalize F[j]'hlk = x at *
      obtain ⟨⟨n, o, m⟩, a, c⟩ := x
      dsimp only [PR.v] at HY HRj HN HO2 HFj HMj
      have HFj' : Hid (∀ W, Below w.heap.size w W → Calls Tryz.prog 31 #[.slice a0 l.length c0, .string n] W fun e w' => e = .returned (.tuple #[fV ((getF l n).getD zF), .bool (getF l n).isSome]) ∧ Below W.heap.size W w') := HFj
      clear HFj
      obtain ⟨g0, g1, g2⟩ := HY.out wr HB.out
      obtain ⟨wa, hwa⟩ : ∃ wa, wa = wr.alloc (.cells #[.string n, .int .i64 o, .slice a m.length c] 45) := ⟨_, rfl⟩
      have HBa : Hid (Below w.heap.size w wa) := by show Below _ _ _; rw [hwa]; exact bT HB.out (al_f _ _)
      have hka : wa.heap[wr.heap.size]? = some (.cells #[.string n, .int .i64 o, .slice a m.length c] 45 (0, 0)) := by rw [hwa]; exact nw_at _ _
      have HKa : Hid (∀ W, Below wa.heap.size wa W → W.heap[wr.heap.size]? = some (.cells #[.string n, .int .i64 o, .slice a m.length c] 45 (0, 0))) := fun W h => (h.block _ (Array.getElem?_eq_some_iff.1 hka).1).trans hka
      have r0 : wa.cell? ⟨wr.heap.size, 0, none⟩ = some (.string n) := by rw [Lib.cell_of_heap hka]; rfl
      have r1 : wa.cell? ⟨wr.heap.size, 1, none⟩ = some (.int .i64 o) := by rw [Lib.cell_of_heap hka]; rfl
      have r2 : wa.cell? ⟨wr.heap.size, 2, none⟩ = some (.slice a m.length c) := by rw [Lib.cell_of_heap hka]; rfl
      clear hka
      rw [hwa] at r0 r1 r2
      go_wp2_with fail
      rw [← hwa]
      clear hwa g0 g1 g2 r0 r1 r2
      refine (HFj'.out _ HBa.out).mono ?_
      rintro e w5 ⟨rfl, hb⟩
      have Ba5 : Hid (Below wa.heap.size wa w5) := hb
      have HB5 : Hid (Below w.heap.size w w5) := bT HBa.out hb
      clear hb HFj'
      cases hg : getF l n with
      | none =>
        have HZ : Hid (Z = 4) := by
          have h4 : stF l ⟨n, o, m⟩ = 4 := stF_none hg
          have := HN.out (by rw [h4]; decide)
          rw [h4] at this
          exact this
        clear HN HO2 hg
        dsimp only [Option.getD, Option.isSome, zF, fV]
        go_wp2
        go_ret
        exact ⟨by rw [HZ.out]; rfl, bT HB5.out (al_f _ _)⟩
      | some f =>
        obtain ⟨fn, fk, fm⟩ := f
        dsimp only [Option.getD, Option.isSome, fV]
        obtain ⟨W0, hW0⟩ : ∃ W0, W0 = w5.alloc (.cells #[.string fn, .int .i64 fk, .bool fm] 61) := ⟨_, rfl⟩
        have HB0 : Hid (Below w.heap.size w W0) := by show Below _ _ _; rw [hW0]; exact bT HB5.out (al_f _ _)
        have Ba0 : Hid (Below wa.heap.size wa W0) := by show Below _ _ _; rw [hW0]; exact bT Ba5.out (al_f _ _)
        have hkf : W0.heap[w5.heap.size]? = some (.cells #[.string fn, .int .i64 fk, .bool fm] 61 (0, 0)) := by rw [hW0]; exact nw_at _ _
        have HKf : Hid (∀ W, Below W0.heap.size W0 W → W.heap[w5.heap.size]? = some (.cells #[.string fn, .int .i64 fk, .bool fm] 61 (0, 0))) := fun W h => (h.block _ (Array.getElem?_eq_some_iff.1 hkf).1).trans hkf
        clear hkf
        by_cases h1 : o = 1
        · have hm0 : m = [] := (may_one HMj.out).1 h1
          have HO3' := HO2.out (stF_nil hg hm0)
          have HO3 : Hid (∀ i (hi : i < F.length), i < j + 1 → stF l F[i].y = 0) := HO3'
          subst h1
          clear HO3' HO2 HN hg hm0
          go_wp2_with fail
          rw [← hW0]
          clear hW0
          refine wp_region_quiet (C := fun w' => Below W0.heap.size W0 w') (by kernel_rfl) (by kernel_rfl) ((Below.refl _ _).drew) ?_
          dsimp only
          repeat (first
            | go_big_quiet_skip
            | (go_big_quiet_want
               apply Exists.intro
               refine ⟨fun W' hW' => ?_, ?_⟩
               · have hw : Below W0.heap.size W0 W' := hW'
                 have hk1 := HKa.out W' (bT Ba0.out hw)
                 have hk2 := HKf.out W' hw
                 have s1 : W'.cell? ⟨wr.heap.size, 1, none⟩ = some (.int .i64 1) := by rw [Lib.cell_of_heap hk1]; rfl
                 have s2 : W'.cell? ⟨wr.heap.size, 2, none⟩ = some (.slice a m.length c) := by rw [Lib.cell_of_heap hk1]; rfl
                 have t1 : W'.cell? ⟨w5.heap.size, 1, none⟩ = some (.int .i64 fk) := by rw [Lib.cell_of_heap hk2]; rfl
                 clear hk1 hk2
                 go_simp
                 first
                   | done
                   | rfl
               go_big_quiet_on
               try simp only [Act.put, List.setIfInBounds_toArray, List.set_cons_zero, List.set_cons_succ]))
          refine wpQuiet_nil ?_
          intro w7 hq7
          have HB7 : Hid (Below w.heap.size w w7) := bT HB0.out hq7
          clear hq7
          go_wp2
          go_roundw
          case rel => exact ⟨j + 1, by omega, by simp, HO3.out, HB7.out⟩
          case measure => simp [intOf]; omega
        have d1 : (o != 1) = true := by simp [h1]
        obtain ⟨x0, r, rfl⟩ : ∃ x r, m = x :: r := by
          cases m with
          | nil => exact absurd ((may_one HMj.out).2 rfl) h1
          | cons x r => exact ⟨x, r, rfl⟩
        obtain ⟨b1, o1, rfl, -, -⟩ := items_at (HRj.out w (Below.refl _ _)) 0 (by simp)
        have HX : Hid (∀ W, Below w.heap.size w W → W.cell? ⟨b1, o1, none⟩ = some (.int .i64 x0.k)) := fun W h => by
          obtain ⟨b', o', hv, -, p0, -, -⟩ := items_at (HRj.out W h) 0 (by simp)
          simp only [Option.some.injEq, Addr.mk.injEq] at hv
          obtain ⟨rfl, rfl, -⟩ := hv
          simp only [Nat.zero_mul, Nat.add_zero, List.getElem_cons_zero] at p0
          exact p0
        have hst := stF_cons hg (y := ⟨n, o, x0 :: r⟩) rfl
        have hm1 : x0 :: r ≠ [] := List.cons_ne_nil _ _
        have hm2 : 0 < (x0 :: r).length := by simp
        have hm3 : (0 : Int) < ((x0 :: r).length : Int) := by rw [List.length_cons]; omega
        dsimp only at hst
        have HN2 : Hid ((if x0.k = fk then (0 : Int) else 8) ≠ 0 → Z = if x0.k = fk then 0 else 8) := by rw [← hst]; exact HN.out
        have HO4 : Hid ((if x0.k = fk then (0 : Int) else 8) = 0 → ∀ i (hi : i < F.length), i < j + 1 → stF l F[i].y = 0) := by rw [← hst]; exact HO2.out
        obtain ⟨xk, xn, xs⟩ := x0
        dsimp only at HX HN2 HO4
        clear HN HO2 hst hg HRj HMj
        generalize hmm : (⟨xk, xn, xs⟩ : It) :: r = m at *
        clear hmm
        by_cases hk : xk = fk
        · subst hk
          have HO3' := HO4.out (if_pos rfl)
          have HO3 : Hid (∀ i (hi : i < F.length), i < j + 1 → stF l F[i].y = 0) := HO3'
          clear HO3' HO4 HN2
          go_wp2_with fail
          rw [← hW0]
          clear hW0
          refine wp_region_quiet (C := fun w' => Below W0.heap.size W0 w') (by kernel_rfl) (by kernel_rfl) ((Below.refl _ _).drew) ?_
          dsimp only
          repeat (first
            | go_big_quiet_skip
            | (go_big_quiet_want
               apply Exists.intro
               refine ⟨fun W' hW' => ?_, ?_⟩
               · have hw : Below W0.heap.size W0 W' := hW'
                 have hk1 := HKa.out W' (bT Ba0.out hw)
                 have hk2 := HKf.out W' hw
                 have s1 : W'.cell? ⟨wr.heap.size, 1, none⟩ = some (.int .i64 o) := by rw [Lib.cell_of_heap hk1]; rfl
                 have s2 : W'.cell? ⟨wr.heap.size, 2, none⟩ = some (.slice (some ⟨b1, o1, none⟩) m.length c) := by rw [Lib.cell_of_heap hk1]; rfl
                 have t1 : W'.cell? ⟨w5.heap.size, 1, none⟩ = some (.int .i64 xk) := by rw [Lib.cell_of_heap hk2]; rfl
                 clear hk1 hk2
                 have v0 := HX.out W' (bT HB0.out hw)
                 go_simp
                 first
                   | done
                   | rfl
               go_big_quiet_on
               try simp only [Act.put, List.setIfInBounds_toArray, List.set_cons_zero, List.set_cons_succ]))
          refine wpQuiet_nil ?_
          intro w7 hq7
          have HB7 : Hid (Below w.heap.size w w7) := bT HB0.out hq7
          clear hq7
          go_wp2
          go_roundw
          case rel => exact ⟨j + 1, by omega, by simp, HO3.out, HB7.out⟩
          case measure => simp [intOf]; omega
        · have dk : (xk != fk) = true := by simp [hk]
          have HZ : Hid (Z = 8) := by
            have := HN2.out (by rw [if_neg hk]; decide)
            rw [if_neg hk] at this
            exact this
          clear HO4 HN2
          go_wp2_with fail
          rw [← hW0]
          clear hW0
          refine wp_region_quiet (C := fun w' => Below W0.heap.size W0 w') (by kernel_rfl) (by kernel_rfl) ((Below.refl _ _).drew) ?_
          dsimp only
          repeat (first
            | go_big_quiet_skip
            | (go_big_quiet_want
               apply Exists.intro
               refine ⟨fun W' hW' => ?_, ?_⟩
               · have hw : Below W0.heap.size W0 W' := hW'
                 have hk1 := HKa.out W' (bT Ba0.out hw)
                 have hk2 := HKf.out W' hw
                 have s1 : W'.cell? ⟨wr.heap.size, 1, none⟩ = some (.int .i64 o) := by rw [Lib.cell_of_heap hk1]; rfl
                 have s2 : W'.cell? ⟨wr.heap.size, 2, none⟩ = some (.slice (some ⟨b1, o1, none⟩) m.length c) := by rw [Lib.cell_of_heap hk1]; rfl
                 have t1 : W'.cell? ⟨w5.heap.size, 1, none⟩ = some (.int .i64 fk) := by rw [Lib.cell_of_heap hk2]; rfl
                 clear hk1 hk2
                 have v0 := HX.out W' (bT HB0.out hw)
                 go_simp
                 first
                   | done
                   | rfl
               go_big_quiet_on
               try simp only [Act.put, List.setIfInBounds_toArray, List.set_cons_zero, List.set_cons_succ]))
          refine wpQuiet_nil ?_
          intro w7 hq7
          have HB7 : Hid (Below w.heap.size w w7) := bT HB0.out hq7
          clear hq7
          go_wp2
          go_ret
          exact ⟨by rw [HZ.out]; rfl, HB7.out⟩
    · have hnl := hlk
      have dj : decide ((j : Int) < (F.length : Int)) = false := by simp; omega
      have HZ : Hid (Z = 0) := HAll.out fun i hi => HO.out i hi (by omega)
      clear HO HAll HAt
      go_wp2
      go_ret
      exact ⟨by rw [HZ.out]; rfl, HB.out⟩
set_option maxRecDepth 100000 in
set_option maxHeartbeats 8000000 in
theorem fits8_any (u : Value) (l : List Fd) (v : Value) (F : List PR) (D : List Pd) (w : World) (hu : IsRow w 3 u l.length (fCells l)) (hll : l.length ≤ 1000000) (hv : IsFl w v F) (hD : F.map (·.y) = D) (hl : F.length ≤ 1000000) (hn : ∀ y ∈ D, NmP y) (hnl : NmR l) :
    Calls Tryz.prog 14 #[u, v] w fun e w' => e = .returned (.int .i64 (fitsX l D)) ∧ Below w.heap.size w w' := by
  obtain ⟨a0, c0, rfl⟩ := hu.form
  obtain ⟨a1, c1, rfl⟩ := hv.1.form
  have hDl : D.length = F.length := by rw [← hD, List.length_map]
  have HS : Hid (Calls Tryz.prog 32 #[.slice a0 l.length c0] w fun e w' => e = .returned (.bool (chkF l)) ∧ Below w.heap.size w w') := refCheckF_any _ l w hu hll hnl
  have HP : Hid (∀ W, Below w.heap.size w W → Calls Tryz.prog 11 #[.slice a1 F.length c1] W fun e w' => e = .returned (.bool (chkFl D)) ∧ Below W.heap.size W w') := fun W hb => check8_any _ F D W (hv.below hb) hD hl hn
  have HFi : Hid (∀ i (h : i < F.length), ∀ W, Below w.heap.size w W → Calls Tryz.prog 33 #[.slice a0 l.length c0, .string F[i].y.n] W fun e w' => ∃ r, e = .returned (.int .i64 r) ∧ FiR l F[i].y.n r ∧ Below W.heap.size W w') := fun i h W hb => refFindF_any _ l _ W (hu.below hb) hll hnl (hn _ (by rw [← hD]; exact List.mem_map.2 ⟨F[i], List.getElem_mem h, rfl⟩)).1
  clear hnl
  have HR : Hid (∀ W, Below w.heap.size w W → IsFl W (.slice a1 F.length c1) F) := fun W hb => hv.below hb
  have HU : Hid (IsRow w 3 (.slice a0 l.length c0) l.length (fCells l)) := hu
  have hEl : ∀ i (h : i < F.length) (h2 : i < D.length), D[i] = F[i].y := fun i h h2 => by
    have e : D[i] = (F.map (·.y))[i]'(by rw [List.length_map]; exact h) := by simp only [hD]
    rw [e, List.getElem_map]
  have HMy : Hid (chkFl D = true → ∀ i (h : i < F.length), mayP F[i].y = true) := fun hc i h => chk_may hc _ (by rw [← hD]; exact List.mem_map.2 ⟨F[i], List.getElem_mem h, rfl⟩)
  have HAt : Hid (∀ j (h : j < F.length), (∀ i (hi : i < F.length), i < j → stF l F[i].y = 0) → stF l F[j].y ≠ 0 → fgo l D = stF l F[j].y) := fun j h h1 h2 => by
    rw [← hEl j h (by omega)] at h2 ⊢
    exact fgo_at _ (fun i hi hij => by rw [hEl i (by omega)]; exact h1 i (by omega) hij) h2
  have HAll : Hid ((∀ i (hi : i < F.length), stF l F[i].y = 0) → fgo l D = 0) := fun h => fgo_all fun i hi => by rw [hEl i (by omega)]; exact h i (by omega)
  obtain ⟨R, hR⟩ : ∃ R, fitsX l D = R := ⟨_, rfl⟩
  rw [hR]
  have HRs : Hid ((if (chkF l && chkFl D) = true then fgo l D else 1) = R) := hR
  clear hR
  generalize fgo l D = Z at *
  generalize chkF l = X1 at *
  generalize chkFl D = X2 at *
  clear hu hv hD hn hDl hEl
  go_enter Tryz.func14, Tryz.ntmps14
  go_wp2_with fail
  refine HS.out.mono ?_
  rintro e w1 ⟨rfl, hb⟩
  have B1 : Hid (Below w.heap.size w w1) := hb
  clear hb HS
  cases X1 with
  | false =>
    obtain rfl : (1 : Int) = R := HRs.out
    go_wp2
    go_ret
    exact ⟨rfl, B1.out⟩
  | true =>
  go_wp2_with fail
  refine (HP.out _ B1.out).mono ?_
  rintro e w2 ⟨rfl, hb⟩
  have B2 : Hid (Below w.heap.size w w2) := bT B1.out hb
  clear hb HP
  cases X2 with
  | false =>
    obtain rfl : (1 : Int) = R := HRs.out
    go_wp2
    go_ret
    exact ⟨rfl, B2.out⟩
  | true =>
  obtain rfl : Z = R := HRs.out
  clear HRs
  have HMy2 : Hid (∀ i (h : i < F.length), mayP F[i].y = true) := HMy.out (by trivial)
  clear HMy
  go_wp2_with fail
  go_loopw [5] (fun i wr => ∃ j : Nat, j ≤ F.length ∧ i = .int .i64 (j : Int) ∧ Hid (∀ i (hi : i < F.length), i < j → stF l F[i].y = 0) ∧ Hid (Below w.heap.size w wr)) (fun i _ => F.length - (intOf i).toNat)
  case atStart => exact ⟨0, by omega, rfl, (fun k h hj => absurd hj (Nat.not_lt_zero _)), B2.out⟩
  case round =>
    obtain ⟨j, hj, rfl, HO, HB⟩ := hrel
    by_cases hlk : j < F.length
    · have dj : decide ((j : Int) < (F.length : Int)) = true := by simp; omega
      obtain ⟨b0, o0, rfl, hlt, p0, p1, p2⟩ := p_at (HR.out w (Below.refl _ _)).1 j hlk
      have HY : Hid (∀ W, Below w.heap.size w W → W.cell? ⟨b0, o0 + j * 3, none⟩ = some (.string F[j].y.n) ∧ W.cell? ⟨b0, o0 + j * 3 + 1, none⟩ = some (.int .i64 F[j].y.o) ∧ W.cell? ⟨b0, o0 + j * 3 + 2, none⟩ = some F[j].v) := fun W h => ⟨(h.cell (p := ⟨b0, _, none⟩) hlt).trans p0, (h.cell (p := ⟨b0, _, none⟩) hlt).trans p1, (h.cell (p := ⟨b0, _, none⟩) hlt).trans p2⟩
      have q1 : (0 : Int) ≤ (j : Int) := by omega
      have q2 : (j : Int) < (F.length : Int) := by omega
      have HRj : Hid (∀ W, Below w.heap.size w W → IsRow W 3 F[j].v F[j].y.l.length (itCells F[j].y.l)) := fun W hb => (HR.out W hb).2 _ (List.getElem_mem hlk)
      have HMj : Hid (mayP F[j].y = true) := HMy2.out j hlk
      have HFj := HFi.out j hlk
      have HO2 : Hid (stF l F[j].y = 0 → ∀ i (hi : i < F.length), i < j + 1 → stF l F[i].y = 0) := fun hs k h hk => by
        by_cases e : k = j
        · subst e; exact hs
        · exact HO.out k h (by omega)
      have HN : Hid (stF l F[j].y ≠ 0 → Z = stF l F[j].y) := fun h => HAt.out j hlk (fun i hi hij => HO.out i hi hij) h
      clear hlt p0 p1 p2 HO HAt HAll HMy2 HFi HR
      generalize F[j]'hlk = x at *
      obtain ⟨⟨n, o, m⟩, a, c⟩ := x
      dsimp only [PR.v] at HY HRj HN HO2 HFj HMj
      have HFj' : Hid (∀ W, Below w.heap.size w W → Calls Tryz.prog 33 #[.slice a0 l.length c0, .string n] W fun e w' => ∃ r, e = .returned (.int .i64 r) ∧ FiR l n r ∧ Below W.heap.size W w') := HFj
      clear HFj
      obtain ⟨g0, g1, g2⟩ := HY.out wr HB.out
      go_wp2_with fail
      clear g0 g1 g2
      refine (HFj'.out _ HB.out).mono ?_
      rintro e W0 ⟨q, rfl, hg, hb⟩
      have HB0 : Hid (Below w.heap.size w W0) := bT HB.out hb
      clear hb HFj'
      rcases hg with ⟨k, hk, rfl, hg⟩ | ⟨rfl, hg⟩
      rotate_left
      · have HZ : Hid (Z = 4) := by
          have h4 : stF l ⟨n, o, m⟩ = 4 := stF_none hg
          have := HN.out (by rw [h4]; decide)
          rw [h4] at this
          exact this
        clear HN HO2 hg
        go_wp2
        go_ret
        exact ⟨by rw [HZ.out]; rfl, HB0.out⟩
      have dq : decide ((k : Int) < 0) = false := decide_eq_false (by omega)
      have q3 : (0 : Int) ≤ (k : Int) := by omega
      have q4 : (k : Int) < (l.length : Int) := by omega
      obtain ⟨bf, of_, rfl, hltf, -, hcf⟩ := f_at HU.out (by omega)
      have HKf : Hid (∀ W, Below w.heap.size w W → W.cell? ⟨bf, of_ + k * 3 + 1, none⟩ = some (.int .i64 l[k].k)) := fun W h => (h.cell (p := ⟨bf, _, none⟩) hltf).trans (hcf k hk).2.1
      clear hltf hcf HU
      generalize l[k] = f at *
      obtain ⟨fn, fk, fm⟩ := f
      dsimp only at HKf
      cases m with
      | nil =>
        have HO3' := HO2.out (stF_nil hg rfl)
        have HO3 : Hid (∀ i (hi : i < F.length), i < j + 1 → stF l F[i].y = 0) := HO3'
        clear HO3' HO2 HN hg
        dsimp only [List.length] at HY HRj
        go_wp2_with fail
        refine wp_region_quiet (C := fun w' => Below W0.heap.size W0 w') (by kernel_rfl) (by kernel_rfl) ((Below.refl _ _).drew) ?_
        dsimp only
        repeat (first
          | go_big_quiet_skip
          | (go_big_quiet_want
             apply Exists.intro
             refine ⟨fun W' hW' => ?_, ?_⟩
             · have hw : Below W0.heap.size W0 W' := hW'
               obtain ⟨g0, g1, g2⟩ := HY.out W' (bT HB0.out hw)
               have v1 := HKf.out W' (bT HB0.out hw)
               go_simp
               first
                 | done
                 | rfl
             go_big_quiet_on
             try simp only [Act.put, List.setIfInBounds_toArray, List.set_cons_zero, List.set_cons_succ]))
        refine wpQuiet_nil ?_
        intro w7 hq7
        have HB7 : Hid (Below w.heap.size w w7) := bT HB0.out hq7
        clear hq7
        go_wp2
        go_roundw
        case rel => exact ⟨j + 1, by omega, by simp, HO3.out, HB7.out⟩
        case measure => simp [intOf]; omega
      | cons x0 r =>
        obtain ⟨b1, o1, rfl, -, -⟩ := items_at (HRj.out w (Below.refl _ _)) 0 (by simp)
        have HX : Hid (∀ W, Below w.heap.size w W → W.cell? ⟨b1, o1, none⟩ = some (.int .i64 x0.k)) := fun W h => by
          obtain ⟨b', o', hv, -, p0, -, -⟩ := items_at (HRj.out W h) 0 (by simp)
          simp only [Option.some.injEq, Addr.mk.injEq] at hv
          obtain ⟨rfl, rfl, -⟩ := hv
          simp only [Nat.zero_mul, Nat.add_zero, List.getElem_cons_zero] at p0
          exact p0
        have hst := stF_cons hg (y := ⟨n, o, x0 :: r⟩) rfl
        have hm1 : x0 :: r ≠ [] := List.cons_ne_nil _ _
        have hm2 : 0 < (x0 :: r).length := by simp
        have hm3 : (0 : Int) < ((x0 :: r).length : Int) := by rw [List.length_cons]; omega
        dsimp only at hst
        have HN2 : Hid ((if x0.k = fk then (0 : Int) else 8) ≠ 0 → Z = if x0.k = fk then 0 else 8) := by rw [← hst]; exact HN.out
        have HO4 : Hid ((if x0.k = fk then (0 : Int) else 8) = 0 → ∀ i (hi : i < F.length), i < j + 1 → stF l F[i].y = 0) := by rw [← hst]; exact HO2.out
        obtain ⟨xk, xn, xs⟩ := x0
        dsimp only at HX HN2 HO4
        clear HN HO2 hst hg HRj HMj
        generalize hmm : (⟨xk, xn, xs⟩ : It) :: r = m at *
        clear hmm
        by_cases hk2 : xk = fk
        · subst hk2
          have HO3' := HO4.out (if_pos rfl)
          have HO3 : Hid (∀ i (hi : i < F.length), i < j + 1 → stF l F[i].y = 0) := HO3'
          clear HO3' HO4 HN2
          go_wp2_with fail
          refine wp_region_quiet (C := fun w' => Below W0.heap.size W0 w') (by kernel_rfl) (by kernel_rfl) ((Below.refl _ _).drew) ?_
          dsimp only
          repeat (first
            | go_big_quiet_skip
            | (go_big_quiet_want
               apply Exists.intro
               refine ⟨fun W' hW' => ?_, ?_⟩
               · have hw : Below W0.heap.size W0 W' := hW'
                 obtain ⟨g0, g1, g2⟩ := HY.out W' (bT HB0.out hw)
                 have v1 := HKf.out W' (bT HB0.out hw)
                 have v0 := HX.out W' (bT HB0.out hw)
                 go_simp
                 first
                   | done
                   | rfl
               go_big_quiet_on
               try simp only [Act.put, List.setIfInBounds_toArray, List.set_cons_zero, List.set_cons_succ]))
          refine wpQuiet_nil ?_
          intro w7 hq7
          have HB7 : Hid (Below w.heap.size w w7) := bT HB0.out hq7
          clear hq7
          go_wp2
          go_roundw
          case rel => exact ⟨j + 1, by omega, by simp, HO3.out, HB7.out⟩
          case measure => simp [intOf]; omega
        · have dk : (xk != fk) = true := by simp [hk2]
          have HZ : Hid (Z = 8) := by
            have := HN2.out (by rw [if_neg hk2]; decide)
            rw [if_neg hk2] at this
            exact this
          clear HO4 HN2
          go_wp2_with fail
          refine wp_region_quiet (C := fun w' => Below W0.heap.size W0 w') (by kernel_rfl) (by kernel_rfl) ((Below.refl _ _).drew) ?_
          dsimp only
          repeat (first
            | go_big_quiet_skip
            | (go_big_quiet_want
               apply Exists.intro
               refine ⟨fun W' hW' => ?_, ?_⟩
               · have hw : Below W0.heap.size W0 W' := hW'
                 obtain ⟨g0, g1, g2⟩ := HY.out W' (bT HB0.out hw)
                 have v1 := HKf.out W' (bT HB0.out hw)
                 have v0 := HX.out W' (bT HB0.out hw)
                 go_simp
                 first
                   | done
                   | rfl
               go_big_quiet_on
               try simp only [Act.put, List.setIfInBounds_toArray, List.set_cons_zero, List.set_cons_succ]))
          refine wpQuiet_nil ?_
          intro w7 hq7
          have HB7 : Hid (Below w.heap.size w w7) := bT HB0.out hq7
          clear hq7
          go_wp2
          go_ret
          exact ⟨by rw [HZ.out]; rfl, HB7.out⟩
    · have hnl := hlk
      have dj : decide ((j : Int) < (F.length : Int)) = false := by simp; omega
      have HZ : Hid (Z = 0) := HAll.out fun i hi => HO.out i hi (by omega)
      clear HO HAll HAt
      go_wp2
      go_ret
      exact ⟨by rw [HZ.out]; rfl, HB.out⟩
end Go.Proofs.YtbekpemidpngaaaGreatDoor
/- law08's Few: a walk. -/
namespace Go.Proofs.YtbekpemidpngaaaGreatDoor
open Go.RowKit

/-- Is a predicate not more than statements go through? -/
def okP (y : Pd) : Bool := decide (y.n.size ≤ 200) && (decide (y.l.length ≤ 30) && y.l.all fun x => decide (x.s.size ≤ 500))
/-- Is a filter not more than statements go through? -/
def few8 (D : List Pd) : Bool := decide (D.length ≤ 21) && D.all okP
theorem few8_len {F : List PR} (h : 21 < F.length) : few8 (F.map (·.y)) = false := by
  unfold few8
  rw [List.length_map, decide_eq_false (by omega), Bool.false_and]
theorem few8_no {F : List PR} {i : Nat} (hi : i < F.length) (h : okP F[i].y = false) : few8 (F.map (·.y)) = false := by
  unfold few8
  rw [Bool.and_eq_false_iff]
  right
  rw [List.all_eq_false]
  exact ⟨F[i].y, List.mem_map.2 ⟨F[i], List.getElem_mem hi, rfl⟩, by rw [h]; decide⟩
theorem few8_yes {F : List PR} (h21 : F.length ≤ 21) (h : ∀ i (hi : i < F.length), okP F[i].y = true) : few8 (F.map (·.y)) = true := by
  unfold few8
  rw [List.length_map, decide_eq_true h21, Bool.true_and, List.all_eq_true]
  intro y hy
  obtain ⟨x, hx, rfl⟩ := List.mem_map.1 hy
  obtain ⟨i, hi, rfl⟩ := List.mem_iff_getElem.1 hx
  exact h i hi
set_option maxRecDepth 100000 in
set_option maxHeartbeats 4000000 in
theorem few8_any (v : Value) (F : List PR) (w : World) (hr : IsFl w v F) (hl : F.length ≤ 140737488355328) (hL : ∀ x ∈ F, x.y.l.length ≤ 140737488355328) :
    Calls Tryz.prog 7 #[v] w fun e w' => e = .returned (.bool (few8 (F.map (·.y)))) ∧ w' = w := by
  obtain ⟨a0, c0, rfl⟩ := hr.1.form
  have HR : Hid (IsRow w 3 (.slice a0 F.length c0) F.length (pCells F)) := hr.1
  have HE : Hid (∀ i (hi : i < F.length), IsRow w 3 F[i].v F[i].y.l.length (itCells F[i].y.l) ∧ F[i].y.l.length ≤ 140737488355328) := fun i hi => ⟨hr.2 _ (List.getElem_mem hi), hL _ (List.getElem_mem hi)⟩
  have HLen : Hid (21 < F.length → few8 (F.map (·.y)) = false) := few8_len
  have HNo : Hid (∀ i (hi : i < F.length), okP F[i].y = false → few8 (F.map (·.y)) = false) := fun i hi h => few8_no hi h
  have HYes : Hid (F.length ≤ 21 → (∀ i (hi : i < F.length), okP F[i].y = true) → few8 (F.map (·.y)) = true) := few8_yes
  generalize few8 (F.map (·.y)) = Z at *
  clear hr hL
  go_enter Tryz.func7, Tryz.ntmps7
  go_wp2_with fail
  go_loopw [3, 4] (fun i _ wr => wr = w ∧ ∃ j : Nat, j ≤ F.length ∧ j ≤ 21 ∧ i = .int .i64 (j : Int) ∧ Hid (∀ k (h : k < F.length), k < j → okP F[k].y = true)) (fun i _ _ => F.length - (intOf i).toNat)
  case atStart => exact ⟨rfl, 0, by omega, by omega, rfl, fun k h hj => absurd hj (Nat.not_lt_zero _)⟩
  case round =>
    obtain ⟨rfl, j, hj, hj21, rfl, HO⟩ := hrel
    by_cases hlk : j < F.length
    · have dj : decide ((j : Int) < (F.length : Int)) = true := by simp; omega
      by_cases h20 : 20 < j
      · have d20 : decide ((20 : Int) < (j : Int)) = true := by simp; omega
        have HZ : Hid (Z = false) := HLen.out (by omega)
        clear HO HE HR HLen HNo HYes
        go_wp2
        go_ret
        exact ⟨by rw [HZ.out]; rfl, rfl⟩
      have d20 : decide ((20 : Int) < (j : Int)) = false := by simp; omega
      obtain ⟨b0, o0, rfl, hlt, c0', c1, c2⟩ := p_at HR.out j hlk
      obtain ⟨he, hel⟩ := HE.out j hlk
      have q1 : (0 : Int) ≤ (j : Int) := by omega
      have q2 : (j : Int) < (F.length : Int) := by omega
      have HNj : Hid (okP F[j].y = false → Z = false) := fun h => HNo.out j hlk h
      have HOn : Hid (okP F[j].y = true → ∀ k (h : k < F.length), k < j + 1 → okP F[k].y = true) := fun hs k h hk => by
        by_cases e : k = j
        · subst e; exact hs
        · exact HO.out k h (by omega)
      clear HO HE HNo
      generalize F[j]'hlk = x at *
      obtain ⟨⟨n, o, l⟩, a, c⟩ := x
      dsimp only [PR.v] at *
      have hok : okP ⟨n, o, l⟩ = (decide (n.size ≤ 200) && (decide (l.length ≤ 30) && l.all fun x => decide (x.s.size ≤ 500))) := rfl
      by_cases hn : 200 < n.size
      · have dn : decide ((200 : Int) < (n.size : Int)) = true := by simp; omega
        have HZ : Hid (Z = false) := HNj.out (by rw [hok, decide_eq_false (by omega), Bool.false_and])
        clear HNj HOn hok HLen HYes he
        go_wp2
        go_ret
        exact ⟨by rw [HZ.out]; rfl, rfl⟩
      have dn : decide ((200 : Int) < (n.size : Int)) = false := by simp; omega
      by_cases h30 : 30 < l.length
      · have d30 : decide ((30 : Int) < (l.length : Int)) = true := by simp; omega
        have HZ : Hid (Z = false) := HNj.out (by rw [hok, decide_eq_false (show ¬ l.length ≤ 30 by omega), Bool.false_and, Bool.and_false])
        clear HNj HOn hok HLen HYes he
        go_wp2
        go_ret
        exact ⟨by rw [HZ.out]; rfl, rfl⟩
      have d30 : decide ((30 : Int) < (l.length : Int)) = false := by simp; omega
      have HAl : Hid ((∀ k (h : k < l.length), l[k].s.size ≤ 500) → ∀ k (h : k < F.length), k < j + 1 → okP F[k].y = true) := fun hh => HOn.out (by
        rw [hok, decide_eq_true (by omega), decide_eq_true (by omega), Bool.true_and, Bool.true_and, List.all_eq_true]
        intro x hx
        obtain ⟨i, hi, rfl⟩ := List.mem_iff_getElem.1 hx
        exact decide_eq_true (hh i hi))
      have HBad : Hid (∀ k (h : k < l.length), 500 < l[k].s.size → Z = false) := fun k h hh => HNj.out (by
        rw [hok, Bool.and_eq_false_iff]
        right
        rw [Bool.and_eq_false_iff]
        right
        rw [List.all_eq_false]
        exact ⟨l[k], List.getElem_mem h, by rw [decide_eq_false (by omega)]; decide⟩)
      have HIt : Hid (IsRow wr 3 (.slice a l.length c) l.length (itCells l)) := he
      have HC : Hid (wr.cell? ⟨b0, o0 + j * 3 + 2, none⟩ = some (.slice a l.length c)) := c2
      clear HNj HOn hok he
      go_wp2_with fail
      obtain ⟨w0, hw0⟩ : ∃ w0, w0 = wr := ⟨_, rfl⟩
      rw [← hw0] at HC HIt HR
      clear c0' c1 c2 hlt
      rw [← hw0]
      have HW0 : Hid (w0 = wr) := hw0
      clear hw0
      go_loopw [4] (fun i wq => wq = w0 ∧ ∃ m : Nat, m ≤ l.length ∧ i = .int .i64 (m : Int) ∧ Hid (∀ k (h : k < l.length), k < m → l[k].s.size ≤ 500)) (fun i _ => l.length - (intOf i).toNat)
      case atStart => exact ⟨rfl, 0, by omega, rfl, fun k h hj => absurd hj (Nat.not_lt_zero _)⟩
      case round =>
        obtain ⟨rfl, m, hm, rfl, HM⟩ := hrel
        have c2 := HC.out
        by_cases hlm : m < l.length
        · have dm : decide ((m : Int) < (l.length : Int)) = true := by simp; omega
          obtain ⟨b1, o1, rfl, hlt1, e0, e1, e2⟩ := items_at HIt.out m hlm
          have r1 : (0 : Int) ≤ (m : Int) := by omega
          have r2 : (m : Int) < (l.length : Int) := by omega
          have HMn : Hid (l[m].s.size ≤ 500 → ∀ k (h : k < l.length), k < m + 1 → l[k].s.size ≤ 500) := fun hs k h hk => by
            by_cases e : k = m
            · subst e; exact hs
            · exact HM.out k h (by omega)
          have HBm : Hid (500 < l[m].s.size → Z = false) := HBad.out m hlm
          clear HM HBad HAl
          generalize l[m]'hlm = y at *
          obtain ⟨yk, yn, ys⟩ := y
          dsimp only at *
          by_cases h5 : 500 < ys.size
          · have d5 : decide ((500 : Int) < (ys.size : Int)) = true := by simp; omega
            have HZ : Hid (Z = false) := HBm.out h5
            clear HMn HBm HLen HYes
            go_wp2
            go_ret
            exact ⟨by rw [HZ.out]; rfl, HW0.out⟩
          · have d5 : decide ((500 : Int) < (ys.size : Int)) = false := by simp; omega
            have HM2 : Hid (∀ k (h : k < l.length), k < m + 1 → l[k].s.size ≤ 500) := HMn.out (by omega)
            clear HMn HBm
            go_wp2
            go_roundw
            case rel => exact ⟨by trivial, m + 1, by omega, by simp, HM2.out⟩
            case measure => simp [intOf]; omega
        · have dm : decide ((m : Int) < (l.length : Int)) = false := by simp; omega
          have HO2 : Hid (∀ k (h : k < F.length), k < j + 1 → okP F[k].y = true) := HAl.out fun k h => HM.out k h (by omega)
          clear HM HAl HBad
          go_wp2
          go_roundw
          case rel => exact ⟨HW0.out, j + 1, by omega, by omega, by simp, HO2.out⟩
          case measure => simp [intOf]; omega
    · have dj : decide ((j : Int) < (F.length : Int)) = false := by simp; omega
      have HZ : Hid (Z = true) := HYes.out (by omega) fun i hi => HO.out i hi (by omega)
      clear HO HE HNo HYes HR HLen
      go_wp2
      go_ret
      exact ⟨by rw [HZ.out]; rfl, rfl⟩
end Go.Proofs.YtbekpemidpngaaaGreatDoor
/- FilterBoth: a row of predicates behind another, the mathematics, the law's walk. -/
namespace Go.Proofs.YtbekpemidpngaaaGreatDoor
open Go.RowKit Go.ChangeMaps

theorem few8_nm {D : List Pd} (h : few8 D = true) : D.length ≤ 21 ∧ ∀ y ∈ D, NmP y := by
  unfold few8 at h
  rw [Bool.and_eq_true, decide_eq_true_eq, List.all_eq_true] at h
  refine ⟨h.1, fun y hy => ?_⟩
  have h1 := h.2 y hy
  unfold okP at h1
  rw [Bool.and_eq_true, Bool.and_eq_true, decide_eq_true_eq, decide_eq_true_eq, List.all_eq_true] at h1
  exact ⟨by omega, by omega, fun x hx => by have := of_decide_eq_true (h1.2.2 x hx); omega⟩
end Go.Proofs.YtbekpemidpngaaaGreatDoor
