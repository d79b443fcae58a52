/- Whether attributes, and events, are the same in all: walks. -/
import Derived.Test.YtacpllmlpmllbaaGreatDoorZk18
import Derived.Test.YtacpllmlpmllbaaGreatDoorZk4
namespace Go.Proofs.YtacpllmlpmllbaaGreatDoor
open Go.RowKit Go.ChangeMaps

def eqA1 (x y : At) : Bool := decide (x.n = y.n) && (decide (x.k = y.k) && (decide (x.v = y.v) && decide (x.s = y.s)))
theorem eqA1_iff (x y : At) : eqA1 x y = true ↔ x = y := by
  obtain ⟨a, b, c, d⟩ := x
  obtain ⟨a', b', c', d'⟩ := y
  unfold eqA1
  simp only [Bool.and_eq_true, decide_eq_true_eq, At.mk.injEq]
/-- Are they the same in all? -/
def samA (a b : List At) : Bool := decide (a.length = b.length) && decide (∀ (k : Nat) (h : k < a.length) (h2 : k < b.length), eqA1 a[k] b[k] = true)
theorem samA_no {a b : List At} {k : Nat} (h : k < a.length) (h2 : k < b.length) (e : eqA1 a[k] b[k] = false) : samA a b = false := by
  unfold samA
  rw [Bool.and_eq_false_iff]
  right
  rw [decide_eq_false_iff_not]
  intro hh
  rw [hh k h h2] at e
  cases e
set_option maxRecDepth 100000 in
set_option maxHeartbeats 4000000 in
theorem eqlA_any (u v : Value) (l m : List At) (w : World) (hu : IsRow w 4 u l.length (aCells l)) (hv : IsRow w 4 v m.length (aCells m)) (hl : l.length ≤ 1000000) (hm : m.length ≤ 1000000) :
    Calls Tryz.prog 47 #[u, v] w fun e w' => e = .returned (.bool (samA l m)) ∧ Below w.heap.size w w' := by
  obtain ⟨a0, c0, rfl⟩ := hu.form
  obtain ⟨a1, c1, rfl⟩ := hv.form
  by_cases hlm : l.length = m.length
  rotate_left
  · have e0 : samA l m = false := by unfold samA; rw [decide_eq_false hlm, Bool.false_and]
    have d0 : ((l.length : Int) != (m.length : Int)) = true := by simp; omega
    have d1 : (l.length != m.length) = true := by simpa using hlm
    rw [e0]
    clear hu hv e0
    go_enter Tryz.func47, Tryz.ntmps47
    go_wp2
    go_ret
    exact ⟨rfl, Below.refl _ _⟩
  have HU : Hid (IsRow w 4 (.slice a0 l.length c0) l.length (aCells l)) := hu
  have HV : Hid (IsRow w 4 (.slice a1 m.length c1) m.length (aCells m)) := hv
  have d0 : ((l.length : Int) != (m.length : Int)) = false := by simp; omega
  have d1 : (l.length != m.length) = false := by simpa using hlm
  have HL : Hid (l.length = m.length) := hlm
  clear hu hv hlm
  obtain ⟨S, HSd⟩ : ∃ S, Hid (samA l m = S) := ⟨_, rfl⟩
  rw [HSd.out]
  go_enter Tryz.func47, Tryz.ntmps47
  go_wp2_with fail
  go_loopw [4, 5, 13] (fun r _ i wr => r = .bool false ∧ ∃ j : Nat, j ≤ l.length ∧ i = .int .i64 (j : Int) ∧ Hid (∀ (k : Nat) (h : k < l.length) (h2 : k < m.length), k < j → eqA1 l[k] m[k] = true) ∧ Hid (Below w.heap.size w wr)) (fun _ _ i _ => l.length - (intOf i).toNat)
  case atStart => exact ⟨rfl, 0, by omega, rfl, (fun k h h2 hj => absurd hj (Nat.not_lt_zero _)), Below.refl _ _⟩
  case round =>
    obtain ⟨rfl, j, hj, rfl, HO, HB⟩ := hrel
    by_cases hlk : j < l.length
    · have dj : decide ((j : Int) < (l.length : Int)) = true := by simp; omega
      have hlk2 : j < m.length := by have := HL.out; omega
      obtain ⟨b0, o0, rfl, hlt0, hcap0, hc0⟩ := a_at HU.out (by omega)
      obtain ⟨b1, o1, rfl, hlt1, hcap1, hc1⟩ := a_at HV.out (by omega)
      have HY : Hid (∀ W, Below w.heap.size w W → (W.cell? ⟨b0, o0 + j * 4, none⟩ = some (.string l[j].n) ∧ W.cell? ⟨b0, o0 + j * 4 + 1, none⟩ = some (.int .i64 l[j].k) ∧ W.cell? ⟨b0, o0 + j * 4 + 2, none⟩ = some (.int .i64 l[j].v) ∧ W.cell? ⟨b0, o0 + j * 4 + 3, none⟩ = some (.string l[j].s)) ∧ (W.cell? ⟨b1, o1 + j * 4, none⟩ = some (.string m[j].n) ∧ W.cell? ⟨b1, o1 + j * 4 + 1, none⟩ = some (.int .i64 m[j].k) ∧ W.cell? ⟨b1, o1 + j * 4 + 2, none⟩ = some (.int .i64 m[j].v) ∧ W.cell? ⟨b1, o1 + j * 4 + 3, none⟩ = some (.string m[j].s))) := fun W h => by
        obtain ⟨p0, p1, p2, p3⟩ := hc0 j hlk
        obtain ⟨q0, q1, q2, q3⟩ := hc1 j hlk2
        have e : ∀ b o, b < w.heap.size → W.cell? ⟨b, o, none⟩ = w.cell? ⟨b, o, none⟩ := fun b o hb => h.cell (p := ⟨b, o, none⟩) hb
        exact ⟨⟨(e _ _ hlt0).trans p0, (e _ _ hlt0).trans p1, (e _ _ hlt0).trans p2, (e _ _ hlt0).trans p3⟩, (e _ _ hlt1).trans q0, (e _ _ hlt1).trans q1, (e _ _ hlt1).trans q2, (e _ _ hlt1).trans q3⟩
      have q1 : (0 : Int) ≤ (j : Int) := by omega
      have q2 : (j : Int) < (l.length : Int) := by omega
      have q3 : (j : Int) < (m.length : Int) := by omega
      have HO2 : Hid (eqA1 l[j] m[j] = true → ∀ (k : Nat) (h : k < l.length) (h2 : k < m.length), k < j + 1 → eqA1 l[k] m[k] = true) := fun hs k h h2 hk => by
        by_cases e : k = j
        · subst e; exact hs
        · exact HO.out k h h2 (by omega)
      have HN : Hid (eqA1 l[j] m[j] = false → S = false) := fun h => HSd.out.symm.trans (samA_no hlk hlk2 h)
      generalize l[j]'hlk = x at *
      generalize m[j]'hlk2 = y at *
      obtain ⟨xn, xk, xv, xs⟩ := x
      obtain ⟨yn, yk, yv, ys⟩ := y
      dsimp only at *
      clear hc0 hc1 HO
      cases hq : eqA1 ⟨xn, xk, xv, xs⟩ ⟨yn, yk, yv, ys⟩ with
      | true =>
        have HO3 := HO2.out hq
        have he := (eqA1_iff _ _).1 hq
        simp only [At.mk.injEq] at he
        obtain ⟨rfl, rfl, rfl, rfl⟩ := he
        have HO4 : Hid (∀ (k : Nat) (h : k < l.length) (h2 : k < m.length), k < j + 1 → eqA1 l[k] m[k] = true) := HO3
        clear hq HN HO2 HO3
        go_wp2_with fail
        refine wp_region_quiet (C := fun w' => Below w.heap.size w w') (by kernel_rfl) (by kernel_rfl) (HB.out.drew) ?_
        dsimp only
        repeat (first
          | go_big_quiet_skip
          | (go_big_quiet_want
             apply Exists.intro
             refine ⟨fun W' hW' => ?_, ?_⟩
             · have hw : Below w.heap.size w W' := hW'
               obtain ⟨⟨g0, g1, g2, g3⟩, k0, k1, k2, k3⟩ := HY.out W' hw
               go_simp
               first
                 | done
                 | rfl
             go_big_quiet_on
             try simp only [Act.put, List.setIfInBounds_toArray, List.set_cons_zero, List.set_cons_succ]))
        refine wpQuiet_nil ?_
        intro w2 hqw2
        have H2 : Hid (Below w.heap.size w w2) := hqw2
        clear hqw2
        go_wp2
        go_roundw
        case rel => exact ⟨rfl, j + 1, by omega, by simp, HO4, H2⟩
        case measure => simp [intOf]; omega
      | false =>
        have HN2 : Hid (S = false) := HN.out hq
        have hne : ¬ (xn.toList = yn.toList ∧ xk = yk ∧ xv = yv ∧ xs.toList = ys.toList) := fun h => by
          obtain ⟨h1, rfl, rfl, h4⟩ := h
          rw [ByteArray.toList_eq, ByteArray.toList_eq] at h1 h4
          obtain rfl : xn = yn := ba_eq h1
          obtain rfl : xs = ys := ba_eq h4
          rw [(eqA1_iff _ _).2 rfl] at hq
          cases hq
        have HE : Hid (∀ W : World, (if xn.toList = yn.toList then if xk = yk then if xv = yv then if xs.toList = ys.toList then Result.ok (Next.value (Value.bool false)) W else Result.ok (Next.value (Value.bool true)) W else Result.ok (Next.value (Value.bool true)) W else Result.ok (Next.value (Value.bool true)) W else Result.ok (Next.value (Value.bool true)) W) = (Result.ok (Next.value (Value.bool true)) W : Result Next)) := fun W => by
          by_cases h1 : xn.toList = yn.toList
          · by_cases h2 : xk = yk
            · by_cases h3 : xv = yv
              · by_cases h4 : xs.toList = ys.toList
                · exact absurd ⟨h1, h2, h3, h4⟩ hne
                · simp [h1, h2, h3, h4]
              · simp [h1, h2, h3]
            · simp [h1, h2]
          · simp [h1]
        clear hq HN HO2 hne
        go_wp2_with fail
        refine wp_region_quiet (C := fun w' => Below w.heap.size w w') (by kernel_rfl) (by kernel_rfl) (HB.out.drew) ?_
        dsimp only
        repeat (first
          | go_big_quiet_skip
          | (go_big_quiet_want
             apply Exists.intro
             refine ⟨fun W' hW' => ?_, ?_⟩
             · have hw : Below w.heap.size w W' := hW'
               obtain ⟨⟨g0, g1, g2, g3⟩, k0, k1, k2, k3⟩ := HY.out W' hw
               go_simp
               first
                 | done
                 | rfl
             go_big_quiet_on
             try simp only [Act.put, List.setIfInBounds_toArray, List.set_cons_zero, List.set_cons_succ]))
        go_big_quiet_want
        refine ⟨.bool true, fun W' hW' => ?_, ?_⟩
        · have hw : Below w.heap.size w W' := hW'
          have := HE.out W'
          go_simp
        go_big_quiet_on
        try simp only [Act.put, List.setIfInBounds_toArray, List.set_cons_zero, List.set_cons_succ]
        refine wpQuiet_nil ?_
        intro w2 hqw2
        have H2 : Hid (Below w.heap.size w w2) := hqw2
        clear hqw2
        go_wp2
        go_ret
        exact ⟨by rw [HN2.out]; rfl, H2.out⟩
    · have dj : decide ((j : Int) < (l.length : Int)) = false := by simp; omega
      have HY : Hid (S = true) := by
        show _ = _
        rw [← HSd.out]
        unfold samA
        rw [decide_eq_true HL.out, decide_eq_true (fun k h h2 => HO.out k h h2 (by omega))]
        rfl
      clear HO
      go_wp2
      go_ret
      exact ⟨by rw [HY.out]; rfl, HB.out⟩
set_option maxRecDepth 100000 in
set_option maxHeartbeats 4000000 in
theorem refSamA_any (u v : Value) (l m : List At) (w : World) (hu : IsRow w 4 u l.length (aCells l)) (hv : IsRow w 4 v m.length (aCells m)) (hl : l.length ≤ 1000000) (hm : m.length ≤ 1000000) :
    Calls Tryz.prog 28 #[u, v] w fun e w' => e = .returned (.bool (samA l m)) ∧ Below w.heap.size w w' := by
  obtain ⟨a0, c0, rfl⟩ := hu.form
  obtain ⟨a1, c1, rfl⟩ := hv.form
  by_cases hlm : l.length = m.length
  rotate_left
  · have e0 : samA l m = false := by unfold samA; rw [decide_eq_false hlm, Bool.false_and]
    have d0 : ((l.length : Int) != (m.length : Int)) = true := by simp; omega
    have d1 : (l.length != m.length) = true := by simpa using hlm
    rw [e0]
    clear hu hv e0
    go_enter Tryz.func28, Tryz.ntmps28
    go_wp2
    go_ret
    exact ⟨rfl, Below.refl _ _⟩
  have HU : Hid (IsRow w 4 (.slice a0 l.length c0) l.length (aCells l)) := hu
  have HV : Hid (IsRow w 4 (.slice a1 m.length c1) m.length (aCells m)) := hv
  have d0 : ((l.length : Int) != (m.length : Int)) = false := by simp; omega
  have d1 : (l.length != m.length) = false := by simpa using hlm
  have HL : Hid (l.length = m.length) := hlm
  clear hu hv hlm
  obtain ⟨S, HSd⟩ : ∃ S, Hid (samA l m = S) := ⟨_, rfl⟩
  rw [HSd.out]
  go_enter Tryz.func28, Tryz.ntmps28
  go_wp2_with fail
  go_loopw [4, 5] (fun r i wr => r = .bool false ∧ ∃ j : Nat, j ≤ l.length ∧ i = .int .i64 (j : Int) ∧ Hid (∀ (k : Nat) (h : k < l.length) (h2 : k < m.length), k < j → eqA1 l[k] m[k] = true) ∧ Hid (Below w.heap.size w wr)) (fun _ i _ => l.length - (intOf i).toNat)
  case atStart => exact ⟨rfl, 0, by omega, rfl, (fun k h h2 hj => absurd hj (Nat.not_lt_zero _)), Below.refl _ _⟩
  case round =>
    obtain ⟨rfl, j, hj, rfl, HO, HB⟩ := hrel
    by_cases hlk : j < l.length
    · have dj : decide ((j : Int) < (l.length : Int)) = true := by simp; omega
      have hlk2 : j < m.length := by have := HL.out; omega
      obtain ⟨b0, o0, rfl, hlt0, hcap0, hc0⟩ := a_at HU.out (by omega)
      obtain ⟨b1, o1, rfl, hlt1, hcap1, hc1⟩ := a_at HV.out (by omega)
      have HY : Hid (∀ W, Below w.heap.size w W → (W.cell? ⟨b0, o0 + j * 4, none⟩ = some (.string l[j].n) ∧ W.cell? ⟨b0, o0 + j * 4 + 1, none⟩ = some (.int .i64 l[j].k) ∧ W.cell? ⟨b0, o0 + j * 4 + 2, none⟩ = some (.int .i64 l[j].v) ∧ W.cell? ⟨b0, o0 + j * 4 + 3, none⟩ = some (.string l[j].s)) ∧ (W.cell? ⟨b1, o1 + j * 4, none⟩ = some (.string m[j].n) ∧ W.cell? ⟨b1, o1 + j * 4 + 1, none⟩ = some (.int .i64 m[j].k) ∧ W.cell? ⟨b1, o1 + j * 4 + 2, none⟩ = some (.int .i64 m[j].v) ∧ W.cell? ⟨b1, o1 + j * 4 + 3, none⟩ = some (.string m[j].s))) := fun W h => by
        obtain ⟨p0, p1, p2, p3⟩ := hc0 j hlk
        obtain ⟨q0, q1, q2, q3⟩ := hc1 j hlk2
        have e : ∀ b o, b < w.heap.size → W.cell? ⟨b, o, none⟩ = w.cell? ⟨b, o, none⟩ := fun b o hb => h.cell (p := ⟨b, o, none⟩) hb
        exact ⟨⟨(e _ _ hlt0).trans p0, (e _ _ hlt0).trans p1, (e _ _ hlt0).trans p2, (e _ _ hlt0).trans p3⟩, (e _ _ hlt1).trans q0, (e _ _ hlt1).trans q1, (e _ _ hlt1).trans q2, (e _ _ hlt1).trans q3⟩
      have q1 : (0 : Int) ≤ (j : Int) := by omega
      have q2 : (j : Int) < (l.length : Int) := by omega
      have q3 : (j : Int) < (m.length : Int) := by omega
      have HO2 : Hid (eqA1 l[j] m[j] = true → ∀ (k : Nat) (h : k < l.length) (h2 : k < m.length), k < j + 1 → eqA1 l[k] m[k] = true) := fun hs k h h2 hk => by
        by_cases e : k = j
        · subst e; exact hs
        · exact HO.out k h h2 (by omega)
      have HN : Hid (eqA1 l[j] m[j] = false → S = false) := fun h => HSd.out.symm.trans (samA_no hlk hlk2 h)
      generalize l[j]'hlk = x at *
      generalize m[j]'hlk2 = y at *
      obtain ⟨xn, xk, xv, xs⟩ := x
      obtain ⟨yn, yk, yv, ys⟩ := y
      dsimp only at *
      clear hc0 hc1 HO
      cases hq : eqA1 ⟨xn, xk, xv, xs⟩ ⟨yn, yk, yv, ys⟩ with
      | true =>
        have HO3 := HO2.out hq
        have he := (eqA1_iff _ _).1 hq
        simp only [At.mk.injEq] at he
        obtain ⟨rfl, rfl, rfl, rfl⟩ := he
        have HO4 : Hid (∀ (k : Nat) (h : k < l.length) (h2 : k < m.length), k < j + 1 → eqA1 l[k] m[k] = true) := HO3
        clear hq HN HO2 HO3
        go_wp2_with fail
        refine wp_region_quiet (C := fun w' => Below w.heap.size w w') (by kernel_rfl) (by kernel_rfl) (HB.out.drew) ?_
        dsimp only
        repeat (first
          | go_big_quiet_skip
          | (go_big_quiet_want
             apply Exists.intro
             refine ⟨fun W' hW' => ?_, ?_⟩
             · have hw : Below w.heap.size w W' := hW'
               obtain ⟨⟨g0, g1, g2, g3⟩, k0, k1, k2, k3⟩ := HY.out W' hw
               go_simp
               first
                 | done
                 | rfl
             go_big_quiet_on
             try simp only [Act.put, List.setIfInBounds_toArray, List.set_cons_zero, List.set_cons_succ]))
        refine wpQuiet_nil ?_
        intro w2 hqw2
        have H2 : Hid (Below w.heap.size w w2) := hqw2
        clear hqw2
        go_wp2
        go_roundw
        case rel => exact ⟨rfl, j + 1, by omega, by simp, HO4, H2⟩
        case measure => simp [intOf]; omega
      | false =>
        have HN2 : Hid (S = false) := HN.out hq
        have hne : ¬ (xn.toList = yn.toList ∧ xk = yk ∧ xv = yv ∧ xs.toList = ys.toList) := fun h => by
          obtain ⟨h1, rfl, rfl, h4⟩ := h
          rw [ByteArray.toList_eq, ByteArray.toList_eq] at h1 h4
          obtain rfl : xn = yn := ba_eq h1
          obtain rfl : xs = ys := ba_eq h4
          rw [(eqA1_iff _ _).2 rfl] at hq
          cases hq
        have HE : Hid (∀ W : World, (if xn.toList = yn.toList then if xk = yk then if xv = yv then if xs.toList = ys.toList then Result.ok (Next.value (Value.bool false)) W else Result.ok (Next.value (Value.bool true)) W else Result.ok (Next.value (Value.bool true)) W else Result.ok (Next.value (Value.bool true)) W else Result.ok (Next.value (Value.bool true)) W) = (Result.ok (Next.value (Value.bool true)) W : Result Next)) := fun W => by
          by_cases h1 : xn.toList = yn.toList
          · by_cases h2 : xk = yk
            · by_cases h3 : xv = yv
              · by_cases h4 : xs.toList = ys.toList
                · exact absurd ⟨h1, h2, h3, h4⟩ hne
                · simp [h1, h2, h3, h4]
              · simp [h1, h2, h3]
            · simp [h1, h2]
          · simp [h1]
        clear hq HN HO2 hne
        go_wp2_with fail
        refine wp_region_quiet (C := fun w' => Below w.heap.size w w') (by kernel_rfl) (by kernel_rfl) (HB.out.drew) ?_
        dsimp only
        repeat (first
          | go_big_quiet_skip
          | (go_big_quiet_want
             apply Exists.intro
             refine ⟨fun W' hW' => ?_, ?_⟩
             · have hw : Below w.heap.size w W' := hW'
               obtain ⟨⟨g0, g1, g2, g3⟩, k0, k1, k2, k3⟩ := HY.out W' hw
               go_simp
               first
                 | done
                 | rfl
             go_big_quiet_on
             try simp only [Act.put, List.setIfInBounds_toArray, List.set_cons_zero, List.set_cons_succ]))
        go_big_quiet_want
        refine ⟨.bool true, fun W' hW' => ?_, ?_⟩
        · have hw : Below w.heap.size w W' := hW'
          have := HE.out W'
          go_simp
        go_big_quiet_on
        try simp only [Act.put, List.setIfInBounds_toArray, List.set_cons_zero, List.set_cons_succ]
        refine wpQuiet_nil ?_
        intro w2 hqw2
        have H2 : Hid (Below w.heap.size w w2) := hqw2
        clear hqw2
        go_wp2
        go_ret
        exact ⟨by rw [HN2.out]; rfl, H2.out⟩
    · have dj : decide ((j : Int) < (l.length : Int)) = false := by simp; omega
      have HY : Hid (S = true) := by
        show _ = _
        rw [← HSd.out]
        unfold samA
        rw [decide_eq_true HL.out, decide_eq_true (fun k h h2 => HO.out k h h2 (by omega))]
        rfl
      clear HO
      go_wp2
      go_ret
      exact ⟨by rw [HY.out]; rfl, HB.out⟩
end Go.Proofs.YtacpllmlpmllbaaGreatDoor
/- Whether two events are the same in all: walks. -/
namespace Go.Proofs.YtacpllmlpmllbaaGreatDoor
open Go.RowKit Go.ChangeMaps

def samE (a b c : Int) (k : ByteArray) (l : List At) (a' b' c' : Int) (k' : ByteArray) (l' : List At) : Bool := (decide (a = a') && (decide (b = b') && decide (c = c'))) && (decide (k = k') && samA l l')
set_option maxRecDepth 100000 in
set_option maxHeartbeats 4000000 in
theorem evSame_any (a b c : Int) (k : ByteArray) (u : Value) (l : List At) (a' b' c' : Int) (k' : ByteArray) (u' : Value) (l' : List At) (w : World) (hu : IsRow w 4 u l.length (aCells l)) (hv : IsRow w 4 u' l'.length (aCells l')) (hl : l.length ≤ 1000000) (hl' : l'.length ≤ 1000000) :
    Calls Tryz.prog 13 #[.agg (evA a b c k u), .agg (evA a' b' c' k' u')] w fun e w' => e = .returned (.bool (samE a b c k l a' b' c' k' l')) ∧ Below w.heap.size w w' := by
  obtain ⟨a0, c0, rfl⟩ := hu.form
  obtain ⟨a1, c1, rfl⟩ := hv.form
  have HSm : Hid (∀ W, Below w.heap.size w W → Calls Tryz.prog 47 #[.slice a0 l.length c0, .slice a1 l'.length c1] W fun e w' => e = .returned (.bool (samA l l')) ∧ Below W.heap.size W w') := fun W h => eqlA_any _ _ l l' W (hu.below h) (hv.below h) hl hl'
  clear hu hv
  obtain ⟨S, HSd⟩ : ∃ S, Hid (samE a b c k l a' b' c' k' l' = S) := ⟨_, rfl⟩
  rw [HSd.out]
  obtain ⟨E, HE⟩ : ∃ E, Hid (samA l l' = E) := ⟨_, rfl⟩
  rw [HE.out] at HSm
  obtain ⟨w1, hw1⟩ : ∃ w1, w1 = w.alloc (.cells (evA a b c k (.slice a0 l.length c0)) 26) := ⟨_, rfl⟩
  have B1 : Hid (Below w.heap.size w w1) := by show Below _ _ _; rw [hw1]; exact al_b _ _
  have hn1 : w1.heap[w.heap.size]? = some (.cells (evA a b c k (.slice a0 l.length c0)) 26 (0, 0)) := by rw [hw1]; exact new_at _ _
  have C1 : Hid (∀ W, Below w1.heap.size w1 W → W.heap[w.heap.size]? = some (.cells (evA a b c k (.slice a0 l.length c0)) 26 (0, 0))) := fun W h => (h.block _ (Array.getElem?_eq_some_iff.1 hn1).1).trans hn1
  clear hn1
  obtain ⟨w2, hw2⟩ : ∃ w2, w2 = w1.alloc (.cells (evA a' b' c' k' (.slice a1 l'.length c1)) 26) := ⟨_, rfl⟩
  have B2 : Hid (Below w1.heap.size w1 w2) := by show Below _ _ _; rw [hw2]; exact al_b _ _
  have hn2 : w2.heap[(w.heap.size + 1)]? = some (.cells (evA a' b' c' k' (.slice a1 l'.length c1)) 26 (0, 0)) := by rw [hw2]; rw [show w.heap.size + 1 = w1.heap.size by (rw [hw1]; simp)]; exact new_at _ _
  have C2 : Hid (∀ W, Below w2.heap.size w2 W → W.heap[(w.heap.size + 1)]? = some (.cells (evA a' b' c' k' (.slice a1 l'.length c1)) 26 (0, 0))) := fun W h => (h.block _ (Array.getElem?_eq_some_iff.1 hn2).1).trans hn2
  clear hn2
  by_cases h1 : a = a'
  rotate_left
  · have HS0 : Hid (S = false) := by show _ = _; rw [← HSd.out]; unfold samE; simp [h1]
    have HBz : Hid (Below w.heap.size w ((w.alloc (.cells (evA a b c k (.slice a0 l.length c0)) 26)).alloc (.cells (evA a' b' c' k' (.slice a1 l'.length c1)) 26))) := by show Below _ _ _; rw [← hw1, ← hw2]; exact (bT B1.out B2.out)
    clear HSm hw1 hw2
    go_enter Tryz.func13, Tryz.ntmps13
    go_wp2
    go_ret
    exact ⟨by rw [HS0.out]; rfl, HBz.out⟩
  subst h1
  by_cases h2 : b = b'
  rotate_left
  · have HS0 : Hid (S = false) := by show _ = _; rw [← HSd.out]; unfold samE; simp [h2]
    have HBz : Hid (Below w.heap.size w ((w.alloc (.cells (evA a b c k (.slice a0 l.length c0)) 26)).alloc (.cells (evA a b' c' k' (.slice a1 l'.length c1)) 26))) := by show Below _ _ _; rw [← hw1, ← hw2]; exact (bT B1.out B2.out)
    clear HSm hw1 hw2
    go_enter Tryz.func13, Tryz.ntmps13
    go_wp2
    go_ret
    exact ⟨by rw [HS0.out]; rfl, HBz.out⟩
  subst h2
  by_cases h3 : c = c'
  rotate_left
  · have HS0 : Hid (S = false) := by show _ = _; rw [← HSd.out]; unfold samE; simp [h3]
    have HBz : Hid (Below w.heap.size w ((w.alloc (.cells (evA a b c k (.slice a0 l.length c0)) 26)).alloc (.cells (evA a b c' k' (.slice a1 l'.length c1)) 26))) := by show Below _ _ _; rw [← hw1, ← hw2]; exact (bT B1.out B2.out)
    clear HSm hw1 hw2
    go_enter Tryz.func13, Tryz.ntmps13
    go_wp2
    go_ret
    exact ⟨by rw [HS0.out]; rfl, HBz.out⟩
  subst h3
  by_cases h4 : k = k'
  rotate_left
  · have HS0 : Hid (S = false) := by show _ = _; rw [← HSd.out]; unfold samE; simp [h4]
    have e4 : (k.toList == k'.toList) = false := by rw [beq_eq_false_iff_ne, ByteArray.toList_eq, ByteArray.toList_eq]; exact fun h => h4 (ba_eq h)
    have e4' : ¬ k.toList = k'.toList := by simpa using e4
    have HBz : Hid (Below w.heap.size w ((w.alloc (.cells (evA a b c k (.slice a0 l.length c0)) 26)).alloc (.cells (evA a b c k' (.slice a1 l'.length c1)) 26))) := by show Below _ _ _; rw [← hw1, ← hw2]; exact (bT B1.out B2.out)
    clear HSm hw1 hw2
    go_enter Tryz.func13, Tryz.ntmps13
    go_wp2
    go_ret
    exact ⟨by rw [HS0.out]; rfl, HBz.out⟩
  subst h4
  have HS0 : Hid (S = E) := by show _ = _; rw [← HSd.out]; unfold samE; simp [HE.out]
  have e1 : (k.toList == k.toList) = true := by simp
  have hk := C1.out w2 B2.out
  have c1_0 : w2.cell? ⟨w.heap.size, 0, none⟩ = some (.int .i64 a) := by rw [Lib.cell_of_heap hk]; rfl
  have c1_1 : w2.cell? ⟨w.heap.size, 1, none⟩ = some (.int .i64 b) := by rw [Lib.cell_of_heap hk]; rfl
  have c1_2 : w2.cell? ⟨w.heap.size, 2, none⟩ = some (.int .i64 c) := by rw [Lib.cell_of_heap hk]; rfl
  have c1_3 : w2.cell? ⟨w.heap.size, 3, none⟩ = some (.string k) := by rw [Lib.cell_of_heap hk]; rfl
  have c1_4 : w2.cell? ⟨w.heap.size, 4, none⟩ = some (.slice a0 l.length c0) := by rw [Lib.cell_of_heap hk]; rfl
  clear hk
  have hk := C2.out w2 (Below.refl _ _)
  have c2_0 : w2.cell? ⟨(w.heap.size + 1), 0, none⟩ = some (.int .i64 a) := by rw [Lib.cell_of_heap hk]; rfl
  have c2_1 : w2.cell? ⟨(w.heap.size + 1), 1, none⟩ = some (.int .i64 b) := by rw [Lib.cell_of_heap hk]; rfl
  have c2_2 : w2.cell? ⟨(w.heap.size + 1), 2, none⟩ = some (.int .i64 c) := by rw [Lib.cell_of_heap hk]; rfl
  have c2_3 : w2.cell? ⟨(w.heap.size + 1), 3, none⟩ = some (.string k) := by rw [Lib.cell_of_heap hk]; rfl
  have c2_4 : w2.cell? ⟨(w.heap.size + 1), 4, none⟩ = some (.slice a1 l'.length c1) := by rw [Lib.cell_of_heap hk]; rfl
  clear hk
  go_enter Tryz.func13, Tryz.ntmps13
  go_wp2_with fail
  rw [← hw1, ← hw2]
  clear hw1 hw2
  go_wp2_with fail
  clear c1_0 c1_1 c1_2 c1_3 c1_4 c2_0 c2_1 c2_2 c2_3 c2_4
  refine (HSm.out _ (bT B1.out B2.out)).mono ?_
  rintro e w3 ⟨rfl, hb⟩
  have B3 : Hid (Below w2.heap.size w2 w3) := hb
  clear hb 
  have HBz : Hid (Below w.heap.size w w3) := (bT (bT B1.out B2.out) B3.out)
  go_wp2
  go_ret
  exact ⟨by rw [HS0.out]; rfl, HBz.out⟩
set_option maxRecDepth 100000 in
set_option maxHeartbeats 4000000 in
theorem refSame6_any (a b c : Int) (k : ByteArray) (u : Value) (l : List At) (a' b' c' : Int) (k' : ByteArray) (u' : Value) (l' : List At) (w : World) (hu : IsRow w 4 u l.length (aCells l)) (hv : IsRow w 4 u' l'.length (aCells l')) (hl : l.length ≤ 1000000) (hl' : l'.length ≤ 1000000) :
    Calls Tryz.prog 14 #[.agg (evA a b c k u), .agg (evA a' b' c' k' u')] w fun e w' => e = .returned (.bool (samE a b c k l a' b' c' k' l')) ∧ Below w.heap.size w w' := by
  obtain ⟨a0, c0, rfl⟩ := hu.form
  obtain ⟨a1, c1, rfl⟩ := hv.form
  have HSm : Hid (∀ W, Below w.heap.size w W → Calls Tryz.prog 28 #[.slice a0 l.length c0, .slice a1 l'.length c1] W fun e w' => e = .returned (.bool (samA l l')) ∧ Below W.heap.size W w') := fun W h => refSamA_any _ _ l l' W (hu.below h) (hv.below h) hl hl'
  clear hu hv
  obtain ⟨S, HSd⟩ : ∃ S, Hid (samE a b c k l a' b' c' k' l' = S) := ⟨_, rfl⟩
  rw [HSd.out]
  obtain ⟨E, HE⟩ : ∃ E, Hid (samA l l' = E) := ⟨_, rfl⟩
  rw [HE.out] at HSm
  obtain ⟨w1, hw1⟩ : ∃ w1, w1 = w.alloc (.cells (evA a b c k (.slice a0 l.length c0)) 32) := ⟨_, rfl⟩
  have B1 : Hid (Below w.heap.size w w1) := by show Below _ _ _; rw [hw1]; exact al_b _ _
  have hn1 : w1.heap[w.heap.size]? = some (.cells (evA a b c k (.slice a0 l.length c0)) 32 (0, 0)) := by rw [hw1]; exact new_at _ _
  have C1 : Hid (∀ W, Below w1.heap.size w1 W → W.heap[w.heap.size]? = some (.cells (evA a b c k (.slice a0 l.length c0)) 32 (0, 0))) := fun W h => (h.block _ (Array.getElem?_eq_some_iff.1 hn1).1).trans hn1
  clear hn1
  obtain ⟨w2, hw2⟩ : ∃ w2, w2 = w1.alloc (.cells (evA a' b' c' k' (.slice a1 l'.length c1)) 32) := ⟨_, rfl⟩
  have B2 : Hid (Below w1.heap.size w1 w2) := by show Below _ _ _; rw [hw2]; exact al_b _ _
  have hn2 : w2.heap[(w.heap.size + 1)]? = some (.cells (evA a' b' c' k' (.slice a1 l'.length c1)) 32 (0, 0)) := by rw [hw2]; rw [show w.heap.size + 1 = w1.heap.size by (rw [hw1]; simp)]; exact new_at _ _
  have C2 : Hid (∀ W, Below w2.heap.size w2 W → W.heap[(w.heap.size + 1)]? = some (.cells (evA a' b' c' k' (.slice a1 l'.length c1)) 32 (0, 0))) := fun W h => (h.block _ (Array.getElem?_eq_some_iff.1 hn2).1).trans hn2
  clear hn2
  by_cases h1 : a = a'
  rotate_left
  · have HS0 : Hid (S = false) := by show _ = _; rw [← HSd.out]; unfold samE; simp [h1]
    have HBz : Hid (Below w.heap.size w ((w.alloc (.cells (evA a b c k (.slice a0 l.length c0)) 32)).alloc (.cells (evA a' b' c' k' (.slice a1 l'.length c1)) 32))) := by show Below _ _ _; rw [← hw1, ← hw2]; exact (bT B1.out B2.out)
    clear HSm hw1 hw2
    go_enter Tryz.func14, Tryz.ntmps14
    go_wp2
    go_ret
    exact ⟨by rw [HS0.out]; rfl, HBz.out⟩
  subst h1
  by_cases h2 : b = b'
  rotate_left
  · have HS0 : Hid (S = false) := by show _ = _; rw [← HSd.out]; unfold samE; simp [h2]
    have HBz : Hid (Below w.heap.size w ((w.alloc (.cells (evA a b c k (.slice a0 l.length c0)) 32)).alloc (.cells (evA a b' c' k' (.slice a1 l'.length c1)) 32))) := by show Below _ _ _; rw [← hw1, ← hw2]; exact (bT B1.out B2.out)
    clear HSm hw1 hw2
    go_enter Tryz.func14, Tryz.ntmps14
    go_wp2
    go_ret
    exact ⟨by rw [HS0.out]; rfl, HBz.out⟩
  subst h2
  by_cases h3 : c = c'
  rotate_left
  · have HS0 : Hid (S = false) := by show _ = _; rw [← HSd.out]; unfold samE; simp [h3]
    have HBz : Hid (Below w.heap.size w ((w.alloc (.cells (evA a b c k (.slice a0 l.length c0)) 32)).alloc (.cells (evA a b c' k' (.slice a1 l'.length c1)) 32))) := by show Below _ _ _; rw [← hw1, ← hw2]; exact (bT B1.out B2.out)
    clear HSm hw1 hw2
    go_enter Tryz.func14, Tryz.ntmps14
    go_wp2
    go_ret
    exact ⟨by rw [HS0.out]; rfl, HBz.out⟩
  subst h3
  by_cases h4 : k = k'
  rotate_left
  · have HS0 : Hid (S = false) := by show _ = _; rw [← HSd.out]; unfold samE; simp [h4]
    have e4 : (k.toList == k'.toList) = false := by rw [beq_eq_false_iff_ne, ByteArray.toList_eq, ByteArray.toList_eq]; exact fun h => h4 (ba_eq h)
    have e4' : ¬ k.toList = k'.toList := by simpa using e4
    have HBz : Hid (Below w.heap.size w ((w.alloc (.cells (evA a b c k (.slice a0 l.length c0)) 32)).alloc (.cells (evA a b c k' (.slice a1 l'.length c1)) 32))) := by show Below _ _ _; rw [← hw1, ← hw2]; exact (bT B1.out B2.out)
    clear HSm hw1 hw2
    go_enter Tryz.func14, Tryz.ntmps14
    go_wp2
    go_ret
    exact ⟨by rw [HS0.out]; rfl, HBz.out⟩
  subst h4
  have HS0 : Hid (S = E) := by show _ = _; rw [← HSd.out]; unfold samE; simp [HE.out]
  have e1 : (k.toList == k.toList) = true := by simp
  have hk := C1.out w2 B2.out
  have c1_0 : w2.cell? ⟨w.heap.size, 0, none⟩ = some (.int .i64 a) := by rw [Lib.cell_of_heap hk]; rfl
  have c1_1 : w2.cell? ⟨w.heap.size, 1, none⟩ = some (.int .i64 b) := by rw [Lib.cell_of_heap hk]; rfl
  have c1_2 : w2.cell? ⟨w.heap.size, 2, none⟩ = some (.int .i64 c) := by rw [Lib.cell_of_heap hk]; rfl
  have c1_3 : w2.cell? ⟨w.heap.size, 3, none⟩ = some (.string k) := by rw [Lib.cell_of_heap hk]; rfl
  have c1_4 : w2.cell? ⟨w.heap.size, 4, none⟩ = some (.slice a0 l.length c0) := by rw [Lib.cell_of_heap hk]; rfl
  clear hk
  have hk := C2.out w2 (Below.refl _ _)
  have c2_0 : w2.cell? ⟨(w.heap.size + 1), 0, none⟩ = some (.int .i64 a) := by rw [Lib.cell_of_heap hk]; rfl
  have c2_1 : w2.cell? ⟨(w.heap.size + 1), 1, none⟩ = some (.int .i64 b) := by rw [Lib.cell_of_heap hk]; rfl
  have c2_2 : w2.cell? ⟨(w.heap.size + 1), 2, none⟩ = some (.int .i64 c) := by rw [Lib.cell_of_heap hk]; rfl
  have c2_3 : w2.cell? ⟨(w.heap.size + 1), 3, none⟩ = some (.string k) := by rw [Lib.cell_of_heap hk]; rfl
  have c2_4 : w2.cell? ⟨(w.heap.size + 1), 4, none⟩ = some (.slice a1 l'.length c1) := by rw [Lib.cell_of_heap hk]; rfl
  clear hk
  go_enter Tryz.func14, Tryz.ntmps14
  go_wp2_with fail
  rw [← hw1, ← hw2]
  clear hw1 hw2
  go_wp2_with fail
  clear c1_0 c1_1 c1_2 c1_3 c1_4 c2_0 c2_1 c2_2 c2_3 c2_4
  refine (HSm.out _ (bT B1.out B2.out)).mono ?_
  rintro e w3 ⟨rfl, hb⟩
  have B3 : Hid (Below w2.heap.size w2 w3) := hb
  clear hb 
  have HBz : Hid (Below w.heap.size w w3) := (bT (bT B1.out B2.out) B3.out)
  go_wp2
  go_ret
  exact ⟨by rw [HS0.out]; rfl, HBz.out⟩
end Go.Proofs.YtacpllmlpmllbaaGreatDoor
