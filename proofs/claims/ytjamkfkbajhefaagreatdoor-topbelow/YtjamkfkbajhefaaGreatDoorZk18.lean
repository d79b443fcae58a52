/- setMayBe: a walk. -/
import Derived.Test.YtjamkfkbajhefaaGreatDoorZk11
import Derived.Test.YtjamkfkbajhefaaGreatDoorZk7
import Derived.Test.YtjamkfkbajhefaaGreatDoorZk3
import Derived.Shelf.Strings.Search3
import Derived.Test.YtjamkfkbajhefaaGreatDoorProg
namespace Go.Proofs.YtjamkfkbajhefaaGreatDoor.F
open Go.RowKit

abbrev chk1 (x : It) : Bool := chkV x.k x.n x.s
/-- May the value at a place be there? -/
def elB (l : List It) (i : Nat) (h : i < l.length) : Bool := chk1 l[i] && (decide (l[i].k = (l[0]'(by omega)).k) && (decide (i = 0) || decide (cfV (l[i - 1]'(by omega)) l[i] < 0)))
def allB (l : List It) : Bool := decide (∀ (i : Nat) (h : i < l.length), elB l i h = true)
/-- May values be those of OpIn? -/
def setB (l : List It) : Bool := allB l && (decide (1 ≤ l.length) && decide (l.length ≤ 16))
theorem allB_no {l : List It} {i : Nat} (h : i < l.length) (hn : elB l i h = false) : allB l = false := by
  unfold allB
  rw [decide_eq_false_iff_not]
  intro hh
  rw [hh i h] at hn
  cases hn
/-- Texts are not too long to be looked at. -/
def NmI (l : List It) : Prop := ∀ x ∈ l, x.s.size ≤ 140737488355328
set_option maxRecDepth 100000 in
set_option maxHeartbeats 4000000 in
theorem setMayBe_any (v : Value) (l : List It) (w : World) (hr : IsRow w 3 v l.length (itCells l)) (hl : l.length ≤ 1000000) (hn : NmI l) (hT : UT w) :
    Calls Tryz.prog 110 #[v] w fun e w' => e = .returned (.bool (setB l)) ∧ Below w.heap.size w w' := by
  obtain ⟨a0, c0, rfl⟩ := hr.form
  have HR : Hid (IsRow w 3 (.slice a0 l.length c0) l.length (itCells l)) := hr
  have HCk : Hid (∀ i (h : i < l.length) W, Below w.heap.size w W → Calls Tryz.prog 58 #[itV l[i]] W fun e w' => e = .returned (.bool (chk1 l[i])) ∧ Below W.heap.size W w') := fun i h W hb => vcheck_any _ _ _ W (hn _ (List.getElem_mem h)) (Utf8Tabs_below hT hb)
  have HCm : Hid (∀ (x y : It) W, Calls Tryz.prog 89 #[itV x, itV y] W fun e w' => e = .returned (.int .i64 (cfV x y)) ∧ Below W.heap.size W w') := fun x y W => V.compare_any _ _ _ _ _ _ W
  have HNo : Hid (∀ i (h : i < l.length), elB l i h = false → setB l = false) := fun i h e => by unfold setB; rw [allB_no h e, Bool.false_and]
  have HYes : Hid ((∀ i (h : i < l.length), elB l i h = true) → setB l = (decide (1 ≤ l.length) && decide (l.length ≤ 16))) := fun h => by unfold setB allB; rw [decide_eq_true h, Bool.true_and]
  generalize setB l = Z at *
  clear hr hn hT
  go_enter Tryz.func110, Tryz.ntmps110
  go_wp2_with fail
  go_loopw [3, 4, 7] (fun _ _ i wr => ∃ j : Nat, j ≤ l.length ∧ i = .int .i64 (j : Int) ∧ Hid (∀ k (h : k < l.length), k < j → elB l k h = true) ∧ Hid (Below w.heap.size w wr)) (fun _ _ i _ => l.length - (intOf i).toNat)
  case atStart => exact ⟨0, by omega, rfl, (fun k h hj => absurd hj (Nat.not_lt_zero _)), Below.refl _ _⟩
  case round =>
    obtain ⟨j, hj, rfl, HO, HB⟩ := hrel
    by_cases hlk : j < l.length
    · have dj : decide ((j : Int) < (l.length : Int)) = true := by simp; omega
      have hl0 : 0 < l.length := by omega
      have HY : Hid (∃ b0 o0, a0 = some ⟨b0, o0, none⟩ ∧ ∀ W, Below w.heap.size w W → ∀ i (h : i < l.length), W.cell? ⟨b0, o0 + i * 3, none⟩ = some (.int .i64 l[i].k) ∧ W.cell? ⟨b0, o0 + i * 3 + 1, none⟩ = some (.int .i64 l[i].n) ∧ W.cell? ⟨b0, o0 + i * 3 + 2, none⟩ = some (.string l[i].s)) := by
        obtain ⟨b0, o0, hab, -⟩ := items_at HR.out j hlk
        refine ⟨b0, o0, hab, fun W h i hi => ?_⟩
        obtain ⟨b', o', hv, -, p0, p1, p2⟩ := items_at (HR.out.below h) i hi
        rw [hab] at hv
        simp only [Option.some.injEq, Addr.mk.injEq] at hv
        obtain ⟨rfl, rfl, -⟩ := hv
        exact ⟨p0, p1, p2⟩
      obtain ⟨b0, o0, rfl, HY2⟩ := HY.out
      have HYj : Hid (∀ W, Below w.heap.size w W → W.cell? ⟨b0, o0 + j * 3, none⟩ = some (.int .i64 l[j].k) ∧ W.cell? ⟨b0, o0 + j * 3 + 1, none⟩ = some (.int .i64 l[j].n) ∧ W.cell? ⟨b0, o0 + j * 3 + 2, none⟩ = some (.string l[j].s)) := fun W h => HY2 W h j hlk
      have HY0 : Hid (∀ W, Below w.heap.size w W → W.cell? ⟨b0, o0, none⟩ = some (.int .i64 l[0].k)) := fun W h => by
        have := (HY2 W h 0 hl0).1
        rwa [Nat.zero_mul, Nat.add_zero] at this
      have q1 : (0 : Int) ≤ (j : Int) := by omega
      have q2 : (j : Int) < (l.length : Int) := by omega
      have q3 : (0 : Int) < (l.length : Int) := by omega
      have HCj : Hid (∀ W, Below w.heap.size w W → Calls Tryz.prog 58 #[itV l[j]] W fun e w' => e = .returned (.bool (chk1 l[j])) ∧ Below W.heap.size W w') := fun W h => HCk.out j hlk W h
      have HOn : Hid (elB l j hlk = true → ∀ k (h : k < l.length), k < j + 1 → elB l k h = true) := fun hs k h hk => by
        by_cases e : k = j
        · subst e; exact hs
        · exact HO.out k h (by omega)
      have HNj : Hid (elB l j hlk = false → Z = false) := fun h => HNo.out j hlk h
      obtain ⟨cv, c1, c2⟩ := HYj.out wr HB.out
      cases j with
      | zero =>
        have he : elB l 0 hlk = chk1 l[0] := by unfold elB; simp
        have HOn2 : Hid (chk1 l[0] = true → ∀ k (h : k < l.length), k < 0 + 1 → elB l k h = true) := fun h => HOn.out (by rw [he]; exact h)
        have HNj2 : Hid (chk1 l[0] = false → Z = false) := fun h => HNj.out (by rw [he]; exact h)
        simp only [Nat.zero_mul, Nat.add_zero] at cv c1 c2 HYj
        clear HO HOn HNj he HCk HNo HYes HY HY2
        generalize l[0]'hlk = X at *
        obtain ⟨Xk, Xn, Xs⟩ := X
        dsimp only at *
        generalize hX : chk1 ⟨Xk, Xn, Xs⟩ = B at *
        have e0 : ((0 : Nat) : Int) = 0 := rfl
        have dk0 : decide ((0 : Int) < (l.length : Int)) = true := decide_eq_true (by omega)
        clear hX
        cases B with
        | false =>
          have HZ : Hid (Z = false) := HNj2.out rfl
          clear HOn2 HNj2
          have HB2 : Hid (Below w.heap.size w (wr.alloc (.cells #[.int .i64 Xk, .int .i64 Xn, .string Xs] 52))) := HB.out.trans ((al_f wr _).mono HB.out.size)
          have HC2 : Hid (∀ W, Below (wr.alloc (.cells #[.int .i64 Xk, .int .i64 Xn, .string Xs] 52)).heap.size (wr.alloc (.cells #[.int .i64 Xk, .int .i64 Xn, .string Xs] 52)) W → W.heap[wr.heap.size]? = some (.cells #[.int .i64 Xk, .int .i64 Xn, .string Xs] 52 (0, 0))) := fun W h => (h.block _ (by simp)).trans (nw_at wr _)
          go_wp2_with fail
          generalize wr.alloc (.cells #[.int .i64 Xk, .int .i64 Xn, .string Xs] 52) = w2 at *
          refine wp_region_quiet (C := fun w' => Below w2.heap.size w2 w') (by kernel_rfl) (by kernel_rfl) ((Below.refl _ _).drew) ?_
          dsimp only
          repeat (first
            | go_big_quiet_skip
            | (go_big_quiet_want
               apply Exists.intro
               refine ⟨fun W' hW' => ?_, ?_⟩
               · have hw : Below w2.heap.size w2 W' := hW'
                 obtain ⟨g0, g1, g2⟩ := HYj.out W' (HB2.out.trans (hw.mono HB2.out.size))
                 have g3 := HY0.out W' (HB2.out.trans (hw.mono HB2.out.size))
                 have hk := HC2.out W' hw
                 have k0 : W'.cell? ⟨wr.heap.size, 0, none⟩ = some (.int .i64 Xk) := by rw [Lib.cell_of_heap hk]; rfl
                 have k1 : W'.cell? ⟨wr.heap.size, 1, none⟩ = some (.int .i64 Xn) := by rw [Lib.cell_of_heap hk]; rfl
                 have k2 : W'.cell? ⟨wr.heap.size, 2, none⟩ = some (.string Xs) := by rw [Lib.cell_of_heap hk]; rfl
                 clear hk
                 go_simp
                 first
                   | done
                   | rfl
                   | (go_at_call 58; (with_reducible refine Calls.mono (HCj.out W' (HB2.out.trans (hw.mono HB2.out.size))) ?_); rintro e w'' ⟨rfl, hb⟩; exact ⟨rfl, hw.trans (hb.mono hw.size)⟩)
                   | (trace_state; fail)
               go_big_quiet_on
               try simp only [Act.put, List.setIfInBounds_toArray, List.set_cons_zero, List.set_cons_succ]))
          refine wpQuiet_nil ?_
          intro w3 hq3
          have HB3 : Hid (Below w.heap.size w w3) := HB2.out.trans (Below.mono hq3 HB2.out.size)
          clear hq3
          go_wp2
          go_ret
          exact ⟨by rw [HZ.out]; rfl, HB3.out⟩
        | true =>
          have HO3 : Hid (∀ k (h : k < l.length), k < 0 + 1 → elB l k h = true) := HOn2.out rfl
          clear HOn2 HNj2
          have HB2 : Hid (Below w.heap.size w (wr.alloc (.cells #[.int .i64 Xk, .int .i64 Xn, .string Xs] 52))) := HB.out.trans ((al_f wr _).mono HB.out.size)
          have HC2 : Hid (∀ W, Below (wr.alloc (.cells #[.int .i64 Xk, .int .i64 Xn, .string Xs] 52)).heap.size (wr.alloc (.cells #[.int .i64 Xk, .int .i64 Xn, .string Xs] 52)) W → W.heap[wr.heap.size]? = some (.cells #[.int .i64 Xk, .int .i64 Xn, .string Xs] 52 (0, 0))) := fun W h => (h.block _ (by simp)).trans (nw_at wr _)
          go_wp2_with fail
          generalize wr.alloc (.cells #[.int .i64 Xk, .int .i64 Xn, .string Xs] 52) = w2 at *
          refine wp_region_quiet (C := fun w' => Below w2.heap.size w2 w') (by kernel_rfl) (by kernel_rfl) ((Below.refl _ _).drew) ?_
          dsimp only
          repeat (first
            | go_big_quiet_skip
            | (go_big_quiet_want
               apply Exists.intro
               refine ⟨fun W' hW' => ?_, ?_⟩
               · have hw : Below w2.heap.size w2 W' := hW'
                 obtain ⟨g0, g1, g2⟩ := HYj.out W' (HB2.out.trans (hw.mono HB2.out.size))
                 have g3 := HY0.out W' (HB2.out.trans (hw.mono HB2.out.size))
                 have hk := HC2.out W' hw
                 have k0 : W'.cell? ⟨wr.heap.size, 0, none⟩ = some (.int .i64 Xk) := by rw [Lib.cell_of_heap hk]; rfl
                 have k1 : W'.cell? ⟨wr.heap.size, 1, none⟩ = some (.int .i64 Xn) := by rw [Lib.cell_of_heap hk]; rfl
                 have k2 : W'.cell? ⟨wr.heap.size, 2, none⟩ = some (.string Xs) := by rw [Lib.cell_of_heap hk]; rfl
                 clear hk
                 go_simp
                 first
                   | done
                   | rfl
                   | (go_at_call 58; (with_reducible refine Calls.mono (HCj.out W' (HB2.out.trans (hw.mono HB2.out.size))) ?_); rintro e w'' ⟨rfl, hb⟩; exact ⟨rfl, hw.trans (hb.mono hw.size)⟩)
                   | (trace_state; fail)
               go_big_quiet_on
               try simp only [Act.put, List.setIfInBounds_toArray, List.set_cons_zero, List.set_cons_succ]))
          refine wpQuiet_nil ?_
          intro w3 hq3
          have HB3 : Hid (Below w.heap.size w w3) := HB2.out.trans (Below.mono hq3 HB2.out.size)
          clear hq3
          go_wp2
          go_roundw
          case rel => exact ⟨0 + 1, by omega, by simp, HO3.out, HB3.out⟩
          case measure => simp [intOf]; omega
      | succ i =>
        have hi : i < l.length := by omega
        have HYi : Hid (∀ W, Below w.heap.size w W → W.cell? ⟨b0, o0 + i * 3, none⟩ = some (.int .i64 l[i].k) ∧ W.cell? ⟨b0, o0 + i * 3 + 1, none⟩ = some (.int .i64 l[i].n) ∧ W.cell? ⟨b0, o0 + i * 3 + 2, none⟩ = some (.string l[i].s)) := fun W h => HY2 W h i hi
        have he : elB l (i + 1) hlk = (chk1 l[i + 1] && (decide (l[i + 1].k = l[0].k) && decide (cfV l[i] l[i + 1] < 0))) := by unfold elB; simp
        have HOn2 : Hid ((chk1 l[i + 1] && (decide (l[i + 1].k = l[0].k) && decide (cfV l[i] l[i + 1] < 0))) = true → ∀ k (h : k < l.length), k < i + 1 + 1 → elB l k h = true) := fun h => HOn.out (by rw [he]; exact h)
        have HNj2 : Hid ((chk1 l[i + 1] && (decide (l[i + 1].k = l[0].k) && decide (cfV l[i] l[i + 1] < 0))) = false → Z = false) := fun h => HNj.out (by rw [he]; exact h)
        have HCmj : Hid (∀ W, Calls Tryz.prog 89 #[itV l[i], itV l[i + 1]] W fun e w' => e = .returned (.int .i64 (cfV l[i] l[i + 1])) ∧ Below W.heap.size W w') := fun W => HCm.out _ _ W
        clear HO HOn HNj he HCk HNo HYes HY HY2 HCm
        generalize l[i + 1]'hlk = X at *
        generalize l[0]'(by omega) = Y0 at *
        generalize l[i]'hi = Y at *
        obtain ⟨Xk, Xn, Xs⟩ := X
        obtain ⟨Yk, Yn, Ys⟩ := Y
        obtain ⟨Y0k, Y0n, Y0s⟩ := Y0
        dsimp only at *
        generalize cfV ⟨Yk, Yn, Ys⟩ ⟨Xk, Xn, Xs⟩ = M at *
        generalize chk1 ⟨Xk, Xn, Xs⟩ = B at *
        have d0 : decide ((0 : Int) < ((i : Int) + 1)) = true := decide_eq_true (by omega)
        have d0n : decide (0 < i + 1) = true := decide_eq_true (by omega)
        have s1 : ((i : Int) + 1 - 1) = i := by omega
        have wi : IntKind.i64.wrap (i : Int) = (i : Int) := by rw [IntKind.wrap_i64]; omega
        have s2 : (0 : Int) ≤ (i : Int) := by omega
        have s3 : (i : Int) < (l.length : Int) := by omega
        cases B with
        | false =>
          have HZ : Hid (Z = false) := HNj2.out rfl
          clear HOn2 HNj2
          have HB2 : Hid (Below w.heap.size w (wr.alloc (.cells #[.int .i64 Xk, .int .i64 Xn, .string Xs] 52))) := HB.out.trans ((al_f wr _).mono HB.out.size)
          have HC2 : Hid (∀ W, Below (wr.alloc (.cells #[.int .i64 Xk, .int .i64 Xn, .string Xs] 52)).heap.size (wr.alloc (.cells #[.int .i64 Xk, .int .i64 Xn, .string Xs] 52)) W → W.heap[wr.heap.size]? = some (.cells #[.int .i64 Xk, .int .i64 Xn, .string Xs] 52 (0, 0))) := fun W h => (h.block _ (by simp)).trans (nw_at wr _)
          go_wp2_with fail
          generalize wr.alloc (.cells #[.int .i64 Xk, .int .i64 Xn, .string Xs] 52) = w2 at *
          refine wp_region_quiet (C := fun w' => Below w2.heap.size w2 w') (by kernel_rfl) (by kernel_rfl) ((Below.refl _ _).drew) ?_
          dsimp only
          repeat (first
            | go_big_quiet_skip
            | (go_big_quiet_want
               apply Exists.intro
               refine ⟨fun W' hW' => ?_, ?_⟩
               · have hw : Below w2.heap.size w2 W' := hW'
                 obtain ⟨g0, g1, g2⟩ := HYj.out W' (HB2.out.trans (hw.mono HB2.out.size))
                 have g3 := HY0.out W' (HB2.out.trans (hw.mono HB2.out.size))
                 have hk := HC2.out W' hw
                 have k0 : W'.cell? ⟨wr.heap.size, 0, none⟩ = some (.int .i64 Xk) := by rw [Lib.cell_of_heap hk]; rfl
                 have k1 : W'.cell? ⟨wr.heap.size, 1, none⟩ = some (.int .i64 Xn) := by rw [Lib.cell_of_heap hk]; rfl
                 have k2 : W'.cell? ⟨wr.heap.size, 2, none⟩ = some (.string Xs) := by rw [Lib.cell_of_heap hk]; rfl
                 clear hk
                 go_simp
                 first
                   | done
                   | rfl
                   | (go_at_call 58; (with_reducible refine Calls.mono (HCj.out W' (HB2.out.trans (hw.mono HB2.out.size))) ?_); rintro e w'' ⟨rfl, hb⟩; exact ⟨rfl, hw.trans (hb.mono hw.size)⟩)
                   | (trace_state; fail)
               go_big_quiet_on
               try simp only [Act.put, List.setIfInBounds_toArray, List.set_cons_zero, List.set_cons_succ]))
          refine wpQuiet_nil ?_
          intro w3 hq3
          have HB3 : Hid (Below w.heap.size w w3) := HB2.out.trans (Below.mono hq3 HB2.out.size)
          clear hq3
          go_wp2
          go_ret
          exact ⟨by rw [HZ.out]; rfl, HB3.out⟩
        | true =>
          by_cases hk : Xk = Y0k
          · subst hk
            by_cases hM : M < 0
            · have HO3 : Hid (∀ k (h : k < l.length), k < i + 1 + 1 → elB l k h = true) := HOn2.out (by simp [hM])
              have dM : decide (0 ≤ M) = false := decide_eq_false (by omega)
              clear HOn2 HNj2
              have HB2 : Hid (Below w.heap.size w (wr.alloc (.cells #[.int .i64 Xk, .int .i64 Xn, .string Xs] 52))) := HB.out.trans ((al_f wr _).mono HB.out.size)
              have HC2 : Hid (∀ W, Below (wr.alloc (.cells #[.int .i64 Xk, .int .i64 Xn, .string Xs] 52)).heap.size (wr.alloc (.cells #[.int .i64 Xk, .int .i64 Xn, .string Xs] 52)) W → W.heap[wr.heap.size]? = some (.cells #[.int .i64 Xk, .int .i64 Xn, .string Xs] 52 (0, 0))) := fun W h => (h.block _ (by simp)).trans (nw_at wr _)
              go_wp2_with fail
              generalize wr.alloc (.cells #[.int .i64 Xk, .int .i64 Xn, .string Xs] 52) = w2 at *
              refine wp_region_quiet (C := fun w' => Below w2.heap.size w2 w') (by kernel_rfl) (by kernel_rfl) ((Below.refl _ _).drew) ?_
              dsimp only
              repeat (first
                | go_big_quiet_skip
                | (go_big_quiet_want
                   apply Exists.intro
                   refine ⟨fun W' hW' => ?_, ?_⟩
                   · have hw : Below w2.heap.size w2 W' := hW'
                     obtain ⟨g0, g1, g2⟩ := HYj.out W' (HB2.out.trans (hw.mono HB2.out.size))
                     have g3 := HY0.out W' (HB2.out.trans (hw.mono HB2.out.size))
                     have hk := HC2.out W' hw
                     have k0 : W'.cell? ⟨wr.heap.size, 0, none⟩ = some (.int .i64 Xk) := by rw [Lib.cell_of_heap hk]; rfl
                     have k1 : W'.cell? ⟨wr.heap.size, 1, none⟩ = some (.int .i64 Xn) := by rw [Lib.cell_of_heap hk]; rfl
                     have k2 : W'.cell? ⟨wr.heap.size, 2, none⟩ = some (.string Xs) := by rw [Lib.cell_of_heap hk]; rfl
                     clear hk
                     obtain ⟨j0, j1, j2⟩ := HYi.out W' (HB2.out.trans (hw.mono HB2.out.size))
                     go_simp
                     first
                       | done
                       | rfl
                       | (go_at_call 58; (with_reducible refine Calls.mono (HCj.out W' (HB2.out.trans (hw.mono HB2.out.size))) ?_); rintro e w'' ⟨rfl, hb⟩; exact ⟨rfl, hw.trans (hb.mono hw.size)⟩)
                       | (go_at_call 89; (with_reducible refine Calls.mono (HCmj.out W') ?_); rintro e w'' ⟨rfl, hb⟩; exact ⟨rfl, hw.trans (hb.mono hw.size)⟩)
                       | (trace_state; fail)
                   go_big_quiet_on
                   try simp only [Act.put, List.setIfInBounds_toArray, List.set_cons_zero, List.set_cons_succ]))
              refine wpQuiet_nil ?_
              intro w3 hq3
              have HB3 : Hid (Below w.heap.size w w3) := HB2.out.trans (Below.mono hq3 HB2.out.size)
              clear hq3
              go_wp2
              go_roundw
              case rel => exact ⟨i + 1 + 1, by omega, by simp, HO3.out, HB3.out⟩
              case measure => simp [intOf]; omega
            · have HZ : Hid (Z = false) := HNj2.out (by simp [hM])
              have dM : decide (0 ≤ M) = true := decide_eq_true (by omega)
              clear HOn2 HNj2
              have HB2 : Hid (Below w.heap.size w (wr.alloc (.cells #[.int .i64 Xk, .int .i64 Xn, .string Xs] 52))) := HB.out.trans ((al_f wr _).mono HB.out.size)
              have HC2 : Hid (∀ W, Below (wr.alloc (.cells #[.int .i64 Xk, .int .i64 Xn, .string Xs] 52)).heap.size (wr.alloc (.cells #[.int .i64 Xk, .int .i64 Xn, .string Xs] 52)) W → W.heap[wr.heap.size]? = some (.cells #[.int .i64 Xk, .int .i64 Xn, .string Xs] 52 (0, 0))) := fun W h => (h.block _ (by simp)).trans (nw_at wr _)
              go_wp2_with fail
              generalize wr.alloc (.cells #[.int .i64 Xk, .int .i64 Xn, .string Xs] 52) = w2 at *
              refine wp_region_quiet (C := fun w' => Below w2.heap.size w2 w') (by kernel_rfl) (by kernel_rfl) ((Below.refl _ _).drew) ?_
              dsimp only
              repeat (first
                | go_big_quiet_skip
                | (go_big_quiet_want
                   apply Exists.intro
                   refine ⟨fun W' hW' => ?_, ?_⟩
                   · have hw : Below w2.heap.size w2 W' := hW'
                     obtain ⟨g0, g1, g2⟩ := HYj.out W' (HB2.out.trans (hw.mono HB2.out.size))
                     have g3 := HY0.out W' (HB2.out.trans (hw.mono HB2.out.size))
                     have hk := HC2.out W' hw
                     have k0 : W'.cell? ⟨wr.heap.size, 0, none⟩ = some (.int .i64 Xk) := by rw [Lib.cell_of_heap hk]; rfl
                     have k1 : W'.cell? ⟨wr.heap.size, 1, none⟩ = some (.int .i64 Xn) := by rw [Lib.cell_of_heap hk]; rfl
                     have k2 : W'.cell? ⟨wr.heap.size, 2, none⟩ = some (.string Xs) := by rw [Lib.cell_of_heap hk]; rfl
                     clear hk
                     obtain ⟨j0, j1, j2⟩ := HYi.out W' (HB2.out.trans (hw.mono HB2.out.size))
                     go_simp
                     first
                       | done
                       | rfl
                       | (go_at_call 58; (with_reducible refine Calls.mono (HCj.out W' (HB2.out.trans (hw.mono HB2.out.size))) ?_); rintro e w'' ⟨rfl, hb⟩; exact ⟨rfl, hw.trans (hb.mono hw.size)⟩)
                       | (go_at_call 89; (with_reducible refine Calls.mono (HCmj.out W') ?_); rintro e w'' ⟨rfl, hb⟩; exact ⟨rfl, hw.trans (hb.mono hw.size)⟩)
                       | (trace_state; fail)
                   go_big_quiet_on
                   try simp only [Act.put, List.setIfInBounds_toArray, List.set_cons_zero, List.set_cons_succ]))
              refine wpQuiet_nil ?_
              intro w3 hq3
              have HB3 : Hid (Below w.heap.size w w3) := HB2.out.trans (Below.mono hq3 HB2.out.size)
              clear hq3
              go_wp2
              go_ret
              exact ⟨by rw [HZ.out]; rfl, HB3.out⟩
          · have HZ : Hid (Z = false) := HNj2.out (by simp [hk])
            have dk : (Xk != Y0k) = true := by simp [hk]
            clear HOn2 HNj2
            have HB2 : Hid (Below w.heap.size w (wr.alloc (.cells #[.int .i64 Xk, .int .i64 Xn, .string Xs] 52))) := HB.out.trans ((al_f wr _).mono HB.out.size)
            have HC2 : Hid (∀ W, Below (wr.alloc (.cells #[.int .i64 Xk, .int .i64 Xn, .string Xs] 52)).heap.size (wr.alloc (.cells #[.int .i64 Xk, .int .i64 Xn, .string Xs] 52)) W → W.heap[wr.heap.size]? = some (.cells #[.int .i64 Xk, .int .i64 Xn, .string Xs] 52 (0, 0))) := fun W h => (h.block _ (by simp)).trans (nw_at wr _)
            go_wp2_with fail
            generalize wr.alloc (.cells #[.int .i64 Xk, .int .i64 Xn, .string Xs] 52) = w2 at *
            refine wp_region_quiet (C := fun w' => Below w2.heap.size w2 w') (by kernel_rfl) (by kernel_rfl) ((Below.refl _ _).drew) ?_
            dsimp only
            repeat (first
              | go_big_quiet_skip
              | (go_big_quiet_want
                 apply Exists.intro
                 refine ⟨fun W' hW' => ?_, ?_⟩
                 · have hw : Below w2.heap.size w2 W' := hW'
                   obtain ⟨g0, g1, g2⟩ := HYj.out W' (HB2.out.trans (hw.mono HB2.out.size))
                   have g3 := HY0.out W' (HB2.out.trans (hw.mono HB2.out.size))
                   have hk := HC2.out W' hw
                   have k0 : W'.cell? ⟨wr.heap.size, 0, none⟩ = some (.int .i64 Xk) := by rw [Lib.cell_of_heap hk]; rfl
                   have k1 : W'.cell? ⟨wr.heap.size, 1, none⟩ = some (.int .i64 Xn) := by rw [Lib.cell_of_heap hk]; rfl
                   have k2 : W'.cell? ⟨wr.heap.size, 2, none⟩ = some (.string Xs) := by rw [Lib.cell_of_heap hk]; rfl
                   clear hk
                   go_simp
                   first
                     | done
                     | rfl
                     | (go_at_call 58; (with_reducible refine Calls.mono (HCj.out W' (HB2.out.trans (hw.mono HB2.out.size))) ?_); rintro e w'' ⟨rfl, hb⟩; exact ⟨rfl, hw.trans (hb.mono hw.size)⟩)
                     | (trace_state; fail)
                 go_big_quiet_on
                 try simp only [Act.put, List.setIfInBounds_toArray, List.set_cons_zero, List.set_cons_succ]))
            refine wpQuiet_nil ?_
            intro w3 hq3
            have HB3 : Hid (Below w.heap.size w w3) := HB2.out.trans (Below.mono hq3 HB2.out.size)
            clear hq3
            go_wp2
            go_ret
            exact ⟨by rw [HZ.out]; rfl, HB3.out⟩
    · have dj : decide ((j : Int) < (l.length : Int)) = false := by simp; omega
      have HZ : Hid (Z = (decide (1 ≤ l.length) && decide (l.length ≤ 16))) := HYes.out fun i hi => HO.out i hi (by omega)
      have HL : Hid (l.length ≤ 1000000) := hl
      clear HO HNo HYes HCk HCm HR hj hl
      by_cases h1 : 1 ≤ l.length
      · have d1 : decide ((1 : Int) ≤ (l.length : Int)) = true := decide_eq_true (by omega)
        have d1n : decide (1 ≤ l.length) = true := decide_eq_true h1
        have HE : Hid (decide ((l.length : Int) ≤ 16) = decide (l.length ≤ 16)) := by show _ = _; rw [Bool.eq_iff_iff, decide_eq_true_eq, decide_eq_true_eq]; omega
        rw [d1n, Bool.true_and] at HZ
        clear h1
        go_wp2
        go_ret
        exact ⟨by rw [HZ.out, ← HE.out]; first | rfl | simp, HB.out⟩
      · have d1 : decide ((1 : Int) ≤ (l.length : Int)) = false := decide_eq_false (by omega)
        have d1n : decide (1 ≤ l.length) = false := decide_eq_false h1
        rw [d1n, Bool.false_and] at HZ
        clear h1
        go_wp2
        go_ret
        exact ⟨by rw [HZ.out]; first | rfl | simp, HB.out⟩
end Go.Proofs.YtjamkfkbajhefaaGreatDoor.F
/- The shelf's contract of strings.Contains, at this program, laid by the shelf's tool in plain words. -/
namespace Go.Proofs
open Go.Shelf
def Tryz.lays144_ren : Go.Shelf.Ren := ⟨fun | 144 => 86 | 143 => 113 | 219 => 132 | 217 => 142 | 225 => 160 | 224 => 161 | 267 => 162 | 266 => 173 | 314 => 184 | n => n, fun | 9 => 9 | 4 => 4 | 3 => 3 | 5 => 5 | 46 => 134 | 146 => 237 | 51 => 215 | n => n, fun | 1 => 2 | n => n⟩
theorem Tryz.lays144 : Go.Proofs.Lays.n144 Tryz.prog Tryz.lays144_ren := {
  mixed := by kernel_rfl
  f143 := Tryz.func113.trans (congrArg some (by kernel_rfl))
  f144 := Tryz.func86.trans (congrArg some (by kernel_rfl))
  f217 := Tryz.func142.trans (congrArg some (by kernel_rfl))
  f219 := Tryz.func132.trans (congrArg some (by kernel_rfl))
  f224 := Tryz.func161.trans (congrArg some (by kernel_rfl))
  f225 := Tryz.func160.trans (congrArg some (by kernel_rfl))
  f266 := Tryz.func173.trans (congrArg some (by kernel_rfl))
  f267 := Tryz.func162.trans (congrArg some (by kernel_rfl))
  f314 := Tryz.func184.trans (congrArg some (by kernel_rfl))
  t3 := Tryz.underlying3
  a3 := Tryz.isAgg3
  z3 := Tryz.sizeOf3
  v3 := Tryz.zeroValue3
  t4 := Tryz.underlying4
  a4 := Tryz.isAgg4
  z4 := Tryz.sizeOf4
  v4 := Tryz.zeroValue4
  t5 := Tryz.underlying5
  a5 := Tryz.isAgg5
  z5 := Tryz.sizeOf5
  v5 := Tryz.zeroValue5
  t9 := Tryz.underlying9
  a9 := Tryz.isAgg9
  z9 := Tryz.sizeOf9
  v9 := Tryz.zeroValue9
  t46 := Tryz.underlying134
  a46 := Tryz.isAgg134
  z46 := Tryz.sizeOf134
  v46 := Tryz.zeroValue134
  t51 := Tryz.underlying215
  a51 := Tryz.isAgg215
  z51 := Tryz.sizeOf215
  v51 := Tryz.zeroValue215
  t146 := Tryz.underlying237
  a146 := Tryz.isAgg237
  z146 := Tryz.sizeOf237
  v146 := Tryz.zeroValue237
  g1 := by kernel_rfl }
open Go.RowKit in
theorem Tryz.strings_Contains_one (s : ByteArray) (c : UInt8) (w : World) :
    Calls Tryz.prog 86 #[.string s, .string ⟨#[c]⟩] w fun e w' => e = .returned (.bool (decide (0 ≤ Lib.indexByte s.data.toList c))) ∧ w' = w := Any.strings_Contains_one Tryz.lays144 s c w
end Go.Proofs
