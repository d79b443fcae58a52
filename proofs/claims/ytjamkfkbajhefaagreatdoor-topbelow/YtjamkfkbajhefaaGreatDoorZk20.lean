/- holds, Holds, Lets: walks. -/
import Derived.Test.YtjamkfkbajhefaaGreatDoorZk19
import Derived.Test.YtjamkfkbajhefaaGreatDoorZk8
namespace Go.Proofs.YtjamkfkbajhefaaGreatDoor.F
open Go.RowKit

/-- Does a predicate that may be hold of attributes? -/
def holdsB (y : Pd) (A : List At) : Bool := match getA A y.n with
  | none => false
  | some x => if y.o = 1 then true else match y.l with
    | x0 :: _ => decide (x.k = x0.k) && meetsB y.o y.l x0 ⟨x.k, x.v, x.s⟩
    | [] => false
def letsB (D : List Pd) (A : List At) : Bool := chkFl D && (chkA A && D.all fun y => holdsB y A)
theorem may_ne {y : Pd} (h : mayP y = true) (h1 : y.o ≠ 1) : y.l ≠ [] := by
  intro e
  unfold mayP at h
  rw [Bool.and_eq_true] at h
  have h2 := h.1
  unfold valsB at h2
  rw [e, if_neg h1] at h2
  split at h2
  · exact absurd h2 (by decide)
  · split at h2
    · cases h2
    · cases h2
set_option maxRecDepth 100000 in
set_option maxHeartbeats 4000000 in
theorem holds_any (x : PR) (u : Value) (A : List At) (w : World) (hr : IsRow w 3 x.v x.y.l.length (itCells x.y.l)) (hn : NmP x.y) (hm : mayP x.y = true) (ha : IsRow w 4 u A.length (aCells A)) (hal : A.length ≤ 1000000) (hna : NmA A) (hT : UT w) :
    Calls Tryz.prog 32 #[prV x, u] w fun e w' => e = .returned (.bool (holdsB x.y A)) ∧ Below w.heap.size w w' := by
  obtain ⟨⟨n, o, l⟩, a, c⟩ := x
  obtain ⟨n1, n2, n3⟩ := hn
  show Calls Tryz.prog 32 #[.agg #[.string n, .int .i64 o, .slice a l.length c], u] w _
  dsimp only [PR.v, prV] at *
  have HG : Hid (∀ W, Below w.heap.size w W → Calls Tryz.prog 59 #[u, .string n] W fun e w' => e = .returned (.tuple #[vOf (getA A n), .bool (getA A n).isSome]) ∧ Below W.heap.size W w') := fun W hb => get_any u A n W (ha.below hb) hal hna (by omega) (Utf8Tabs_below hT hb)
  have HR : Hid (∀ W, Below w.heap.size w W → IsRow W 3 (.slice a l.length c) l.length (itCells l)) := fun W hb => hr.below hb
  have hne : o ≠ 1 → l ≠ [] := fun h1 => may_ne hm h1
  obtain ⟨RES, hRES⟩ : ∃ r, Hid (holdsB ⟨n, o, l⟩ A = r) := ⟨_, rfl⟩
  rw [hRES.out]
  clear hr hm ha hna hT n1 n3
  obtain ⟨w1, hw1⟩ : ∃ w1, w1 = w.alloc (.cells #[.string n, .int .i64 o, .slice a l.length c] 59) := ⟨_, rfl⟩
  have B1 : Hid (Below w.heap.size w w1) := by show Below _ _ _; rw [hw1]; exact al_b _ _
  have hn1 : w1.heap[w.heap.size]? = some (.cells #[.string n, .int .i64 o, .slice a l.length c] 59 (0, 0)) := by rw [hw1]; exact new_at _ _
  have C1 : Hid (∀ W, Below w1.heap.size w1 W → W.heap[w.heap.size]? = some (.cells #[.string n, .int .i64 o, .slice a l.length c] 59 (0, 0))) := fun W h => (h.block _ (Array.getElem?_eq_some_iff.1 hn1).1).trans hn1
  clear hn1
  have hk := C1.out w1 (Below.refl _ _)
  have c1_0 : w1.cell? ⟨w.heap.size, 0, none⟩ = some (.string n) := by rw [Lib.cell_of_heap hk]; rfl
  have c1_1 : w1.cell? ⟨w.heap.size, 1, none⟩ = some (.int .i64 o) := by rw [Lib.cell_of_heap hk]; rfl
  have c1_2 : w1.cell? ⟨w.heap.size, 2, none⟩ = some (.slice a l.length c) := by rw [Lib.cell_of_heap hk]; rfl
  clear hk
  rw [hw1] at c1_0 c1_1 c1_2
  go_enter Tryz.func32, Tryz.ntmps32
  go_wp2_with fail
  rw [← hw1]
  clear hw1 c1_0 c1_1 c1_2
  refine (HG.out _ B1.out).mono ?_
  rintro e w2 ⟨rfl, hb⟩
  have B2 : Hid (Below w1.heap.size w1 w2) := hb
  clear hb 
  cases hg : getA A n with
  | none =>
    obtain rfl : RES = false := by rw [← hRES.out]; unfold holdsB; dsimp only; rw [hg]
    dsimp only [vOf, Option.isSome]
    obtain ⟨w3, hw3⟩ : ∃ w3, w3 = w2.alloc (.cells #[.int .i64 0, .int .i64 0, .string ⟨#[]⟩] 52) := ⟨_, rfl⟩
    have B3 : Hid (Below w2.heap.size w2 w3) := by show Below _ _ _; rw [hw3]; exact al_b _ _
    have hn3 : w3.heap[w2.heap.size]? = some (.cells #[.int .i64 0, .int .i64 0, .string ⟨#[]⟩] 52 (0, 0)) := by rw [hw3]; exact new_at _ _
    have C3 : Hid (∀ W, Below w3.heap.size w3 W → W.heap[w2.heap.size]? = some (.cells #[.int .i64 0, .int .i64 0, .string ⟨#[]⟩] 52 (0, 0))) := fun W h => (h.block _ (Array.getElem?_eq_some_iff.1 hn3).1).trans hn3
    clear hn3
    go_wp2_with fail
    rw [← hw3]
    clear hw3
    have HB13 : Hid (Below w1.heap.size w1 w3) := (bT B2.out B3.out)
    have HBw : Hid (Below w.heap.size w w3) := (bT (bT B1.out B2.out) B3.out)
    refine wp_region_quiet (C := fun w' => Below w3.heap.size w3 w') (by kernel_rfl) (by kernel_rfl) ((Below.refl _ _).drew) ?_
    dsimp only
    repeat (first
      | go_big_quiet_skip
      | (go_big_quiet_want
         apply Exists.intro
         refine ⟨fun W' hW' => ?_, ?_⟩
         · have hw : Below w3.heap.size w3 W' := hW'
           have hk1 := C1.out W' (HB13.out.trans (hw.mono HB13.out.size))
           have hk2 := C3.out W' hw
           have k0 : W'.cell? ⟨w.heap.size, 0, none⟩ = some (.string n) := by rw [Lib.cell_of_heap hk1]; rfl
           have k1 : W'.cell? ⟨w.heap.size, 1, none⟩ = some (.int .i64 o) := by rw [Lib.cell_of_heap hk1]; rfl
           have k2 : W'.cell? ⟨w.heap.size, 2, none⟩ = some (.slice a l.length c) := by rw [Lib.cell_of_heap hk1]; rfl
           have m0 : W'.cell? ⟨w2.heap.size, 0, none⟩ = some (.int .i64 0) := by rw [Lib.cell_of_heap hk2]; rfl
           have m1 : W'.cell? ⟨w2.heap.size, 1, none⟩ = some (.int .i64 0) := by rw [Lib.cell_of_heap hk2]; rfl
           have m2 : W'.cell? ⟨w2.heap.size, 2, none⟩ = some (.string ⟨#[]⟩) := by rw [Lib.cell_of_heap hk2]; rfl
           clear hk1 hk2
           go_simp
           first
             | done
             | rfl
             | (trace_state; fail)
         go_big_quiet_on
         try simp only [Act.put, List.setIfInBounds_toArray, List.set_cons_zero, List.set_cons_succ]))
    refine wpQuiet_nil ?_
    intro w4 hq4
    have B4 : Hid (Below w3.heap.size w3 w4) := hq4
    clear hq4
    go_wp2
    go_ret
    exact ⟨by first | rfl | simp, (bT (bT (bT B1.out B2.out) B3.out) B4.out)⟩
  | some at_ =>
    obtain ⟨an, ak, av, as_⟩ := at_
    dsimp only [vOf, Option.isSome]
    by_cases h1 : o = 1
    · subst h1
      obtain rfl : RES = true := by rw [← hRES.out]; unfold holdsB; dsimp only; rw [hg]; rfl
      obtain ⟨w3, hw3⟩ : ∃ w3, w3 = w2.alloc (.cells #[.int .i64 ak, .int .i64 av, .string as_] 52) := ⟨_, rfl⟩
      have B3 : Hid (Below w2.heap.size w2 w3) := by show Below _ _ _; rw [hw3]; exact al_b _ _
      have hn3 : w3.heap[w2.heap.size]? = some (.cells #[.int .i64 ak, .int .i64 av, .string as_] 52 (0, 0)) := by rw [hw3]; exact new_at _ _
      have C3 : Hid (∀ W, Below w3.heap.size w3 W → W.heap[w2.heap.size]? = some (.cells #[.int .i64 ak, .int .i64 av, .string as_] 52 (0, 0))) := fun W h => (h.block _ (Array.getElem?_eq_some_iff.1 hn3).1).trans hn3
      clear hn3
      go_wp2_with fail
      rw [← hw3]
      clear hw3
      have HB13 : Hid (Below w1.heap.size w1 w3) := (bT B2.out B3.out)
      have HBw : Hid (Below w.heap.size w w3) := (bT (bT B1.out B2.out) B3.out)
      refine wp_region_quiet (C := fun w' => Below w3.heap.size w3 w') (by kernel_rfl) (by kernel_rfl) ((Below.refl _ _).drew) ?_
      dsimp only
      repeat (first
        | go_big_quiet_skip
        | (go_big_quiet_want
           apply Exists.intro
           refine ⟨fun W' hW' => ?_, ?_⟩
           · have hw : Below w3.heap.size w3 W' := hW'
             have hk1 := C1.out W' (HB13.out.trans (hw.mono HB13.out.size))
             have hk2 := C3.out W' hw
             have k0 : W'.cell? ⟨w.heap.size, 0, none⟩ = some (.string n) := by rw [Lib.cell_of_heap hk1]; rfl
             have k1 : W'.cell? ⟨w.heap.size, 1, none⟩ = some (.int .i64 1) := by rw [Lib.cell_of_heap hk1]; rfl
             have k2 : W'.cell? ⟨w.heap.size, 2, none⟩ = some (.slice a l.length c) := by rw [Lib.cell_of_heap hk1]; rfl
             have m0 : W'.cell? ⟨w2.heap.size, 0, none⟩ = some (.int .i64 ak) := by rw [Lib.cell_of_heap hk2]; rfl
             have m1 : W'.cell? ⟨w2.heap.size, 1, none⟩ = some (.int .i64 av) := by rw [Lib.cell_of_heap hk2]; rfl
             have m2 : W'.cell? ⟨w2.heap.size, 2, none⟩ = some (.string as_) := by rw [Lib.cell_of_heap hk2]; rfl
             clear hk1 hk2
             go_simp
             first
               | done
               | rfl
               | (trace_state; fail)
           go_big_quiet_on
           try simp only [Act.put, List.setIfInBounds_toArray, List.set_cons_zero, List.set_cons_succ]))
      refine wpQuiet_nil ?_
      intro w4 hq4
      have B4 : Hid (Below w3.heap.size w3 w4) := hq4
      clear hq4
      go_wp2
      go_ret
      exact ⟨by first | rfl | simp, (bT (bT (bT B1.out B2.out) B3.out) B4.out)⟩
    · have d1 : decide (o = 1) = false := decide_eq_false h1
      have d1b : (o == 1) = false := by simp [h1]
      obtain ⟨x0, r, rfl⟩ : ∃ x r, l = x :: r := by
        cases l with
        | nil => exact absurd rfl (hne h1)
        | cons x r => exact ⟨x, r, rfl⟩
      have hEq : RES = (decide (ak = x0.k) && meetsB o (x0 :: r) x0 ⟨ak, av, as_⟩) := by rw [← hRES.out]; unfold holdsB; dsimp only; rw [hg]; dsimp only; rw [if_neg h1]
      have HM : Hid (∀ W, Below w.heap.size w W → Calls Tryz.prog 60 #[.agg #[.string n, .int .i64 o, .slice a (x0 :: r).length c], itV ⟨ak, av, as_⟩] W fun e w' => e = .returned (.bool (meetsB o (x0 :: r) x0 ⟨ak, av, as_⟩)) ∧ Below W.heap.size W w') := fun W hb => meets_any n o x0 r a c ⟨ak, av, as_⟩ W (HR.out W hb) n2
      obtain ⟨b0, o0, hab, hlt, c0', -⟩ := items_at (HR.out w (Below.refl _ _)) 0 (by simp)
      subst hab
      simp only [Nat.zero_mul, Nat.add_zero, List.getElem_cons_zero] at c0'
      have HY : Hid (∀ W, Below w.heap.size w W → W.cell? ⟨b0, o0, none⟩ = some (.int .i64 x0.k)) := fun W hb => (hb.cell (p := ⟨b0, _, none⟩) hlt).trans c0'
      have hlen : 0 < (x0 :: r).length := by simp
      have hlen2 : (0 : Int) < ((x0 :: r).length : Int) := by rw [List.length_cons]; omega
      clear hne HR hlt c0' HG hRES
      generalize meetsB o (x0 :: r) x0 ⟨ak, av, as_⟩ = MB at *
      generalize (x0 :: r).length = LN at *
      obtain ⟨xk, xn, xs⟩ := x0
      dsimp only at HY hEq
      by_cases hk : ak = xk
      · subst hk
        have hE2 : RES = MB := by rw [hEq]; simp
        clear hEq
        obtain rfl := hE2
        obtain ⟨w3, hw3⟩ : ∃ w3, w3 = w2.alloc (.cells #[.int .i64 ak, .int .i64 av, .string as_] 52) := ⟨_, rfl⟩
        have B3 : Hid (Below w2.heap.size w2 w3) := by show Below _ _ _; rw [hw3]; exact al_b _ _
        have hn3 : w3.heap[w2.heap.size]? = some (.cells #[.int .i64 ak, .int .i64 av, .string as_] 52 (0, 0)) := by rw [hw3]; exact new_at _ _
        have C3 : Hid (∀ W, Below w3.heap.size w3 W → W.heap[w2.heap.size]? = some (.cells #[.int .i64 ak, .int .i64 av, .string as_] 52 (0, 0))) := fun W h => (h.block _ (Array.getElem?_eq_some_iff.1 hn3).1).trans hn3
        clear hn3
        go_wp2_with fail
        rw [← hw3]
        clear hw3
        have HB13 : Hid (Below w1.heap.size w1 w3) := (bT B2.out B3.out)
        have HBw : Hid (Below w.heap.size w w3) := (bT (bT B1.out B2.out) B3.out)
        refine wp_region_quiet (C := fun w' => Below w3.heap.size w3 w') (by kernel_rfl) (by kernel_rfl) ((Below.refl _ _).drew) ?_
        dsimp only
        repeat (first
          | go_big_quiet_skip
          | (go_big_quiet_want
             apply Exists.intro
             refine ⟨fun W' hW' => ?_, ?_⟩
             · have hw : Below w3.heap.size w3 W' := hW'
               have hk1 := C1.out W' (HB13.out.trans (hw.mono HB13.out.size))
               have hk2 := C3.out W' hw
               have k0 : W'.cell? ⟨w.heap.size, 0, none⟩ = some (.string n) := by rw [Lib.cell_of_heap hk1]; rfl
               have k1 : W'.cell? ⟨w.heap.size, 1, none⟩ = some (.int .i64 o) := by rw [Lib.cell_of_heap hk1]; rfl
               have k2 : W'.cell? ⟨w.heap.size, 2, none⟩ = some (.slice (some ⟨b0, o0, none⟩) LN c) := by rw [Lib.cell_of_heap hk1]; rfl
               have m0 : W'.cell? ⟨w2.heap.size, 0, none⟩ = some (.int .i64 ak) := by rw [Lib.cell_of_heap hk2]; rfl
               have m1 : W'.cell? ⟨w2.heap.size, 1, none⟩ = some (.int .i64 av) := by rw [Lib.cell_of_heap hk2]; rfl
               have m2 : W'.cell? ⟨w2.heap.size, 2, none⟩ = some (.string as_) := by rw [Lib.cell_of_heap hk2]; rfl
               have g0 := HY.out W' (HBw.out.trans (hw.mono HBw.out.size))
               clear hk1 hk2
               go_simp
               first
                 | done
                 | rfl
                 | (go_at_call 60; (with_reducible refine Calls.mono (HM.out W' (HBw.out.trans (hw.mono HBw.out.size))) ?_); rintro e w'' ⟨rfl, hb⟩; exact ⟨rfl, hw.trans (hb.mono hw.size)⟩)
                 | (trace_state; fail)
             go_big_quiet_on
             try simp only [Act.put, List.setIfInBounds_toArray, List.set_cons_zero, List.set_cons_succ]))
        refine wpQuiet_nil ?_
        intro w4 hq4
        have B4 : Hid (Below w3.heap.size w3 w4) := hq4
        clear hq4
        go_wp2
        go_ret
        exact ⟨by first | rfl | simp, (bT (bT (bT B1.out B2.out) B3.out) B4.out)⟩
      · have hE2 : RES = false := by rw [hEq]; simp [hk]
        clear hEq
        obtain rfl := hE2
        have dk : (ak == xk) = false := by simp [hk]
        obtain ⟨w3, hw3⟩ : ∃ w3, w3 = w2.alloc (.cells #[.int .i64 ak, .int .i64 av, .string as_] 52) := ⟨_, rfl⟩
        have B3 : Hid (Below w2.heap.size w2 w3) := by show Below _ _ _; rw [hw3]; exact al_b _ _
        have hn3 : w3.heap[w2.heap.size]? = some (.cells #[.int .i64 ak, .int .i64 av, .string as_] 52 (0, 0)) := by rw [hw3]; exact new_at _ _
        have C3 : Hid (∀ W, Below w3.heap.size w3 W → W.heap[w2.heap.size]? = some (.cells #[.int .i64 ak, .int .i64 av, .string as_] 52 (0, 0))) := fun W h => (h.block _ (Array.getElem?_eq_some_iff.1 hn3).1).trans hn3
        clear hn3
        go_wp2_with fail
        rw [← hw3]
        clear hw3
        have HB13 : Hid (Below w1.heap.size w1 w3) := (bT B2.out B3.out)
        have HBw : Hid (Below w.heap.size w w3) := (bT (bT B1.out B2.out) B3.out)
        refine wp_region_quiet (C := fun w' => Below w3.heap.size w3 w') (by kernel_rfl) (by kernel_rfl) ((Below.refl _ _).drew) ?_
        dsimp only
        repeat (first
          | go_big_quiet_skip
          | (go_big_quiet_want
             apply Exists.intro
             refine ⟨fun W' hW' => ?_, ?_⟩
             · have hw : Below w3.heap.size w3 W' := hW'
               have hk1 := C1.out W' (HB13.out.trans (hw.mono HB13.out.size))
               have hk2 := C3.out W' hw
               have k0 : W'.cell? ⟨w.heap.size, 0, none⟩ = some (.string n) := by rw [Lib.cell_of_heap hk1]; rfl
               have k1 : W'.cell? ⟨w.heap.size, 1, none⟩ = some (.int .i64 o) := by rw [Lib.cell_of_heap hk1]; rfl
               have k2 : W'.cell? ⟨w.heap.size, 2, none⟩ = some (.slice (some ⟨b0, o0, none⟩) LN c) := by rw [Lib.cell_of_heap hk1]; rfl
               have m0 : W'.cell? ⟨w2.heap.size, 0, none⟩ = some (.int .i64 ak) := by rw [Lib.cell_of_heap hk2]; rfl
               have m1 : W'.cell? ⟨w2.heap.size, 1, none⟩ = some (.int .i64 av) := by rw [Lib.cell_of_heap hk2]; rfl
               have m2 : W'.cell? ⟨w2.heap.size, 2, none⟩ = some (.string as_) := by rw [Lib.cell_of_heap hk2]; rfl
               have g0 := HY.out W' (HBw.out.trans (hw.mono HBw.out.size))
               clear hk1 hk2
               go_simp
               first
                 | done
                 | rfl
                 | (go_at_call 60; (with_reducible refine Calls.mono (HM.out W' (HBw.out.trans (hw.mono HBw.out.size))) ?_); rintro e w'' ⟨rfl, hb⟩; exact ⟨rfl, hw.trans (hb.mono hw.size)⟩)
                 | (trace_state; fail)
             go_big_quiet_on
             try simp only [Act.put, List.setIfInBounds_toArray, List.set_cons_zero, List.set_cons_succ]))
        refine wpQuiet_nil ?_
        intro w4 hq4
        have B4 : Hid (Below w3.heap.size w3 w4) := hq4
        clear hq4
        go_wp2
        go_ret
        exact ⟨by first | rfl | simp, (bT (bT (bT B1.out B2.out) B3.out) B4.out)⟩
theorem lets_no {D : List Pd} {A : List At} {F : List PR} (hD : F.map (·.y) = D) {i : Nat} (hi : i < F.length) (h : holdsB F[i].y A = false) : (D.all fun y => holdsB y A) = false := by
  rw [← hD, List.all_eq_false]
  exact ⟨F[i].y, List.mem_map.2 ⟨F[i], List.getElem_mem hi, rfl⟩, by rw [h]; decide⟩
theorem lets_yes {D : List Pd} {A : List At} {F : List PR} (hD : F.map (·.y) = D) (h : ∀ i (hi : i < F.length), holdsB F[i].y A = true) : (D.all fun y => holdsB y A) = true := by
  rw [← hD, List.all_eq_true]
  intro y hy
  obtain ⟨x, hx, rfl⟩ := List.mem_map.1 hy
  obtain ⟨i, hi, rfl⟩ := List.mem_iff_getElem.1 hx
  exact h i hi
theorem chk_may {D : List Pd} (h : chkFl D = true) : ∀ y ∈ D, mayP y = true := by
  unfold chkFl at h
  rw [Bool.and_eq_true, List.all_eq_true] at h
  exact h.2
set_option maxRecDepth 100000 in
set_option maxHeartbeats 4000000 in
theorem lets_any (v : Value) (F : List PR) (D : List Pd) (u : Value) (A : List At) (w : World) (hr : IsFl w v F) (hD : F.map (·.y) = D) (hl : F.length ≤ 1000000) (hn : ∀ y ∈ D, NmP y) (ha : IsRow w 4 u A.length (aCells A)) (hal : A.length ≤ 1000000) (hna : NmA A) (hT : UT w) (hML : ML w) :
    Calls Tryz.prog 14 #[v, u] w fun e w' => e = .returned (.bool (letsB D A)) ∧ Below w.heap.size w w' := by
  have HC : Hid (Calls Tryz.prog 25 #[v] w fun e w' => e = .returned (.bool (chkFl D)) ∧ Below w.heap.size w w') := checkP_any v F D w hr hD hl hn hT
  have HA : Hid (∀ W, Below w.heap.size w W → Calls Tryz.prog 13 #[u] W fun e w' => e = .returned (.bool (chkA A)) ∧ Below W.heap.size W w') := fun W hb => attrs_any u A W (ha.below hb) hal hna (Utf8Tabs_below hT hb) (ML_below hML hb)
  obtain ⟨a0, c0, rfl⟩ := hr.1.form
  have HR : Hid (∀ W, Below w.heap.size w W → IsRow W 3 (.slice a0 F.length c0) F.length (pCells F)) := fun W hb => hr.1.below hb
  have HH : Hid (chkFl D = true → ∀ i (hi : i < F.length) W, Below w.heap.size w W → Calls Tryz.prog 32 #[prV F[i], u] W fun e w' => e = .returned (.bool (holdsB F[i].y A)) ∧ Below W.heap.size W w') := fun hc i hi W hb => by
    have hmem : F[i].y ∈ D := by rw [← hD]; exact List.mem_map.2 ⟨F[i], List.getElem_mem hi, rfl⟩
    exact holds_any F[i] u A W ((hr.2 _ (List.getElem_mem hi)).below hb) (hn _ hmem) (chk_may hc _ hmem) (ha.below hb) hal hna (Utf8Tabs_below hT hb)
  have HNo : Hid (∀ i (hi : i < F.length), holdsB F[i].y A = false → (D.all fun y => holdsB y A) = false) := fun i hi h => lets_no hD hi h
  have HYes : Hid ((∀ i (hi : i < F.length), holdsB F[i].y A = true) → (D.all fun y => holdsB y A) = true) := fun h => lets_yes hD h
  have hEq : letsB D A = (chkFl D && (chkA A && D.all fun y => holdsB y A)) := rfl
  rw [hEq]
  generalize (D.all fun y => holdsB y A) = Z at *
  generalize chkFl D = X1 at *
  generalize chkA A = X2 at *
  clear hr hD hn ha hna hT hML hEq
  go_enter Tryz.func14, Tryz.ntmps14
  go_wp2_with fail
  refine HC.out.mono ?_
  rintro e w1 ⟨rfl, hb⟩
  have B1 : Hid (Below w.heap.size w w1) := hb
  clear hb HC
  cases X1 with
  | false =>
    go_wp2
    go_ret
    exact ⟨rfl, B1.out⟩
  | true =>
    go_wp2_with fail
    refine (HA.out w1 B1.out).mono ?_
    rintro e w2 ⟨rfl, hb⟩
    have B2 : Hid (Below w.heap.size w w2) := B1.out.trans (hb.mono B1.out.size)
    clear hb HA
    cases X2 with
    | false =>
      go_wp2
      go_ret
      exact ⟨rfl, B2.out⟩
    | true =>
      go_wp2_with fail
      go_loopw [6, 17] (fun _ i wr => ∃ j : Nat, j ≤ F.length ∧ i = .int .i64 (j : Int) ∧ Hid (∀ k (h : k < F.length), k < j → holdsB F[k].y A = true) ∧ Hid (Below w.heap.size w wr)) (fun _ i _ => F.length - (intOf i).toNat)
      case atStart => exact ⟨0, by omega, rfl, (fun k h hj => absurd hj (Nat.not_lt_zero _)), B2.out⟩
      case round =>
        obtain ⟨j, hj, rfl, HO, HB⟩ := hrel
        by_cases hlk : j < F.length
        · have dj : decide ((j : Int) < (F.length : Int)) = true := by simp; omega
          obtain ⟨b0, o0, rfl, hlt, c0', c1, c2⟩ := p_at (HR.out wr HB.out) j hlk
          have q1 : (0 : Int) ≤ (j : Int) := by omega
          have q2 : (j : Int) < (F.length : Int) := by omega
          have HMj : Hid (∀ W, Below w.heap.size w W → Calls Tryz.prog 32 #[prV F[j], u] W fun e w' => e = .returned (.bool (holdsB F[j].y A)) ∧ Below W.heap.size W w') := fun W hb => HH.out (by trivial) j hlk W hb
          have HOn : Hid (holdsB F[j].y A = true → ∀ k (h : k < F.length), k < j + 1 → holdsB F[k].y A = true) := fun hs k h hk => by
            by_cases e : k = j
            · subst e; exact hs
            · exact HO.out k h (by omega)
          have HNj : Hid (holdsB F[j].y A = false → Z = false) := fun h => HNo.out j hlk h
          clear HO HH HNo HYes
          generalize holdsB F[j].y A = B at *
          generalize F[j]'hlk = x at *
          obtain ⟨⟨n, o, l⟩, a, c⟩ := x
          dsimp only [prV, PR.v] at *
          have HB2 : Hid (Below w.heap.size w (wr.alloc (.cells #[.string n, .int .i64 o, .slice a l.length c] 59))) := HB.out.trans ((al_f wr _).mono HB.out.size)
          go_wp2_with fail
          refine (HMj.out _ HB2.out).mono ?_
          rintro e w3 ⟨rfl, hb⟩
          have HB3 : Hid (Below w.heap.size w w3) := HB2.out.trans (hb.mono HB2.out.size)
          clear hb HMj HB2
          cases B with
          | false =>
            have HZ : Hid (Z = false) := HNj.out rfl
            go_wp2
            go_ret
            exact ⟨by rw [HZ.out]; rfl, HB3.out⟩
          | true =>
            have HO3 : Hid (∀ k (h : k < F.length), k < j + 1 → holdsB F[k].y A = true) := HOn.out rfl
            go_wp2
            go_roundw
            case rel => exact ⟨j + 1, by omega, by simp, HO3.out, HB3.out⟩
            case measure => simp [intOf]; omega
        · have dj : decide ((j : Int) < (F.length : Int)) = false := by simp; omega
          have HZ : Hid (Z = true) := HYes.out fun i hi => HO.out i hi (by omega)
          clear HO HH HNo HYes HR
          go_wp2
          go_ret
          exact ⟨by rw [HZ.out]; rfl, HB.out⟩
end Go.Proofs.YtjamkfkbajhefaaGreatDoor.F
/- schema.Merge where it tells an error: its walk. -/
namespace Go.Proofs.YtjamkfkbajhefaaGreatDoor
open Go.RowKit

/-- Has one of the fields a name that is there? -/
def clashL (a b : List Fd) : Bool := b.any fun x => (getF a x.n).isSome
/-- What Merge tells ahead of sorting. -/
def mergeE (a b : List Fd) : Int := if chkF a = true ∧ chkF b = true then (if clashL a b = true then 9 else 0) else 1
theorem clash_at {a b : List Fd} {k : Nat} (h : k < b.length) (hk : (getF a b[k].n).isSome = true) : clashL a b = true := List.any_eq_true.2 ⟨_, List.getElem_mem h, hk⟩
theorem clash_no {a b : List Fd} (h : ∀ (k : Nat) (hk : k < b.length), (getF a b[k].n).isSome = false) : clashL a b = false := by
  unfold clashL
  rw [List.any_eq_false]
  intro y hy
  obtain ⟨j, hj, rfl⟩ := List.getElem_of_mem hy
  rw [h j hj]
  exact Bool.false_ne_true
set_option maxRecDepth 100000 in
set_option maxHeartbeats 4000000 in
theorem merge_bad (v u : Value) (l a : List Fd) (w : World) (hr : IsRow w 3 v l.length (fCells l)) (hq : IsRow w 3 u a.length (fCells a)) (hl : l.length ≤ 1000000) (hal : a.length ≤ 1000000) (hn : NmF l) (hna : NmF a) (hT : UT w) (hM : ML w) (hbad : mergeE l a ≠ 0) :
    Calls Tryz.prog 51 #[v, u] w fun e w' => e = .returned (.tuple #[.slice none 0 0, .int .i64 (mergeE l a)]) ∧ Below w.heap.size w w' := by
  obtain ⟨a0, cap0, rfl⟩ := hr.form
  obtain ⟨a1, cap1, rfl⟩ := hq.form
  have HQ : Hid (∀ w', Below w.heap.size w w' → IsRow w' 3 (.slice a1 a.length cap1) a.length (fCells a)) := fun w' h => hq.below h
  have HCF : Hid (Calls Tryz.prog 24 #[.slice a0 l.length cap0] w fun e w'' => e = .returned (.bool (chkF l)) ∧ Below w.heap.size w w'') := checkF_any _ l w hr hl hn hT hM
  have HCA : Hid (∀ w', Below w.heap.size w w' → Calls Tryz.prog 24 #[.slice a1 a.length cap1] w' fun e w'' => e = .returned (.bool (chkF a)) ∧ Below w'.heap.size w' w'') := fun w' h => checkF_any _ a w' (hq.below h) hal hna (Utf8Tabs_below hT h) (ML_below hM h)
  have HF : Hid (∀ (k : Nat) (hk : k < a.length) w', Below w.heap.size w w' → Calls Tryz.prog 26 #[.slice a0 l.length cap0, .string a[k].n] w' fun e w'' => e = .returned (.tuple #[fV ((getF l a[k].n).getD zF), .bool (getF l a[k].n).isSome]) ∧ Below w'.heap.size w' w'') := fun k hk w' h => find_any _ l _ w' (hr.below h) hl hn (hna _ (List.getElem_mem hk)) (Utf8Tabs_below hT h)
  clear hr hq hn hna hT hM
  cases hcl : chkF l with
  | false =>
    have e0 : mergeE l a = 1 := by unfold mergeE; rw [hcl]; simp
    rw [hcl] at HCF
    rw [e0]
    clear hbad
    go_enter Tryz.func51, Tryz.ntmps51
    go_wp2_with fail
    refine HCF.out.mono ?_
    rintro e w1 ⟨rfl, hb⟩
    have HB : Hid (Below w.heap.size w w1) := hb
    clear hb
    go_wp2
    go_ret2
    exact ⟨rfl, HB.out⟩
  | true =>
  rw [hcl] at HCF
  cases hca : chkF a with
  | false =>
    have e0 : mergeE l a = 1 := by unfold mergeE; rw [hca]; simp
    rw [hca] at HCA
    rw [e0]
    clear hbad
    go_enter Tryz.func51, Tryz.ntmps51
    go_wp2_with fail
    refine HCF.out.mono ?_
    rintro e w1 ⟨rfl, hb⟩
    have HB : Hid (Below w.heap.size w w1) := hb
    clear hb
    go_wp2_with fail
    refine (HCA.out w1 HB.out).mono ?_
    rintro e w2 ⟨rfl, hb⟩
    have HB2 : Hid (Below w.heap.size w w2) := HB.out.trans (hb.mono HB.out.size)
    clear hb
    go_wp2
    go_ret2
    exact ⟨rfl, HB2.out⟩
  | true =>
  rw [hca] at HCA
  have hcls : clashL l a = true := by
    cases h : clashL l a with
    | true => rfl
    | false => exact absurd (by unfold mergeE; rw [hcl, hca, h]; rfl) hbad
  have e0 : mergeE l a = 9 := by unfold mergeE; rw [hcl, hca, hcls]; rfl
  rw [e0]
  have HX : Hid (clashL l a = true) := hcls
  clear hcl hca hbad hcls e0
  go_enter Tryz.func51, Tryz.ntmps51
  go_wp2_with fail
  refine HCF.out.mono ?_
  rintro e w1 ⟨rfl, hb⟩
  have HB : Hid (Below w.heap.size w w1) := hb
  clear hb
  go_wp2_with fail
  refine (HCA.out w1 HB.out).mono ?_
  rintro e w2 ⟨rfl, hb⟩
  have HB2 : Hid (Below w.heap.size w w2) := HB.out.trans (hb.mono HB.out.size)
  clear hb
  go_wp2_with fail
  go_loopw [4, 5, 20] (fun r r5 i wr => r = .slice none 0 0 ∧ r5 = .int .i64 0 ∧ ∃ k : Nat, k ≤ a.length ∧ i = .int .i64 (k : Int) ∧ Hid (∀ (j : Nat) (hj : j < a.length), j < k → (getF l a[j].n).isSome = false) ∧ Below w.heap.size w wr) (fun _ _ i _ => a.length - (intOf i).toNat)
  case atStart => exact ⟨rfl, rfl, 0, Nat.zero_le _, rfl, fun j h hj => absurd hj (Nat.not_lt_zero _), HB2.out⟩
  case round =>
    obtain ⟨rfl, rfl, k, hk, rfl, HO, hB⟩ := hrel
    by_cases hlk : k < a.length
    · have dk : decide ((k : Int) < a.length) = true := by simp; omega
      obtain ⟨b, off, rfl, hlt, hcap, hc⟩ := f_at (HQ.out wr hB) (by omega)
      obtain ⟨ck0, ck1, ck2⟩ := hc k hlk
      have hAl := al_b wr (.cells #[.string a[k].n, .int .i64 a[k].k, .bool a[k].m] 48)
      have hB1 := hB.trans (hAl.mono hB.size)
      have HFk : Hid (Calls Tryz.prog 26 #[.slice a0 l.length cap0, .string a[k].n] (wr.alloc (.cells #[.string a[k].n, .int .i64 a[k].k, .bool a[k].m] 48)) fun e w'' => e = .returned (.tuple #[fV ((getF l a[k].n).getD zF), .bool (getF l a[k].n).isSome]) ∧ Below (wr.alloc (.cells #[.string a[k].n, .int .i64 a[k].k, .bool a[k].m] 48)).heap.size (wr.alloc (.cells #[.string a[k].n, .int .i64 a[k].k, .bool a[k].m] 48)) w'') := HF.out k hlk _ hB1
      have HN : Hid (∀ w', Below (wr.alloc (.cells #[.string a[k].n, .int .i64 a[k].k, .bool a[k].m] 48)).heap.size (wr.alloc (.cells #[.string a[k].n, .int .i64 a[k].k, .bool a[k].m] 48)) w' → Below w.heap.size w w') := fun w' h => hB1.trans (h.mono hB1.size)
      have HO2 : Hid ((getF l a[k].n).isSome = false → ∀ (j : Nat) (hj : j < a.length), j < k + 1 → (getF l a[j].n).isSome = false) := fun hs j h hj => by
        by_cases e : j = k
        · subst e; exact hs
        · exact HO.out j h (by omega)
      generalize (getF l a[k].n).isSome = q at *
      generalize (getF l a[k].n).getD zF = f at *
      generalize a[k]'hlk = x at *
      obtain ⟨n, kk, mm⟩ := x
      obtain ⟨fn, fk, fm⟩ := f
      clear hc HO hAl hB1 hB
      cases q with
      | true =>
        go_wp2_with fail
        refine HFk.out.mono ?_
        rintro e w3 ⟨rfl, hb⟩
        have HBB : Hid (Below w.heap.size w w3) := HN.out w3 hb
        clear hb HFk
        go_wp2
        go_ret2
        exact ⟨rfl, HBB.out.trans ((al_b w3 _).mono HBB.out.size)⟩
      | false =>
        go_wp2_with fail
        refine HFk.out.mono ?_
        rintro e w3 ⟨rfl, hb⟩
        have HBB : Hid (Below w.heap.size w w3) := HN.out w3 hb
        clear hb HFk
        go_wp2
        go_roundw
        case rel => exact ⟨rfl, rfl, k + 1, by omega, by simp, HO2.out (by trivial), HBB.out.trans ((al_b w3 _).mono HBB.out.size)⟩
        case measure => simp [intOf]; omega
    · have hk' : k = a.length := by omega
      subst hk'
      have := clash_no (a := l) (fun j hj => HO.out j hj hj)
      rw [HX.out] at this
      exact absurd this (by simp)
end Go.Proofs.YtjamkfkbajhefaaGreatDoor
/- The law's awake: its walk. -/
namespace Go.Proofs.YtjamkfkbajhefaaGreatDoor
open Go.RowKit

end Go.Proofs.YtjamkfkbajhefaaGreatDoor
