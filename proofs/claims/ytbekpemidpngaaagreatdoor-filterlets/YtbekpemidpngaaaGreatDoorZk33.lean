/- The reference's begins, Holds, Lets: walks. -/
import Derived.Test.YtbekpemidpngaaaGreatDoorZk31
import Derived.Test.YtbekpemidpngaaaGreatDoorZk32
import Derived.Lib.Strings
namespace Go.Proofs.YtbekpemidpngaaaGreatDoor
open Go.RowKit Go.ChangeMaps

set_option maxRecDepth 100000 in
theorem begins8_any (s t : ByteArray) (w : World) : Calls Tryz.prog 40 #[.string s, .string t] w fun e w' => e = .returned (.bool (Lib.hasPrefix s.data.toList t.data.toList)) ∧ w' = w := by
  rw [← Lib.hasPrefix_raw]
  by_cases h : t.size ≤ s.size
  · have d : decide ((t.size : Int) ≤ (s.size : Int)) = true := decide_eq_true (by omega)
    have d' : decide (t.size ≤ s.size) = true := decide_eq_true h
    have h0 : (0 : Int) ≤ (t.size : Int) := by omega
    have h1 : (t.size : Int) ≤ (s.size : Int) := by omega
    rw [d', Bool.true_and]
    go_enter Tryz.func40, Tryz.ntmps40
    go_wp2
    go_ret
    exact ⟨by first | rfl | simp, rfl⟩
  · have d : decide ((t.size : Int) ≤ (s.size : Int)) = false := decide_eq_false (by omega)
    have d' : decide (t.size ≤ s.size) = false := decide_eq_false h
    rw [d', Bool.false_and]
    go_enter Tryz.func40, Tryz.ntmps40
    go_wp2
    go_ret
    exact ⟨by first | rfl | simp, rfl⟩
def hdB (o : Int) (z : It) : List It → Bool
  | x0 :: r => decide (z.k = x0.k) && meetsB o (x0 :: r) x0 z
  | [] => false
theorem holds_get {n : ByteArray} {o : Int} {l : List It} {A : List At} {z : At} (h : getA A n = some z) : holdsB ⟨n, o, l⟩ A = if o = 1 then true else hdB o ⟨z.k, z.v, z.s⟩ l := by
  unfold holdsB
  dsimp only
  rw [h]
  by_cases h1 : o = 1
  · rw [if_pos h1]
    simp [h1]
  · rw [if_neg h1]
    cases l <;> simp [h1, hdB]
theorem inV_iff {l : List It} {v : It} : inV l v = true ↔ ∃ k, ∃ h : k < l.length, l[k] = v := by
  unfold inV
  rw [List.any_eq_true]
  constructor
  · rintro ⟨y, hy, h⟩
    obtain ⟨k, hk, rfl⟩ := List.mem_iff_getElem.1 hy
    exact ⟨k, hk, ((eqV1_iff _ _).1 h).symm⟩
  · rintro ⟨k, hk, h⟩
    exact ⟨l[k], List.getElem_mem hk, (eqV1_iff _ _).2 h.symm⟩
set_option maxRecDepth 100000 in
set_option maxHeartbeats 8000000 in
theorem holds8_any (x : PR) (u : Value) (A : List At) (w : World) (hr : IsRow w 3 x.v x.y.l.length (itCells x.y.l)) (hn : NmP x.y) (ha : IsRow w 4 u A.length (aCells A)) (hal : A.length ≤ 1000000) (hna : NmRA A) :
    Calls Tryz.prog 21 #[prV x, u] w fun e w' => e = .returned (.bool (mayP x.y && (chkA A && holdsB x.y A))) ∧ Below w.heap.size w w' := by
  obtain ⟨⟨n, o, l⟩, a, c⟩ := x
  obtain ⟨au, cu, rfl⟩ := ha.form
  have HMy : Hid (∀ W, Below w.heap.size w W → Calls Tryz.prog 29 #[.agg #[.string n, .int .i64 o, .slice a l.length c]] W fun e w' => e = .returned (.bool (mayP ⟨n, o, l⟩)) ∧ Below W.heap.size W w') := fun W hb => may8_any ⟨⟨n, o, l⟩, a, c⟩ W (hr.below hb) hn
  obtain ⟨n1, n2, n3⟩ := hn
  show Calls Tryz.prog 21 #[.agg #[.string n, .int .i64 o, .slice a l.length c], .slice au A.length cu] w _
  dsimp only [PR.v, prV] at *
  have HAt : Hid (∀ W, Below w.heap.size w W → Calls Tryz.prog 37 #[.slice au A.length cu] W fun e w' => e = .returned (.bool (chkA A)) ∧ Below W.heap.size W w') := fun W hb => refAttrsA_any _ A W (ha.below hb) hal hna
  have HGt : Hid (∀ W, Below w.heap.size w W → Calls Tryz.prog 38 #[.slice au A.length cu, .string n] W fun e w' => ∃ r, e = .returned (.int .i64 r) ∧ GiR A n r ∧ Below W.heap.size W w') := fun W hb => refGetA_any _ A n W (ha.below hb) hal hna n1
  have HCm : Hid (∀ (x y : It) W, Calls Tryz.prog 39 #[itV x, itV y] W fun e w' => e = .returned (.int .i64 (cfV x y)) ∧ Below W.heap.size W w') := fun x y W => V.refCompare_any _ _ _ _ _ _ W
  have HBg : Hid (∀ (s t : ByteArray) W, Calls Tryz.prog 40 #[.string s, .string t] W fun e w' => e = .returned (.bool (Lib.hasPrefix s.data.toList t.data.toList)) ∧ w' = W) := fun s t W => begins8_any s t W
  have HR : Hid (∀ W, Below w.heap.size w W → IsRow W 3 (.slice a l.length c) l.length (itCells l)) := fun W hb => hr.below hb
  have HA : Hid (IsRow w 4 (.slice au A.length cu) A.length (aCells A)) := ha
  have hne : mayP ⟨n, o, l⟩ = true → o ≠ 1 → l ≠ [] := fun h h1 => may_ne h h1
  obtain ⟨Z, hZ⟩ : ∃ Z, (mayP ⟨n, o, l⟩ && (chkA A && holdsB ⟨n, o, l⟩ A)) = Z := ⟨_, rfl⟩
  rw [hZ]
  generalize mayP ⟨n, o, l⟩ = P1 at *
  generalize chkA A = P2 at *
  have HL : Hid (l.length ≤ 1000000) := n2
  clear hr ha hna n1 n2 n3
  obtain ⟨w1, hw1⟩ : ∃ w1, w1 = w.alloc (.cells #[.string n, .int .i64 o, .slice a l.length c] 49) := ⟨_, rfl⟩
  have B1 : Hid (Below w.heap.size w w1) := by show Below _ _ _; rw [hw1]; exact al_b _ _
  have hn1 : w1.heap[w.heap.size]? = some (.cells #[.string n, .int .i64 o, .slice a l.length c] 49 (0, 0)) := by rw [hw1]; exact new_at _ _
  have C1 : Hid (∀ W, Below w1.heap.size w1 W → W.heap[w.heap.size]? = some (.cells #[.string n, .int .i64 o, .slice a l.length c] 49 (0, 0))) := fun W h => (h.block _ (Array.getElem?_eq_some_iff.1 hn1).1).trans hn1
  clear hn1
  go_enter Tryz.func21, Tryz.ntmps21
  have hk := C1.out w1 (Below.refl _ _)
  have c1_0 : w1.cell? ⟨w.heap.size, 0, none⟩ = some (.string n) := by rw [Lib.cell_of_heap hk]; rfl
  have c1_1 : w1.cell? ⟨w.heap.size, 1, none⟩ = some (.int .i64 o) := by rw [Lib.cell_of_heap hk]; rfl
  have c1_2 : w1.cell? ⟨w.heap.size, 2, none⟩ = some (.slice a l.length c) := by rw [Lib.cell_of_heap hk]; rfl
  clear hk
  rw [hw1] at c1_0 c1_1 c1_2
  go_wp2_with fail
  rw [← hw1]
  clear hw1 c1_0 c1_1 c1_2
  refine (HMy.out _ B1.out).mono ?_
  rintro e w2 ⟨rfl, hb⟩
  have B2 : Hid (Below w1.heap.size w1 w2) := hb
  clear hb HMy
  cases P1 with
  | false =>
    obtain rfl : false = Z := hZ
    go_wp2
    go_ret
    exact ⟨rfl, (bT B1.out B2.out)⟩
  | true =>
  go_wp2_with fail
  refine (HAt.out _ (bT B1.out B2.out)).mono ?_
  rintro e w3 ⟨rfl, hb⟩
  have B3 : Hid (Below w2.heap.size w2 w3) := hb
  clear hb HAt
  cases P2 with
  | false =>
    obtain rfl : false = Z := hZ
    go_wp2
    go_ret
    exact ⟨rfl, (bT (bT B1.out B2.out) B3.out)⟩
  | true =>
  have hZ2 : holdsB ⟨n, o, l⟩ A = Z := hZ
  clear hZ
  have hk := C1.out w3 (bT B2.out B3.out)
  have c1_0 : w3.cell? ⟨w.heap.size, 0, none⟩ = some (.string n) := by rw [Lib.cell_of_heap hk]; rfl
  have c1_1 : w3.cell? ⟨w.heap.size, 1, none⟩ = some (.int .i64 o) := by rw [Lib.cell_of_heap hk]; rfl
  have c1_2 : w3.cell? ⟨w.heap.size, 2, none⟩ = some (.slice a l.length c) := by rw [Lib.cell_of_heap hk]; rfl
  clear hk
  go_wp2_with fail
  clear c1_0 c1_1 c1_2
  refine (HGt.out _ (bT (bT B1.out B2.out) B3.out)).mono ?_
  rintro e w4 ⟨r, rfl, hg, hb⟩
  have B4 : Hid (Below w3.heap.size w3 w4) := hb
  clear hb HGt
  rcases hg with ⟨q, hq, rfl, hget⟩ | ⟨rfl, hget⟩
  rotate_left
  · obtain rfl : false = Z := by rw [← hZ2]; unfold holdsB; dsimp only; rw [hget]
    clear hZ2 hget
    go_wp2
    go_ret
    exact ⟨rfl, (bT (bT (bT B1.out B2.out) B3.out) B4.out)⟩
  have hE := holds_get (n := n) (o := o) (l := l) hget
  rw [hE] at hZ2
  clear hE hget
  obtain ⟨bq, oq, rfl, hltq, -, hcq⟩ := a_at HA.out (by omega)
  obtain ⟨-, cq1, cq2, cq3⟩ := hcq q hq
  have HQ : Hid (∀ W, Below w.heap.size w W → W.cell? ⟨bq, oq + q * 4 + 1, none⟩ = some (.int .i64 A[q].k) ∧ W.cell? ⟨bq, oq + q * 4 + 2, none⟩ = some (.int .i64 A[q].v) ∧ W.cell? ⟨bq, oq + q * 4 + 3, none⟩ = some (.string A[q].s)) := fun W hb => ⟨(hb.cell (p := ⟨bq, _, none⟩) hltq).trans cq1, (hb.cell (p := ⟨bq, _, none⟩) hltq).trans cq2, (hb.cell (p := ⟨bq, _, none⟩) hltq).trans cq3⟩
  have dq : decide ((q : Int) < 0) = false := decide_eq_false (by omega)
  have q1 : (0 : Int) ≤ (q : Int) := by omega
  have q2 : (q : Int) < (A.length : Int) := by omega
  clear hcq cq1 cq2 cq3 hltq HA
  generalize A[q] = at_ at *
  obtain ⟨an, ak, av, as_⟩ := at_
  dsimp only at HQ hZ2
  obtain ⟨w5, hw5⟩ : ∃ w5, w5 = w4.alloc (.cells #[.int .i64 ak, .int .i64 av, .string as_] 67) := ⟨_, rfl⟩
  have B5 : Hid (Below w4.heap.size w4 w5) := by show Below _ _ _; rw [hw5]; exact al_b _ _
  have hn5 : w5.heap[w4.heap.size]? = some (.cells #[.int .i64 ak, .int .i64 av, .string as_] 67 (0, 0)) := by rw [hw5]; exact new_at _ _
  have C5 : Hid (∀ W, Below w5.heap.size w5 W → W.heap[w4.heap.size]? = some (.cells #[.int .i64 ak, .int .i64 av, .string as_] 67 (0, 0))) := fun W h => (h.block _ (Array.getElem?_eq_some_iff.1 hn5).1).trans hn5
  clear hn5
  obtain ⟨e1, e2, e3⟩ := HQ.out w4 (bT (bT (bT B1.out B2.out) B3.out) B4.out)
  have hk := C1.out w5 (bT (bT (bT B2.out B3.out) B4.out) B5.out)
  have c1_0 : w5.cell? ⟨w.heap.size, 0, none⟩ = some (.string n) := by rw [Lib.cell_of_heap hk]; rfl
  have c1_1 : w5.cell? ⟨w.heap.size, 1, none⟩ = some (.int .i64 o) := by rw [Lib.cell_of_heap hk]; rfl
  have c1_2 : w5.cell? ⟨w.heap.size, 2, none⟩ = some (.slice a l.length c) := by rw [Lib.cell_of_heap hk]; rfl
  clear hk
  rw [hw5] at c1_0 c1_1 c1_2
  have HKp : Hid (∀ W, Below w5.heap.size w5 W → W.heap[w.heap.size]? = some (.cells #[.string n, .int .i64 o, .slice a l.length c] 49 (0, 0))) := fun W h => C1.out W (bT (bT (bT (bT B2.out B3.out) B4.out) B5.out) h)
  have HKv : Hid (∀ W, Below w5.heap.size w5 W → W.heap[w4.heap.size]? = some (.cells #[.int .i64 ak, .int .i64 av, .string as_] 67 (0, 0))) := C5
  have HBv : Hid (Below w.heap.size w w5) := (bT (bT (bT (bT B1.out B2.out) B3.out) B4.out) B5.out)
  have HCe : ∀ v, w5.cell? v = (w4.alloc (.cells #[.int .i64 ak, .int .i64 av, .string as_] 67)).cell? v := fun v => by rw [hw5]
  by_cases h1 : o = 1
  · subst h1
    rw [if_pos rfl] at hZ2
    subst hZ2
    clear HCe
    go_wp2_with fail
    go_ret
    first
      | exact ⟨rfl, HBv.out⟩
      | (rw [← hw5]; exact ⟨rfl, HBv.out⟩)
  rw [if_neg h1] at hZ2
  obtain ⟨x0, r, rfl⟩ : ∃ x r, l = x :: r := by
    cases l with
    | nil => exact absurd rfl (hne (by trivial) h1)
    | cons x r => exact ⟨x, r, rfl⟩
  have hZ3 : (decide (ak = x0.k) && meetsB o (x0 :: r) x0 ⟨ak, av, as_⟩) = Z := hZ2
  have e1' : (o == 1) = false := by simp [h1]
  obtain ⟨b0, o0, rfl, hlt0, -⟩ := items_at (HR.out w (Below.refl _ _)) 0 (by simp)
  have HY2 : Hid (∀ W, Below w.heap.size w W → ∀ i (h : i < (x0 :: r).length), W.cell? ⟨b0, o0 + i * 3, none⟩ = some (.int .i64 (x0 :: r)[i].k) ∧ W.cell? ⟨b0, o0 + i * 3 + 1, none⟩ = some (.int .i64 (x0 :: r)[i].n) ∧ W.cell? ⟨b0, o0 + i * 3 + 2, none⟩ = some (.string (x0 :: r)[i].s)) := fun W h i hi => by
    obtain ⟨b', o', hv, -, p0, p1, p2⟩ := items_at (HR.out W h) i hi
    simp only [Option.some.injEq, Addr.mk.injEq] at hv
    obtain ⟨rfl, rfl, -⟩ := hv
    exact ⟨p0, p1, p2⟩
  have HY : Hid (∀ W, Below w.heap.size w W → W.cell? ⟨b0, o0, none⟩ = some (.int .i64 x0.k) ∧ W.cell? ⟨b0, o0 + 1, none⟩ = some (.int .i64 x0.n) ∧ W.cell? ⟨b0, o0 + 2, none⟩ = some (.string x0.s)) := fun W h => by
    have := HY2.out W h 0 (by simp)
    simp only [Nat.zero_mul, Nat.add_zero, List.getElem_cons_zero] at this
    exact this
  have hlen2 : (0 : Int) < ((x0 :: r).length : Int) := by rw [List.length_cons]; omega
  clear hZ2 hne hlt0 HR HQ HCe B1
  have hl0 : x0 :: r ≠ [] := List.cons_ne_nil _ _
  have hlen : 0 < (x0 :: r).length := by simp
  generalize hl : x0 :: r = l at *
  clear hl
  go_wp2_with fail
  rw [← hw5]
  clear hw5 c1_0 c1_1 c1_2 e1 e2 e3 C5 C1
  obtain ⟨xk, xn, xs⟩ := x0
  dsimp only at HY hZ3
  by_cases hk : ak = xk
  rotate_left
  · have dk : (ak != xk) = true := by simp [hk]
    obtain rfl : false = Z := by rw [← hZ3, decide_eq_false hk]; rfl
    clear hZ3 HY2
    refine wp_region_quiet (C := fun w' => Below w5.heap.size w5 w') (by kernel_rfl) (by kernel_rfl) ((Below.refl _ _).drew) ?_
    dsimp only
    repeat (first
      | go_big_quiet_skip
      | (go_big_quiet_want
         apply Exists.intro
         refine ⟨fun W' hW' => ?_, ?_⟩
         · have hw : Below w5.heap.size w5 W' := hW'
           have h7 : Below w5.heap.size w5 W' := hW'
           have hk1 := HKp.out W' h7
           have hk2 := HKv.out W' h7
           have k1 : W'.cell? ⟨w.heap.size, 1, none⟩ = some (.int .i64 o) := by rw [Lib.cell_of_heap hk1]; rfl
           have k2 : W'.cell? ⟨w.heap.size, 2, none⟩ = some (.slice (some ⟨b0, o0, none⟩) l.length c) := by rw [Lib.cell_of_heap hk1]; rfl
           have m0 : W'.cell? ⟨w4.heap.size, 0, none⟩ = some (.int .i64 ak) := by rw [Lib.cell_of_heap hk2]; rfl
           have m1 : W'.cell? ⟨w4.heap.size, 1, none⟩ = some (.int .i64 av) := by rw [Lib.cell_of_heap hk2]; rfl
           have m2 : W'.cell? ⟨w4.heap.size, 2, none⟩ = some (.string as_) := by rw [Lib.cell_of_heap hk2]; rfl
           obtain ⟨g0, g1, g2⟩ := HY.out W' (bT HBv.out h7)
           clear hk1 hk2
           go_simp
           first
             | done
             | rfl
         go_big_quiet_on
         try simp only [Act.put, List.setIfInBounds_toArray, List.set_cons_zero, List.set_cons_succ]))
    refine wpQuiet_nil ?_
    intro z1 hz1
    have D1 : Hid (Below w5.heap.size w5 z1) := hz1
    clear hz1
    go_wp2
    go_ret
    exact ⟨by first | rfl | simp, bT HBv.out D1.out⟩
  subst hk
  have hZ4 : meetsB o l ⟨ak, xn, xs⟩ ⟨ak, av, as_⟩ = Z := by rw [← hZ3, decide_eq_true rfl]; rfl
  clear hZ3
  have HCmj : Hid (∀ W, Calls Tryz.prog 39 #[itV ⟨ak, av, as_⟩, itV ⟨ak, xn, xs⟩] W fun e w' => e = .returned (.int .i64 (cfV ⟨ak, av, as_⟩ ⟨ak, xn, xs⟩)) ∧ Below W.heap.size W w') := fun W => HCm.out _ _ W
  have HBgj : Hid (∀ W, Calls Tryz.prog 40 #[.string as_, .string xs] W fun e w' => e = .returned (.bool (Lib.hasPrefix as_.data.toList xs.data.toList)) ∧ w' = W) := fun W => HBg.out _ _ W
  have hM : (if o = 2 then decide (cfV ⟨ak, av, as_⟩ ⟨ak, xn, xs⟩ = 0) else if o = 3 then !decide (cfV ⟨ak, av, as_⟩ ⟨ak, xn, xs⟩ = 0) else if o = 4 then decide (cfV ⟨ak, av, as_⟩ ⟨ak, xn, xs⟩ < 0) else if o = 5 then decide (cfV ⟨ak, av, as_⟩ ⟨ak, xn, xs⟩ ≤ 0) else if o = 6 then decide (0 < cfV ⟨ak, av, as_⟩ ⟨ak, xn, xs⟩) else if o = 7 then decide (0 ≤ cfV ⟨ak, av, as_⟩ ⟨ak, xn, xs⟩) else if o = 8 then Lib.hasPrefix as_.data.toList xs.data.toList else inV l ⟨ak, av, as_⟩) = Z := hZ4
  clear hZ4 HCm HBg
  generalize cfV ⟨ak, av, as_⟩ ⟨ak, xn, xs⟩ = M at *
  generalize Lib.hasPrefix as_.data.toList xs.data.toList = PX at *
  refine wp_region_quiet (C := fun w' => Below w5.heap.size w5 w') (by kernel_rfl) (by kernel_rfl) ((Below.refl _ _).drew) ?_
  dsimp only
  repeat (first
    | go_big_quiet_skip
    | (go_big_quiet_want
       apply Exists.intro
       refine ⟨fun W' hW' => ?_, ?_⟩
       · have hw : Below w5.heap.size w5 W' := hW'
         have h7 : Below w5.heap.size w5 W' := hW'
         have hk1 := HKp.out W' h7
         have hk2 := HKv.out W' h7
         have k1 : W'.cell? ⟨w.heap.size, 1, none⟩ = some (.int .i64 o) := by rw [Lib.cell_of_heap hk1]; rfl
         have k2 : W'.cell? ⟨w.heap.size, 2, none⟩ = some (.slice (some ⟨b0, o0, none⟩) l.length c) := by rw [Lib.cell_of_heap hk1]; rfl
         have m0 : W'.cell? ⟨w4.heap.size, 0, none⟩ = some (.int .i64 ak) := by rw [Lib.cell_of_heap hk2]; rfl
         have m1 : W'.cell? ⟨w4.heap.size, 1, none⟩ = some (.int .i64 av) := by rw [Lib.cell_of_heap hk2]; rfl
         have m2 : W'.cell? ⟨w4.heap.size, 2, none⟩ = some (.string as_) := by rw [Lib.cell_of_heap hk2]; rfl
         obtain ⟨g0, g1, g2⟩ := HY.out W' (bT HBv.out h7)
         clear hk1 hk2
         go_simp
         first
           | done
           | rfl
       go_big_quiet_on
       try simp only [Act.put, List.setIfInBounds_toArray, List.set_cons_zero, List.set_cons_succ]))
  refine wpQuiet_nil ?_
  intro z1 hz1
  have D1 : Hid (Below w5.heap.size w5 z1) := hz1
  clear hz1
  go_wp2_with fail
  refine wp_region_quiet (C := fun w' => Below z1.heap.size z1 w') (by kernel_rfl) (by kernel_rfl) ((Below.refl _ _).drew) ?_
  dsimp only
  repeat (first
    | go_big_quiet_skip
    | (go_big_quiet_want
       apply Exists.intro
       refine ⟨fun W' hW' => ?_, ?_⟩
       · have hw : Below z1.heap.size z1 W' := hW'
         have h7 : Below w5.heap.size w5 W' := bT D1.out hW'
         have hk1 := HKp.out W' h7
         have hk2 := HKv.out W' h7
         have k1 : W'.cell? ⟨w.heap.size, 1, none⟩ = some (.int .i64 o) := by rw [Lib.cell_of_heap hk1]; rfl
         have k2 : W'.cell? ⟨w.heap.size, 2, none⟩ = some (.slice (some ⟨b0, o0, none⟩) l.length c) := by rw [Lib.cell_of_heap hk1]; rfl
         have m0 : W'.cell? ⟨w4.heap.size, 0, none⟩ = some (.int .i64 ak) := by rw [Lib.cell_of_heap hk2]; rfl
         have m1 : W'.cell? ⟨w4.heap.size, 1, none⟩ = some (.int .i64 av) := by rw [Lib.cell_of_heap hk2]; rfl
         have m2 : W'.cell? ⟨w4.heap.size, 2, none⟩ = some (.string as_) := by rw [Lib.cell_of_heap hk2]; rfl
         obtain ⟨g0, g1, g2⟩ := HY.out W' (bT HBv.out h7)
         clear hk1 hk2
         go_simp
         first
           | done
           | rfl
           | (go_at_call 39; (with_reducible refine Calls.mono (HCmj.out W') ?_); rintro e w'' ⟨rfl, hb⟩; exact ⟨rfl, hw.trans (hb.mono hw.size)⟩)
       go_big_quiet_on
       try simp only [Act.put, List.setIfInBounds_toArray, List.set_cons_zero, List.set_cons_succ]))
  refine wpQuiet_nil ?_
  intro z2 hz2
  have D2 : Hid (Below w5.heap.size w5 z2) := bT D1.out hz2
  clear hz2 D1 HCmj
  have hkp := HKp.out z2 D2.out
  by_cases h2 : o = 2
  · subst h2
    have c1_1 : z2.cell? ⟨w.heap.size, 1, none⟩ = some (.int .i64 2) := by rw [Lib.cell_of_heap hkp]; rfl
    obtain rfl := hM
    clear HKp HKv HY HY2 HBgj hkp
    go_wp2
    go_ret
    exact ⟨by first | rfl | simp | (simp; rfl), bT HBv.out D2.out⟩
  rw [if_neg h2] at hM
  have f2 : (o == 2) = false := by simp [h2]
  by_cases h3 : o = 3
  · subst h3
    have c1_1 : z2.cell? ⟨w.heap.size, 1, none⟩ = some (.int .i64 3) := by rw [Lib.cell_of_heap hkp]; rfl
    obtain rfl := hM
    clear HKp HKv HY HY2 HBgj hkp
    go_wp2
    go_ret
    exact ⟨by first | rfl | simp | (simp; rfl), bT HBv.out D2.out⟩
  rw [if_neg h3] at hM
  have f3 : (o == 3) = false := by simp [h3]
  by_cases h4 : o = 4
  · subst h4
    have c1_1 : z2.cell? ⟨w.heap.size, 1, none⟩ = some (.int .i64 4) := by rw [Lib.cell_of_heap hkp]; rfl
    obtain rfl := hM
    clear HKp HKv HY HY2 HBgj hkp
    go_wp2
    go_ret
    exact ⟨by first | rfl | simp | (simp; rfl), bT HBv.out D2.out⟩
  rw [if_neg h4] at hM
  have f4 : (o == 4) = false := by simp [h4]
  by_cases h5 : o = 5
  · subst h5
    have c1_1 : z2.cell? ⟨w.heap.size, 1, none⟩ = some (.int .i64 5) := by rw [Lib.cell_of_heap hkp]; rfl
    obtain rfl := hM
    clear HKp HKv HY HY2 HBgj hkp
    go_wp2
    go_ret
    exact ⟨by first | rfl | simp | (simp; rfl), bT HBv.out D2.out⟩
  rw [if_neg h5] at hM
  have f5 : (o == 5) = false := by simp [h5]
  by_cases h6 : o = 6
  · subst h6
    have c1_1 : z2.cell? ⟨w.heap.size, 1, none⟩ = some (.int .i64 6) := by rw [Lib.cell_of_heap hkp]; rfl
    obtain rfl := hM
    clear HKp HKv HY HY2 HBgj hkp
    go_wp2
    go_ret
    exact ⟨by first | rfl | simp | (simp; rfl), bT HBv.out D2.out⟩
  rw [if_neg h6] at hM
  have f6 : (o == 6) = false := by simp [h6]
  by_cases h7 : o = 7
  · subst h7
    have c1_1 : z2.cell? ⟨w.heap.size, 1, none⟩ = some (.int .i64 7) := by rw [Lib.cell_of_heap hkp]; rfl
    obtain rfl := hM
    clear HKp HKv HY HY2 HBgj hkp
    go_wp2
    go_ret
    exact ⟨by first | rfl | simp | (simp; rfl), bT HBv.out D2.out⟩
  rw [if_neg h7] at hM
  have f7 : (o == 7) = false := by simp [h7]
  by_cases h8 : o = 8
  · subst h8
    have c1_1 : z2.cell? ⟨w.heap.size, 1, none⟩ = some (.int .i64 8) := by rw [Lib.cell_of_heap hkp]; rfl
    rw [if_pos rfl] at hM
    obtain rfl := hM
    clear hkp
    go_wp2_with fail
    clear c1_1
    refine wp_region_quiet (C := fun w' => Below z2.heap.size z2 w') (by kernel_rfl) (by kernel_rfl) ((Below.refl _ _).drew) ?_
    dsimp only
    repeat (first
      | go_big_quiet_skip
      | (go_big_quiet_want
         apply Exists.intro
         refine ⟨fun W' hW' => ?_, ?_⟩
         · have hw : Below z2.heap.size z2 W' := hW'
           have h7 : Below w5.heap.size w5 W' := bT D2.out hW'
           have hk1 := HKp.out W' h7
           have hk2 := HKv.out W' h7
           have k1 : W'.cell? ⟨w.heap.size, 1, none⟩ = some (.int .i64 8) := by rw [Lib.cell_of_heap hk1]; rfl
           have k2 : W'.cell? ⟨w.heap.size, 2, none⟩ = some (.slice (some ⟨b0, o0, none⟩) l.length c) := by rw [Lib.cell_of_heap hk1]; rfl
           have m0 : W'.cell? ⟨w4.heap.size, 0, none⟩ = some (.int .i64 ak) := by rw [Lib.cell_of_heap hk2]; rfl
           have m1 : W'.cell? ⟨w4.heap.size, 1, none⟩ = some (.int .i64 av) := by rw [Lib.cell_of_heap hk2]; rfl
           have m2 : W'.cell? ⟨w4.heap.size, 2, none⟩ = some (.string as_) := by rw [Lib.cell_of_heap hk2]; rfl
           obtain ⟨g0, g1, g2⟩ := HY.out W' (bT HBv.out h7)
           clear hk1 hk2
           go_simp
           first
             | done
             | rfl
             | (go_at_call 40; (with_reducible refine Calls.mono (HBgj.out W') ?_); rintro e w'' ⟨rfl, rfl⟩; exact ⟨rfl, hw⟩)
         go_big_quiet_on
         try simp only [Act.put, List.setIfInBounds_toArray, List.set_cons_zero, List.set_cons_succ]))
    refine wpQuiet_nil ?_
    intro z3 hz3
    have D3 : Hid (Below w5.heap.size w5 z3) := bT D2.out hz3
    clear hz3
    go_wp2
    go_ret
    exact ⟨by first | rfl | simp, bT HBv.out D3.out⟩
  rw [if_neg h8] at hM
  have f8 : (o == 8) = false := by simp [h8]
  have c1_1 : z2.cell? ⟨w.heap.size, 1, none⟩ = some (.int .i64 o) := by rw [Lib.cell_of_heap hkp]; rfl
  have HIn : Hid (∀ k (h : k < l.length), l[k] = ⟨ak, av, as_⟩ → Z = true) := fun k h e => by rw [← hM]; exact inV_iff.2 ⟨k, h, e⟩
  have HOut : Hid ((∀ k (h : k < l.length), ¬ l[k] = ⟨ak, av, as_⟩) → Z = false) := fun h => by
    rw [← hM]
    cases hi : inV l ⟨ak, av, as_⟩ with
    | false => rfl
    | true =>
      obtain ⟨k, hk, e⟩ := inV_iff.1 hi
      exact absurd e (h k hk)
  clear hkp hM HBgj HY
  have hl := HL.out
  go_wp2_with fail
  clear c1_1 h1 h2 h3 h4 h5 h6 h7 h8 e1' f2 f3 f4 f5 f6 f7 f8
  go_loopw [8] (fun i wr => ∃ j : Nat, j ≤ l.length ∧ i = .int .i64 (j : Int) ∧ Hid (∀ k (h : k < l.length), k < j → ¬ l[k] = ⟨ak, av, as_⟩) ∧ Hid (Below w5.heap.size w5 wr)) (fun i _ => l.length - (intOf i).toNat)
  case atStart => exact ⟨0, by omega, rfl, (fun k h hj => absurd hj (Nat.not_lt_zero _)), D2.out⟩
  case round =>
    obtain ⟨j, hj, rfl, HO, HB⟩ := hrel
    have hkp := HKp.out wr HB.out
    have c1_2 : wr.cell? ⟨w.heap.size, 2, none⟩ = some (.slice (some ⟨b0, o0, none⟩) l.length c) := by rw [Lib.cell_of_heap hkp]; rfl
    clear hkp
    by_cases hlk : j < l.length
    · have dj : decide ((j : Int) < (l.length : Int)) = true := by simp; omega
      have q3 : (0 : Int) ≤ (j : Int) := by omega
      have q4 : (j : Int) < (l.length : Int) := by omega
      have HYj : Hid (∀ W, Below w.heap.size w W → W.cell? ⟨b0, o0 + j * 3, none⟩ = some (.int .i64 l[j].k) ∧ W.cell? ⟨b0, o0 + j * 3 + 1, none⟩ = some (.int .i64 l[j].n) ∧ W.cell? ⟨b0, o0 + j * 3 + 2, none⟩ = some (.string l[j].s)) := fun W h => HY2.out W h j hlk
      have HZt : Hid (l[j] = ⟨ak, av, as_⟩ → Z = true) := fun h => HIn.out j hlk h
      have HOn : Hid (¬ l[j] = ⟨ak, av, as_⟩ → ∀ k (h : k < l.length), k < j + 1 → ¬ l[k] = ⟨ak, av, as_⟩) := fun hs k h hk => by
        by_cases e : k = j
        · subst e; exact hs
        · exact HO.out k h (by omega)
      clear HO HIn HOut HY2
      generalize l[j]'hlk = y at *
      obtain ⟨yk, yn, ys⟩ := y
      dsimp only at HYj
      by_cases hq2 : (⟨yk, yn, ys⟩ : It) = ⟨ak, av, as_⟩
      · have HZ : Hid (Z = true) := HZt.out hq2
        simp only [It.mk.injEq] at hq2
        obtain ⟨rfl, rfl, rfl⟩ := hq2
        clear HZt HOn
        go_wp2_with fail
        clear c1_2
        refine wp_region_quiet (C := fun w' => Below wr.heap.size wr w') (by kernel_rfl) (by kernel_rfl) ((Below.refl _ _).drew) ?_
        dsimp only
        repeat (first
          | go_big_quiet_skip
          | (go_big_quiet_want
             apply Exists.intro
             refine ⟨fun W' hW' => ?_, ?_⟩
             · have hw : Below wr.heap.size wr W' := hW'
               have h7 : Below w5.heap.size w5 W' := bT HB.out hW'
               have hk1 := HKp.out W' h7
               have hk2 := HKv.out W' h7
               have k2 : W'.cell? ⟨w.heap.size, 2, none⟩ = some (.slice (some ⟨b0, o0, none⟩) l.length c) := by rw [Lib.cell_of_heap hk1]; rfl
               have m0 : W'.cell? ⟨w4.heap.size, 0, none⟩ = some (.int .i64 yk) := by rw [Lib.cell_of_heap hk2]; rfl
               have m1 : W'.cell? ⟨w4.heap.size, 1, none⟩ = some (.int .i64 yn) := by rw [Lib.cell_of_heap hk2]; rfl
               have m2 : W'.cell? ⟨w4.heap.size, 2, none⟩ = some (.string ys) := by rw [Lib.cell_of_heap hk2]; rfl
               obtain ⟨g0, g1, g2⟩ := HYj.out W' (bT HBv.out h7)
               clear hk1 hk2
               go_simp
               first
                 | done
                 | rfl
             go_big_quiet_on
             try simp only [Act.put, List.setIfInBounds_toArray, List.set_cons_zero, List.set_cons_succ]))
        refine wpQuiet_nil ?_
        intro z3 hz3
        have D3 : Hid (Below w5.heap.size w5 z3) := bT HB.out hz3
        clear hz3
        go_wp2
        go_ret
        exact ⟨by rw [HZ.out]; rfl, bT HBv.out D3.out⟩
      · have HO3 := HOn.out hq2
        have HO4 : Hid (∀ k (h : k < l.length), k < j + 1 → ¬ l[k] = ⟨ak, av, as_⟩) := HO3
        have hne : ¬ (yk = ak ∧ yn = av ∧ ys.toList = as_.toList) := fun h => by
          obtain ⟨rfl, rfl, h4⟩ := h
          rw [ByteArray.toList_eq, ByteArray.toList_eq] at h4
          exact hq2 (by rw [ba_f h4])
        have HE : Hid (∀ W : World, (if yk = ak then if yn = av then if ys.toList = as_.toList then Result.ok (Next.value (Value.bool true)) W else Result.ok (Next.value (Value.bool false)) W else Result.ok (Next.value (Value.bool false)) W else Result.ok (Next.value (Value.bool false)) W) = Result.ok (Next.value (Value.bool false)) W) := fun W => by
          by_cases h1 : yk = ak
          · by_cases h2 : yn = av
            · by_cases h4 : ys.toList = as_.toList
              · exact absurd ⟨h1, h2, h4⟩ hne
              · simp [h1, h2, h4]
            · simp [h1, h2]
          · simp [h1]
        clear HO3 HZt HOn hne hq2
        go_wp2_with fail
        clear c1_2
        refine wp_region_quiet (C := fun w' => Below wr.heap.size wr w') (by kernel_rfl) (by kernel_rfl) ((Below.refl _ _).drew) ?_
        dsimp only
        repeat (first
          | go_big_quiet_skip
          | (go_big_quiet_want
             apply Exists.intro
             refine ⟨fun W' hW' => ?_, ?_⟩
             · have hw : Below wr.heap.size wr W' := hW'
               have h7 : Below w5.heap.size w5 W' := bT HB.out hW'
               have hk1 := HKp.out W' h7
               have hk2 := HKv.out W' h7
               have k2 : W'.cell? ⟨w.heap.size, 2, none⟩ = some (.slice (some ⟨b0, o0, none⟩) l.length c) := by rw [Lib.cell_of_heap hk1]; rfl
               have m0 : W'.cell? ⟨w4.heap.size, 0, none⟩ = some (.int .i64 ak) := by rw [Lib.cell_of_heap hk2]; rfl
               have m1 : W'.cell? ⟨w4.heap.size, 1, none⟩ = some (.int .i64 av) := by rw [Lib.cell_of_heap hk2]; rfl
               have m2 : W'.cell? ⟨w4.heap.size, 2, none⟩ = some (.string as_) := by rw [Lib.cell_of_heap hk2]; rfl
               obtain ⟨g0, g1, g2⟩ := HYj.out W' (bT HBv.out h7)
               clear hk1 hk2
               go_simp
               first
                 | done
                 | rfl
                 | (rw [HE.out W']; exact ⟨rfl, rfl⟩)
             go_big_quiet_on
             try simp only [Act.put, List.setIfInBounds_toArray, List.set_cons_zero, List.set_cons_succ]))
        refine wpQuiet_nil ?_
        intro z3 hz3
        have D3 : Hid (Below w5.heap.size w5 z3) := bT HB.out hz3
        clear hz3
        go_wp2
        go_roundw
        case rel => exact ⟨j + 1, by omega, by simp, HO4.out, D3.out⟩
        case measure => simp [intOf]; omega
    · have hnl := hlk
      have dj : decide ((j : Int) < (l.length : Int)) = false := by simp; omega
      have HZ : Hid (Z = false) := HOut.out fun k h => HO.out k h (by omega)
      clear HO HIn HOut HY2
      go_wp2
      go_ret
      exact ⟨by rw [HZ.out]; rfl, bT HBv.out HB.out⟩
end Go.Proofs.YtbekpemidpngaaaGreatDoor
/- The reference's Lets, filter.Holds: walks. -/
namespace Go.Proofs.YtbekpemidpngaaaGreatDoor
open Go.RowKit Go.ChangeMaps

set_option maxRecDepth 100000 in
set_option maxHeartbeats 4000000 in
theorem lets8_any (v : Value) (F : List PR) (D : List Pd) (u : Value) (A : List At) (w : World) (hr : IsFl w v F) (hD : F.map (·.y) = D) (hl : F.length ≤ 1000000) (hn : ∀ y ∈ D, NmP y) (ha : IsRow w 4 u A.length (aCells A)) (hal : A.length ≤ 1000000) (hna : NmRA A) :
    Calls Tryz.prog 23 #[v, u] w fun e w' => e = .returned (.bool (letsB D A)) ∧ Below w.heap.size w w' := by
  have HC : Hid (Calls Tryz.prog 11 #[v] w fun e w' => e = .returned (.bool (chkFl D)) ∧ Below w.heap.size w w') := check8_any v F D w hr hD hl hn
  have HA : Hid (∀ W, Below w.heap.size w W → Calls Tryz.prog 37 #[u] W fun e w' => e = .returned (.bool (chkA A)) ∧ Below W.heap.size W w') := fun W hb => refAttrsA_any u A W (ha.below hb) hal hna
  obtain ⟨a0, c0, rfl⟩ := hr.1.form
  have HR : Hid (∀ W, Below w.heap.size w W → IsRow W 3 (.slice a0 F.length c0) F.length (pCells F)) := fun W hb => hr.1.below hb
  have HH : Hid (chkFl D = true → chkA A = true → ∀ i (hi : i < F.length) W, Below w.heap.size w W → Calls Tryz.prog 21 #[prV F[i], u] W fun e w' => e = .returned (.bool (holdsB F[i].y A)) ∧ Below W.heap.size W w') := fun hc hca i hi W hb => by
    have hmem : F[i].y ∈ D := by rw [← hD]; exact List.mem_map.2 ⟨F[i], List.getElem_mem hi, rfl⟩
    have h0 := holds8_any F[i] u A W ((hr.2 _ (List.getElem_mem hi)).below hb) (hn _ hmem) (ha.below hb) hal hna
    rw [chk_may hc _ hmem, hca, Bool.true_and, Bool.true_and] at h0
    exact h0
  have HNo : Hid (∀ i (hi : i < F.length), holdsB F[i].y A = false → (D.all fun y => holdsB y A) = false) := fun i hi h => lets_no hD hi h
  have HYes : Hid ((∀ i (hi : i < F.length), holdsB F[i].y A = true) → (D.all fun y => holdsB y A) = true) := fun h => lets_yes hD h
  have hEq : letsB D A = (chkFl D && (chkA A && D.all fun y => holdsB y A)) := rfl
  rw [hEq]
  generalize (D.all fun y => holdsB y A) = Z at *
  generalize chkFl D = X1 at *
  generalize chkA A = X2 at *
  clear hr hD hn ha hna hEq
  go_enter Tryz.func23, Tryz.ntmps23
  go_wp2_with fail
  refine HC.out.mono ?_
  rintro e w1 ⟨rfl, hb⟩
  have B1 : Hid (Below w.heap.size w w1) := hb
  clear hb HC
  cases X1 with
  | false =>
    go_wp2
    go_ret
    exact ⟨rfl, B1.out⟩
  | true =>
    go_wp2_with fail
    refine (HA.out w1 B1.out).mono ?_
    rintro e w2 ⟨rfl, hb⟩
    have B2 : Hid (Below w.heap.size w w2) := B1.out.trans (hb.mono B1.out.size)
    clear hb HA
    cases X2 with
    | false =>
      go_wp2
      go_ret
      exact ⟨rfl, B2.out⟩
    | true =>
      go_wp2_with fail
      go_loopw [5] (fun i wr => ∃ j : Nat, j ≤ F.length ∧ i = .int .i64 (j : Int) ∧ Hid (∀ k (h : k < F.length), k < j → holdsB F[k].y A = true) ∧ Hid (Below w.heap.size w wr)) (fun i _ => F.length - (intOf i).toNat)
      case atStart => exact ⟨0, by omega, rfl, (fun k h hj => absurd hj (Nat.not_lt_zero _)), B2.out⟩
      case round =>
        obtain ⟨j, hj, rfl, HO, HB⟩ := hrel
        by_cases hlk : j < F.length
        · have dj : decide ((j : Int) < (F.length : Int)) = true := by simp; omega
          obtain ⟨b0, o0, rfl, hlt, c0', c1, c2⟩ := p_at (HR.out wr HB.out) j hlk
          have q1 : (0 : Int) ≤ (j : Int) := by omega
          have q2 : (j : Int) < (F.length : Int) := by omega
          have HMj : Hid (∀ W, Below w.heap.size w W → Calls Tryz.prog 21 #[prV F[j], u] W fun e w' => e = .returned (.bool (holdsB F[j].y A)) ∧ Below W.heap.size W w') := fun W hb => HH.out (by trivial) (by trivial) j hlk W hb
          have HOn : Hid (holdsB F[j].y A = true → ∀ k (h : k < F.length), k < j + 1 → holdsB F[k].y A = true) := fun hs k h hk => by
            by_cases e : k = j
            · subst e; exact hs
            · exact HO.out k h (by omega)
          have HNj : Hid (holdsB F[j].y A = false → Z = false) := fun h => HNo.out j hlk h
          clear HO HH HNo HYes
          generalize holdsB F[j].y A = B at *
          generalize F[j]'hlk = x at *
          obtain ⟨⟨n, o, l⟩, a, c⟩ := x
          dsimp only [prV, PR.v] at *
          go_wp2_with fail
          refine (HMj.out _ HB.out).mono ?_
          rintro e w3 ⟨rfl, hb⟩
          have HB3 : Hid (Below w.heap.size w w3) := HB.out.trans (hb.mono HB.out.size)
          clear hb HMj
          cases B with
          | false =>
            have HZ : Hid (Z = false) := HNj.out rfl
            go_wp2
            go_ret
            exact ⟨by rw [HZ.out]; rfl, HB3.out⟩
          | true =>
            have HO3 : Hid (∀ k (h : k < F.length), k < j + 1 → holdsB F[k].y A = true) := HOn.out rfl
            go_wp2
            go_roundw
            case rel => exact ⟨j + 1, by omega, by simp, HO3.out, HB3.out⟩
            case measure => simp [intOf]; omega
        · have dj : decide ((j : Int) < (F.length : Int)) = false := by simp; omega
          have HZ : Hid (Z = true) := HYes.out fun i hi => HO.out i hi (by omega)
          clear HO HH HNo HYes HR
          go_wp2
          go_ret
          exact ⟨by rw [HZ.out]; rfl, HB.out⟩
set_option maxRecDepth 100000 in
set_option maxHeartbeats 4000000 in
theorem holdsX_any (x : PR) (u : Value) (A : List At) (w : World) (hr : IsRow w 3 x.v x.y.l.length (itCells x.y.l)) (hn : NmP x.y) (ha : IsRow w 4 u A.length (aCells A)) (hal : A.length ≤ 1000000) (hna : NmA A) (hT : UT w) (hML : ML w) :
    Calls Tryz.prog 20 #[prV x, u] w fun e w' => e = .returned (.bool (mayP x.y && (chkA A && holdsB x.y A))) ∧ Below w.heap.size w w' := by
  have HMy : Hid (∀ W, Below w.heap.size w W → Calls Tryz.prog 28 #[prV x] W fun e w' => e = .returned (.bool (mayP x.y)) ∧ Below W.heap.size W w') := fun W hb => mayBeP_any x W (hr.below hb) hn (Utf8Tabs_below hT hb)
  have HAt : Hid (∀ W, Below w.heap.size w W → Calls Tryz.prog 24 #[u] W fun e w' => e = .returned (.bool (chkA A)) ∧ Below W.heap.size W w') := fun W hb => attrs_any u A W (ha.below hb) hal hna (Utf8Tabs_below hT hb) (ML_below hML hb)
  have HHo : Hid (mayP x.y = true → ∀ W, Below w.heap.size w W → Calls Tryz.prog 36 #[prV x, u] W fun e w' => e = .returned (.bool (holdsB x.y A)) ∧ Below W.heap.size W w') := fun hm W hb => holds_any x u A W (hr.below hb) hn hm (ha.below hb) hal hna (Utf8Tabs_below hT hb)
  clear hr hn ha hna hT hML
  generalize mayP x.y = P1 at *
  generalize chkA A = P2 at *
  generalize holdsB x.y A = P3 at *
  obtain ⟨⟨n, o, l⟩, a, c⟩ := x
  dsimp only [PR.v, prV] at *
  obtain ⟨w1, hw1⟩ : ∃ w1, w1 = w.alloc (.cells #[.string n, .int .i64 o, .slice a l.length c] 45) := ⟨_, rfl⟩
  have B1 : Hid (Below w.heap.size w w1) := by show Below _ _ _; rw [hw1]; exact al_b _ _
  have hn1 : w1.heap[w.heap.size]? = some (.cells #[.string n, .int .i64 o, .slice a l.length c] 45 (0, 0)) := by rw [hw1]; exact new_at _ _
  have C1 : Hid (∀ W, Below w1.heap.size w1 W → W.heap[w.heap.size]? = some (.cells #[.string n, .int .i64 o, .slice a l.length c] 45 (0, 0))) := fun W h => (h.block _ (Array.getElem?_eq_some_iff.1 hn1).1).trans hn1
  clear hn1
  go_enter Tryz.func20, Tryz.ntmps20
  have hk := C1.out w1 (Below.refl _ _)
  have c1_0 : w1.cell? ⟨w.heap.size, 0, none⟩ = some (.string n) := by rw [Lib.cell_of_heap hk]; rfl
  have c1_1 : w1.cell? ⟨w.heap.size, 1, none⟩ = some (.int .i64 o) := by rw [Lib.cell_of_heap hk]; rfl
  have c1_2 : w1.cell? ⟨w.heap.size, 2, none⟩ = some (.slice a l.length c) := by rw [Lib.cell_of_heap hk]; rfl
  clear hk
  rw [hw1] at c1_0 c1_1 c1_2
  go_wp2_with fail
  rw [← hw1]
  clear hw1 c1_0 c1_1 c1_2
  refine (HMy.out _ B1.out).mono ?_
  rintro e w2 ⟨rfl, hb⟩
  have B2 : Hid (Below w1.heap.size w1 w2) := hb
  clear hb HMy
  cases P1 with
  | false =>
    go_wp2
    go_ret
    exact ⟨rfl, (bT B1.out B2.out)⟩
  | true =>
  go_wp2_with fail
  refine (HAt.out _ (bT B1.out B2.out)).mono ?_
  rintro e w3 ⟨rfl, hb⟩
  have B3 : Hid (Below w2.heap.size w2 w3) := hb
  clear hb HAt
  cases P2 with
  | false =>
    go_wp2
    go_ret
    exact ⟨rfl, (bT (bT B1.out B2.out) B3.out)⟩
  | true =>
  have hk := C1.out w3 (bT B2.out B3.out)
  have c1_0 : w3.cell? ⟨w.heap.size, 0, none⟩ = some (.string n) := by rw [Lib.cell_of_heap hk]; rfl
  have c1_1 : w3.cell? ⟨w.heap.size, 1, none⟩ = some (.int .i64 o) := by rw [Lib.cell_of_heap hk]; rfl
  have c1_2 : w3.cell? ⟨w.heap.size, 2, none⟩ = some (.slice a l.length c) := by rw [Lib.cell_of_heap hk]; rfl
  clear hk
  go_wp2_with fail
  clear c1_0 c1_1 c1_2
  refine (HHo.out (by trivial) _ (bT (bT B1.out B2.out) B3.out)).mono ?_
  rintro e w4 ⟨rfl, hb⟩
  have B4 : Hid (Below w3.heap.size w3 w4) := hb
  clear hb HHo
  go_wp2
  go_ret
  exact ⟨rfl, (bT (bT (bT B1.out B2.out) B3.out) B4.out)⟩
end Go.Proofs.YtbekpemidpngaaaGreatDoor
