/- Whether two events are alike: walks. -/
import Derived.Test.YtacpllmlpmllbaaGreatDoorZk19
import Derived.Test.YtacpllmlpmllbaaGreatDoorZk3
import Derived.Test.YtacpllmlpmllbaaGreatDoorZk7
import Derived.Deep.AppendLies
namespace Go.Proofs.YtacpllmlpmllbaaGreatDoor
open Go.RowKit Go.ChangeMaps

def vlE (x y : At) : Bool := decide (x.k = y.k) && (decide (x.v = y.v) && decide (x.s = y.s))
def alkA1 (x y : At) : Bool := vlE x y && sameL x.n.data.toList y.n.data.toList
/-- Are attributes alike? -/
def alkA (a b : List At) : Bool := decide (a.length = b.length) && decide (∀ (k : Nat) (h : k < a.length) (h2 : k < b.length), alkA1 a[k] b[k] = true)
theorem alkA_no {a b : List At} {k : Nat} (h : k < a.length) (h2 : k < b.length) (e : alkA1 a[k] b[k] = false) : alkA a b = false := by
  unfold alkA
  rw [Bool.and_eq_false_iff]
  right
  rw [decide_eq_false_iff_not]
  intro hh
  rw [hh k h h2] at e
  cases e
def alkE (k : ByteArray) (l : List At) (k' : ByteArray) (l' : List At) : Bool := sameL k.data.toList k'.data.toList && alkA l l'
set_option maxRecDepth 100000 in
set_option maxHeartbeats 4000000 in
theorem attrsAlike_any (x y : At) (w : World) (hx : x.n.size ≤ 1000000) (hy : y.n.size ≤ 1000000) (hT : UT w) :
    Calls Tryz.prog 50 #[aV x, aV y] w fun e w' => e = .returned (.bool (alkA1 x y)) ∧ Below w.heap.size w w' := by
  obtain ⟨xn, xk, xv, xs⟩ := x
  obtain ⟨yn, yk, yv, ys⟩ := y
  dsimp only at hx hy
  have HSm : Hid (∀ W, Below w.heap.size w W → Calls Tryz.prog 48 #[.string xn, .string yn] W fun e w' => e = .returned (.bool (sameL xn.data.toList yn.data.toList)) ∧ Below W.heap.size W w') := fun W h => same_any xn yn W hx hy (Utf8Tabs_below hT h)
  obtain ⟨S, HSd⟩ : ∃ S, Hid (alkA1 ⟨xn, xk, xv, xs⟩ ⟨yn, yk, yv, ys⟩ = S) := ⟨_, rfl⟩
  rw [HSd.out]
  obtain ⟨E, HE⟩ : ∃ E, Hid (sameL xn.data.toList yn.data.toList = E) := ⟨_, rfl⟩
  rw [HE.out] at HSm
  clear hx hy hT
  obtain ⟨w1, hw1⟩ : ∃ w1, w1 = w.alloc (.cells #[.string xn, .int .i64 xk, .int .i64 xv, .string xs] 78) := ⟨_, rfl⟩
  have B1 : Hid (Below w.heap.size w w1) := by show Below _ _ _; rw [hw1]; exact al_b _ _
  have hn1 : w1.heap[w.heap.size]? = some (.cells #[.string xn, .int .i64 xk, .int .i64 xv, .string xs] 78 (0, 0)) := by rw [hw1]; exact new_at _ _
  have C1 : Hid (∀ W, Below w1.heap.size w1 W → W.heap[w.heap.size]? = some (.cells #[.string xn, .int .i64 xk, .int .i64 xv, .string xs] 78 (0, 0))) := fun W h => (h.block _ (Array.getElem?_eq_some_iff.1 hn1).1).trans hn1
  clear hn1
  obtain ⟨w2, hw2⟩ : ∃ w2, w2 = w1.alloc (.cells #[.string yn, .int .i64 yk, .int .i64 yv, .string ys] 78) := ⟨_, rfl⟩
  have B2 : Hid (Below w1.heap.size w1 w2) := by show Below _ _ _; rw [hw2]; exact al_b _ _
  have hn2 : w2.heap[(w.heap.size + 1)]? = some (.cells #[.string yn, .int .i64 yk, .int .i64 yv, .string ys] 78 (0, 0)) := by rw [hw2]; rw [show w.heap.size + 1 = w1.heap.size by (rw [hw1]; simp)]; exact new_at _ _
  have C2 : Hid (∀ W, Below w2.heap.size w2 W → W.heap[(w.heap.size + 1)]? = some (.cells #[.string yn, .int .i64 yk, .int .i64 yv, .string ys] 78 (0, 0))) := fun W h => (h.block _ (Array.getElem?_eq_some_iff.1 hn2).1).trans hn2
  clear hn2
  by_cases h1 : xk = yk
  rotate_left
  · have HS0 : Hid (S = false) := by show _ = _; rw [← HSd.out]; unfold alkA1 vlE; simp [h1]
    have HBz : Hid (Below w.heap.size w ((w.alloc (.cells #[.string xn, .int .i64 xk, .int .i64 xv, .string xs] 78)).alloc (.cells #[.string yn, .int .i64 yk, .int .i64 yv, .string ys] 78))) := by show Below _ _ _; rw [← hw1, ← hw2]; exact (bT B1.out B2.out)
    clear HSm hw1 hw2
    go_enter Tryz.func50, Tryz.ntmps50
    go_wp2
    go_ret
    exact ⟨by rw [HS0.out]; rfl, HBz.out⟩
  subst h1
  by_cases h2 : xv = yv
  rotate_left
  · have HS0 : Hid (S = false) := by show _ = _; rw [← HSd.out]; unfold alkA1 vlE; simp [h2]
    have HBz : Hid (Below w.heap.size w ((w.alloc (.cells #[.string xn, .int .i64 xk, .int .i64 xv, .string xs] 78)).alloc (.cells #[.string yn, .int .i64 xk, .int .i64 yv, .string ys] 78))) := by show Below _ _ _; rw [← hw1, ← hw2]; exact (bT B1.out B2.out)
    clear HSm hw1 hw2
    go_enter Tryz.func50, Tryz.ntmps50
    go_wp2
    go_ret
    exact ⟨by rw [HS0.out]; rfl, HBz.out⟩
  subst h2
  by_cases h3 : xs = ys
  rotate_left
  · have HS0 : Hid (S = false) := by show _ = _; rw [← HSd.out]; unfold alkA1 vlE; simp [h3]
    have e4 : (xs.toList == ys.toList) = false := by rw [beq_eq_false_iff_ne, ByteArray.toList_eq, ByteArray.toList_eq]; exact fun h => h3 (ba_eq h)
    have e4' : ¬ xs.toList = ys.toList := by simpa using e4
    have HBz : Hid (Below w.heap.size w ((w.alloc (.cells #[.string xn, .int .i64 xk, .int .i64 xv, .string xs] 78)).alloc (.cells #[.string yn, .int .i64 xk, .int .i64 xv, .string ys] 78))) := by show Below _ _ _; rw [← hw1, ← hw2]; exact (bT B1.out B2.out)
    clear HSm hw1 hw2
    go_enter Tryz.func50, Tryz.ntmps50
    go_wp2
    go_ret
    exact ⟨by rw [HS0.out]; rfl, HBz.out⟩
  subst h3
  have HS0 : Hid (S = E) := by show _ = _; rw [← HSd.out]; unfold alkA1 vlE; simp [HE.out]
  have e1 : (xs.toList == xs.toList) = true := by simp
  have hk := C1.out w2 B2.out
  have c1_0 : w2.cell? ⟨w.heap.size, 0, none⟩ = some (.string xn) := by rw [Lib.cell_of_heap hk]; rfl
  have c1_1 : w2.cell? ⟨w.heap.size, 1, none⟩ = some (.int .i64 xk) := by rw [Lib.cell_of_heap hk]; rfl
  have c1_2 : w2.cell? ⟨w.heap.size, 2, none⟩ = some (.int .i64 xv) := by rw [Lib.cell_of_heap hk]; rfl
  have c1_3 : w2.cell? ⟨w.heap.size, 3, none⟩ = some (.string xs) := by rw [Lib.cell_of_heap hk]; rfl
  clear hk
  have hk := C2.out w2 (Below.refl _ _)
  have c2_0 : w2.cell? ⟨(w.heap.size + 1), 0, none⟩ = some (.string yn) := by rw [Lib.cell_of_heap hk]; rfl
  have c2_1 : w2.cell? ⟨(w.heap.size + 1), 1, none⟩ = some (.int .i64 xk) := by rw [Lib.cell_of_heap hk]; rfl
  have c2_2 : w2.cell? ⟨(w.heap.size + 1), 2, none⟩ = some (.int .i64 xv) := by rw [Lib.cell_of_heap hk]; rfl
  have c2_3 : w2.cell? ⟨(w.heap.size + 1), 3, none⟩ = some (.string xs) := by rw [Lib.cell_of_heap hk]; rfl
  clear hk
  go_enter Tryz.func50, Tryz.ntmps50
  go_wp2_with fail
  rw [← hw1, ← hw2]
  clear hw1 hw2
  go_wp2_with fail
  clear c1_0 c1_1 c1_2 c1_3 c2_0 c2_1 c2_2 c2_3
  refine (HSm.out _ (bT B1.out B2.out)).mono ?_
  rintro e w3 ⟨rfl, hb⟩
  have B3 : Hid (Below w2.heap.size w2 w3) := hb
  clear hb 
  have HBz : Hid (Below w.heap.size w w3) := (bT (bT B1.out B2.out) B3.out)
  go_wp2
  go_ret
  exact ⟨by rw [HS0.out]; rfl, HBz.out⟩
set_option maxRecDepth 100000 in
set_option maxHeartbeats 4000000 in
theorem eqlF_any (u v : Value) (l m : List At) (w : World) (hu : IsRow w 4 u l.length (aCells l)) (hv : IsRow w 4 v m.length (aCells m)) (hl : l.length ≤ 1000000) (hm : m.length ≤ 1000000) (hn : NmA l) (hn' : NmA m) (hT : UT w) :
    Calls Tryz.prog 49 #[u, v, .func (.func 50) #[] #[]] w fun e w' => e = .returned (.bool (alkA l m)) ∧ Below w.heap.size w w' := by
  obtain ⟨a0, c0, rfl⟩ := hu.form
  obtain ⟨a1, c1, rfl⟩ := hv.form
  by_cases hlm : l.length = m.length
  rotate_left
  · have e0 : alkA l m = false := by unfold alkA; rw [decide_eq_false hlm, Bool.false_and]
    have d0 : ((l.length : Int) != (m.length : Int)) = true := by simp; omega
    have d1 : (l.length != m.length) = true := by simpa using hlm
    rw [e0]
    clear hu hv e0
    go_enter Tryz.func49, Tryz.ntmps49
    go_wp2
    go_ret
    exact ⟨rfl, Below.refl _ _⟩
  have HU : Hid (IsRow w 4 (.slice a0 l.length c0) l.length (aCells l)) := hu
  have HV : Hid (IsRow w 4 (.slice a1 m.length c1) m.length (aCells m)) := hv
  have d0 : ((l.length : Int) != (m.length : Int)) = false := by simp; omega
  have d1 : (l.length != m.length) = false := by simpa using hlm
  have HL : Hid (l.length = m.length) := hlm
  have HA : Hid (∀ (j : Nat) (h : j < l.length) (h2 : j < m.length) W, Below w.heap.size w W → Calls Tryz.prog 50 #[aV l[j], aV m[j]] W fun e w' => e = .returned (.bool (alkA1 l[j] m[j])) ∧ Below W.heap.size W w') := fun j h h2 W hb => attrsAlike_any _ _ W (hn _ (List.getElem_mem h)).1 (hn' _ (List.getElem_mem h2)).1 (Utf8Tabs_below hT hb)
  clear hu hv hlm hn hn' hT
  obtain ⟨S, HSd⟩ : ∃ S, Hid (alkA l m = S) := ⟨_, rfl⟩
  rw [HSd.out]
  go_enter Tryz.func49, Tryz.ntmps49
  go_wp2_with fail
  go_loopw [6, 7, 8, 9, 17] (fun r _ _ _ i wr => r = .bool false ∧ ∃ j : Nat, j ≤ l.length ∧ i = .int .i64 (j : Int) ∧ Hid (∀ (k : Nat) (h : k < l.length) (h2 : k < m.length), k < j → alkA1 l[k] m[k] = true) ∧ Hid (Below w.heap.size w wr)) (fun _ _ _ _ i _ => l.length - (intOf i).toNat)
  case atStart => exact ⟨rfl, 0, by omega, rfl, (fun k h h2 hj => absurd hj (Nat.not_lt_zero _)), Below.refl _ _⟩
  case round =>
    obtain ⟨rfl, j, hj, rfl, HO, HB⟩ := hrel
    by_cases hlk : j < l.length
    · have dj : decide ((j : Int) < (l.length : Int)) = true := by simp; omega
      have hlk2 : j < m.length := by have := HL.out; omega
      obtain ⟨b0, o0, rfl, hlt0, hcap0, hc0⟩ := a_at (HU.out.below HB.out) (by omega)
      obtain ⟨b1, o1, rfl, hlt1, hcap1, hc1⟩ := a_at (HV.out.below HB.out) (by omega)
      obtain ⟨y0, y1, y2, y3⟩ := hc0 j hlk
      have HZ : Hid (∀ W, Below wr.heap.size wr W → W.cell? ⟨b1, o1 + j * 4, none⟩ = some (.string m[j].n) ∧ W.cell? ⟨b1, o1 + j * 4 + 1, none⟩ = some (.int .i64 m[j].k) ∧ W.cell? ⟨b1, o1 + j * 4 + 2, none⟩ = some (.int .i64 m[j].v) ∧ W.cell? ⟨b1, o1 + j * 4 + 3, none⟩ = some (.string m[j].s)) := fun W h => by
        obtain ⟨q0, q1, q2, q3⟩ := hc1 j hlk2
        exact ⟨(h.cell (p := ⟨b1, _, none⟩) hlt1).trans q0, (h.cell (p := ⟨b1, _, none⟩) hlt1).trans q1, (h.cell (p := ⟨b1, _, none⟩) hlt1).trans q2, (h.cell (p := ⟨b1, _, none⟩) hlt1).trans q3⟩
      have q1 : (0 : Int) ≤ (j : Int) := by omega
      have q2 : (j : Int) < (l.length : Int) := by omega
      have q3 : (j : Int) < (m.length : Int) := by omega
      have HO2 : Hid (alkA1 l[j] m[j] = true → ∀ (k : Nat) (h : k < l.length) (h2 : k < m.length), k < j + 1 → alkA1 l[k] m[k] = true) := fun hs k h h2 hk => by
        by_cases e : k = j
        · subst e; exact hs
        · exact HO.out k h h2 (by omega)
      have HN : Hid (alkA1 l[j] m[j] = false → S = false) := fun h => HSd.out.symm.trans (alkA_no hlk hlk2 h)
      have HAj := HA.out j hlk hlk2
      generalize l[j]'hlk = x at *
      generalize m[j]'hlk2 = y at *
      obtain ⟨xn, xk, xv, xs⟩ := x
      obtain ⟨yn, yk, yv, ys⟩ := y
      dsimp only at *
      clear hc0 hc1 HO HA
      obtain ⟨w1, hw1⟩ : ∃ w1, w1 = wr.alloc (.cells #[.string xn, .int .i64 xk, .int .i64 xv, .string xs] 78) := ⟨_, rfl⟩
      have B1 : Hid (Below wr.heap.size wr w1) := by show Below _ _ _; rw [hw1]; exact al_b _ _
      have hn1 : w1.heap[wr.heap.size]? = some (.cells #[.string xn, .int .i64 xk, .int .i64 xv, .string xs] 78 (0, 0)) := by rw [hw1]; exact new_at _ _
      have C1 : Hid (∀ W, Below w1.heap.size w1 W → W.heap[wr.heap.size]? = some (.cells #[.string xn, .int .i64 xk, .int .i64 xv, .string xs] 78 (0, 0))) := fun W h => (h.block _ (Array.getElem?_eq_some_iff.1 hn1).1).trans hn1
      clear hn1
      obtain ⟨z0, z1, z2, z3⟩ := HZ.out w1 B1.out
      rw [hw1] at z0 z1 z2 z3
      obtain ⟨w2, hw2⟩ : ∃ w2, w2 = w1.alloc (.cells #[.string yn, .int .i64 yk, .int .i64 yv, .string ys] 78) := ⟨_, rfl⟩
      have B2 : Hid (Below w1.heap.size w1 w2) := by show Below _ _ _; rw [hw2]; exact al_b _ _
      have hn2 : w2.heap[(wr.heap.size + 1)]? = some (.cells #[.string yn, .int .i64 yk, .int .i64 yv, .string ys] 78 (0, 0)) := by rw [hw2]; rw [show wr.heap.size + 1 = w1.heap.size by (rw [hw1]; simp)]; exact new_at _ _
      have C2 : Hid (∀ W, Below w2.heap.size w2 W → W.heap[(wr.heap.size + 1)]? = some (.cells #[.string yn, .int .i64 yk, .int .i64 yv, .string ys] 78 (0, 0))) := fun W h => (h.block _ (Array.getElem?_eq_some_iff.1 hn2).1).trans hn2
      clear hn2
      have HAx : Hid (Calls Tryz.prog 50 #[.agg #[.string xn, .int .i64 xk, .int .i64 xv, .string xs], .agg #[.string yn, .int .i64 yk, .int .i64 yv, .string ys]] w2 fun e w' => e = .returned (.bool (alkA1 ⟨xn, xk, xv, xs⟩ ⟨yn, yk, yv, ys⟩)) ∧ Below w2.heap.size w2 w') := HAj w2 (bT (bT HB.out B1.out) B2.out)
      clear HAj
      go_wp2_with fail
      rw [← hw1, ← hw2]
      clear hw1 hw2 y0 y1 y2 y3 z0 z1 z2 z3 HZ
      cases hq : alkA1 ⟨xn, xk, xv, xs⟩ ⟨yn, yk, yv, ys⟩
      · have HN2 : Hid (S = false) := HN.out hq
        rw [hq] at HAx
        clear hq HN HO2
        refine (HAx.out).mono ?_
        rintro e w3 ⟨rfl, hb⟩
        have B3 : Hid (Below w2.heap.size w2 w3) := hb
        clear hb 
        have HBz : Hid (Below w.heap.size w w3) := (bT (bT (bT HB.out B1.out) B2.out) B3.out)
        clear HAx
        go_wp2
        go_ret
        exact ⟨by rw [HN2.out]; rfl, HBz.out⟩
      · have HO4 : Hid (∀ (k : Nat) (h : k < l.length) (h2 : k < m.length), k < j + 1 → alkA1 l[k] m[k] = true) := HO2.out hq
        rw [hq] at HAx
        clear hq HN HO2
        refine (HAx.out).mono ?_
        rintro e w3 ⟨rfl, hb⟩
        have B3 : Hid (Below w2.heap.size w2 w3) := hb
        clear hb 
        have HBz : Hid (Below w.heap.size w w3) := (bT (bT (bT HB.out B1.out) B2.out) B3.out)
        clear HAx
        go_wp2
        go_roundw
        case rel => exact ⟨rfl, j + 1, by omega, by simp, HO4, HBz⟩
        case measure => simp [intOf]; omega
    · have dj : decide ((j : Int) < (l.length : Int)) = false := by simp; omega
      have HY : Hid (S = true) := by
        show _ = _
        rw [← HSd.out]
        unfold alkA
        rw [decide_eq_true HL.out, decide_eq_true (fun k h h2 => HO.out k h h2 (by omega))]
        rfl
      clear HO HA
      go_wp2
      go_ret
      exact ⟨by rw [HY.out]; rfl, HB.out⟩
set_option maxRecDepth 100000 in
set_option maxHeartbeats 4000000 in
theorem evAlike_any (a b c : Int) (k : ByteArray) (u : Value) (l : List At) (a' b' c' : Int) (k' : ByteArray) (u' : Value) (l' : List At) (w : World) (hu : IsRow w 4 u l.length (aCells l)) (hv : IsRow w 4 u' l'.length (aCells l')) (hl : l.length ≤ 1000000) (hl' : l'.length ≤ 1000000) (hn : NmA l) (hn' : NmA l') (hk : k.size ≤ 1000000) (hk' : k'.size ≤ 1000000) (hT : UT w) :
    Calls Tryz.prog 15 #[.agg (evA a b c k u), .agg (evA a' b' c' k' u')] w fun e w' => e = .returned (.bool (alkE k l k' l')) ∧ Below w.heap.size w w' := by
  obtain ⟨a0, c0, rfl⟩ := hu.form
  obtain ⟨a1, c1, rfl⟩ := hv.form
  have HSm : Hid (∀ W, Below w.heap.size w W → Calls Tryz.prog 48 #[.string k, .string k'] W fun e w' => e = .returned (.bool (sameL k.data.toList k'.data.toList)) ∧ Below W.heap.size W w') := fun W h => same_any k k' W hk hk' (Utf8Tabs_below hT h)
  have HEq : Hid (∀ W, Below w.heap.size w W → Calls Tryz.prog 49 #[.slice a0 l.length c0, .slice a1 l'.length c1, .func (.func 50) #[] #[]] W fun e w' => e = .returned (.bool (alkA l l')) ∧ Below W.heap.size W w') := fun W h => eqlF_any _ _ l l' W (hu.below h) (hv.below h) hl hl' hn hn' (Utf8Tabs_below hT h)
  clear hu hv hn hn' hT hk hk' hl hl'
  unfold alkE
  generalize sameL k.data.toList k'.data.toList = E at *
  generalize alkA l l' = S at *
  obtain ⟨w1, hw1⟩ : ∃ w1, w1 = w.alloc (.cells (evA a b c k (.slice a0 l.length c0)) 26) := ⟨_, rfl⟩
  have B1 : Hid (Below w.heap.size w w1) := by show Below _ _ _; rw [hw1]; exact al_b _ _
  have hn1 : w1.heap[w.heap.size]? = some (.cells (evA a b c k (.slice a0 l.length c0)) 26 (0, 0)) := by rw [hw1]; exact new_at _ _
  have C1 : Hid (∀ W, Below w1.heap.size w1 W → W.heap[w.heap.size]? = some (.cells (evA a b c k (.slice a0 l.length c0)) 26 (0, 0))) := fun W h => (h.block _ (Array.getElem?_eq_some_iff.1 hn1).1).trans hn1
  clear hn1
  obtain ⟨w2, hw2⟩ : ∃ w2, w2 = w1.alloc (.cells (evA a' b' c' k' (.slice a1 l'.length c1)) 26) := ⟨_, rfl⟩
  have B2 : Hid (Below w1.heap.size w1 w2) := by show Below _ _ _; rw [hw2]; exact al_b _ _
  have hn2 : w2.heap[(w.heap.size + 1)]? = some (.cells (evA a' b' c' k' (.slice a1 l'.length c1)) 26 (0, 0)) := by rw [hw2]; rw [show w.heap.size + 1 = w1.heap.size by (rw [hw1]; simp)]; exact new_at _ _
  have C2 : Hid (∀ W, Below w2.heap.size w2 W → W.heap[(w.heap.size + 1)]? = some (.cells (evA a' b' c' k' (.slice a1 l'.length c1)) 26 (0, 0))) := fun W h => (h.block _ (Array.getElem?_eq_some_iff.1 hn2).1).trans hn2
  clear hn2
  have hk := C1.out w2 B2.out
  have c1_3 : w2.cell? ⟨w.heap.size, 3, none⟩ = some (.string k) := by rw [Lib.cell_of_heap hk]; rfl
  clear hk
  have hk := C2.out w2 (Below.refl _ _)
  have c2_3 : w2.cell? ⟨(w.heap.size + 1), 3, none⟩ = some (.string k') := by rw [Lib.cell_of_heap hk]; rfl
  clear hk
  go_enter Tryz.func15, Tryz.ntmps15
  go_wp2_with fail
  rw [← hw1, ← hw2]
  clear hw1 hw2
  try go_wp2_with fail
  clear c1_3 c2_3
  refine (HSm.out _ (bT B1.out B2.out)).mono ?_
  rintro e w3 ⟨rfl, hb⟩
  have B3 : Hid (Below w2.heap.size w2 w3) := hb
  clear hb 
  cases E
  · have HBz : Hid (Below w.heap.size w w3) := (bT (bT B1.out B2.out) B3.out)
    clear HEq
    go_wp2
    go_ret
    exact ⟨rfl, HBz.out⟩
  have hk := C1.out w3 (bT B2.out B3.out)
  have c1_0 : w3.cell? ⟨w.heap.size, 0, none⟩ = some (.int .i64 a) := by rw [Lib.cell_of_heap hk]; rfl
  have c1_1 : w3.cell? ⟨w.heap.size, 1, none⟩ = some (.int .i64 b) := by rw [Lib.cell_of_heap hk]; rfl
  have c1_2 : w3.cell? ⟨w.heap.size, 2, none⟩ = some (.int .i64 c) := by rw [Lib.cell_of_heap hk]; rfl
  have c1_3 : w3.cell? ⟨w.heap.size, 3, none⟩ = some (.string k) := by rw [Lib.cell_of_heap hk]; rfl
  have c1_4 : w3.cell? ⟨w.heap.size, 4, none⟩ = some (.slice a0 l.length c0) := by rw [Lib.cell_of_heap hk]; rfl
  clear hk
  have hk := C2.out w3 B3.out
  have c2_0 : w3.cell? ⟨(w.heap.size + 1), 0, none⟩ = some (.int .i64 a') := by rw [Lib.cell_of_heap hk]; rfl
  have c2_1 : w3.cell? ⟨(w.heap.size + 1), 1, none⟩ = some (.int .i64 b') := by rw [Lib.cell_of_heap hk]; rfl
  have c2_2 : w3.cell? ⟨(w.heap.size + 1), 2, none⟩ = some (.int .i64 c') := by rw [Lib.cell_of_heap hk]; rfl
  have c2_3 : w3.cell? ⟨(w.heap.size + 1), 3, none⟩ = some (.string k') := by rw [Lib.cell_of_heap hk]; rfl
  have c2_4 : w3.cell? ⟨(w.heap.size + 1), 4, none⟩ = some (.slice a1 l'.length c1) := by rw [Lib.cell_of_heap hk]; rfl
  clear hk
  go_wp2_with fail
  clear c1_0 c1_1 c1_2 c1_3 c1_4 c2_0 c2_1 c2_2 c2_3 c2_4
  refine (HEq.out _ (bT (bT B1.out B2.out) B3.out)).mono ?_
  rintro e w4 ⟨rfl, hb⟩
  have B4 : Hid (Below w3.heap.size w3 w4) := hb
  clear hb 
  have HBz : Hid (Below w.heap.size w w4) := (bT (bT (bT B1.out B2.out) B3.out) B4.out)
  clear HEq
  go_wp2
  go_ret
  exact ⟨rfl, HBz.out⟩
end Go.Proofs.YtacpllmlpmllbaaGreatDoor
/- The reference's IsID, Alike, Has: walks. -/
namespace Go.Proofs.YtacpllmlpmllbaaGreatDoor
open Go.RowKit Go.ChangeMaps

set_option maxRecDepth 100000 in
theorem alike_any (a b : ByteArray) (w : World) (ha : a.size ≤ 1000000) (hb : b.size ≤ 1000000) :
    Calls Tryz.prog 51 #[.string a, .string b] w fun e w' => e = .returned (.bool (sameL a.data.toList b.data.toList)) ∧ Below w.heap.size w w' := by
  have HE : Hid (((str (foldL a.data.toList)).toList == (str (foldL b.data.toList)).toList) = sameL a.data.toList b.data.toList) := eq_str _ _
  have HA : Hid (Calls Tryz.prog 94 #[.string a] w fun e w' => e = .returned (.string (str (foldL a.data.toList))) ∧ Below w.heap.size w w') := refFold_any a w ha
  have HB : Hid (∀ w', Calls Tryz.prog 94 #[.string b] w' fun e w'' => e = .returned (.string (str (foldL b.data.toList))) ∧ Below w'.heap.size w' w'') := fun w' => refFold_any b w' hb
  generalize str (foldL a.data.toList) = A at *
  generalize str (foldL b.data.toList) = B at *
  generalize sameL a.data.toList b.data.toList = r at *
  go_enter Tryz.func51, Tryz.ntmps51
  go_wp2_with fail
  refine HA.out.mono ?_
  rintro e w1 ⟨rfl, h1⟩
  have H1 : Hid (Below w.heap.size w w1) := h1
  clear h1
  go_wp2_with fail
  refine (HB.out w1).mono ?_
  rintro e w2 ⟨rfl, h2⟩
  have H2 : Hid (Below w.heap.size w w2) := H1.out.trans (h2.mono H1.out.size)
  clear h2
  go_wp2
  go_ret
  exact ⟨by rw [← HE.out]; rfl, H2.out⟩
set_option maxRecDepth 100000 in
set_option maxHeartbeats 1000000 in
theorem refID_any (a b c : Int) (w : World) : Calls Tryz.prog 44 #[idV a b c] w fun e w' => e = .returned (.bool (idB a b c)) ∧ Below w.heap.size w w' := by
  have HB : Hid (Below w.heap.size w (w.alloc (.cells #[.int .i64 a, .int .i64 b, .int .i64 c] 29))) := al_b w _
  have e0 : idB a b c = (decide (1 ≤ a) && (decide (a ≤ 15) && ((decide (1 ≤ b) && decide (b ≤ 1099511627775)) && (decide (1 ≤ c) && decide (c ≤ 1099511627775))))) := rfl
  rw [e0]
  clear e0
  by_cases h1 : 1 ≤ a
  rotate_left
  · have d1 : decide (1 ≤ a) = false := decide_eq_false h1
    rw [d1, Bool.false_and]
    go_enter Tryz.func44, Tryz.ntmps44
    go_wp2
    go_ret
    exact ⟨rfl, HB.out⟩
  have d1 : decide (1 ≤ a) = true := decide_eq_true h1
  by_cases h2 : a ≤ 15
  rotate_left
  · have d2 : decide (a ≤ 15) = false := decide_eq_false h2
    rw [d1, d2, Bool.false_and, Bool.true_and]
    go_enter Tryz.func44, Tryz.ntmps44
    go_wp2
    go_ret
    exact ⟨rfl, HB.out⟩
  have d2 : decide (a ≤ 15) = true := decide_eq_true h2
  by_cases h3 : 1 ≤ b
  rotate_left
  · have d3 : decide (1 ≤ b) = false := decide_eq_false h3
    rw [d1, d2, d3, Bool.false_and, Bool.false_and, Bool.true_and, Bool.true_and]
    go_enter Tryz.func44, Tryz.ntmps44
    go_wp2
    go_ret
    exact ⟨rfl, HB.out⟩
  have d3 : decide (1 ≤ b) = true := decide_eq_true h3
  by_cases h4 : b ≤ 1099511627775
  rotate_left
  · have d4 : decide (b ≤ 1099511627775) = false := decide_eq_false h4
    rw [d1, d2, d3, d4, Bool.and_false, Bool.false_and, Bool.true_and, Bool.true_and]
    go_enter Tryz.func44, Tryz.ntmps44
    go_wp2
    go_ret
    exact ⟨rfl, HB.out⟩
  have d4 : decide (b ≤ 1099511627775) = true := decide_eq_true h4
  by_cases h5 : 1 ≤ c
  rotate_left
  · have d5 : decide (1 ≤ c) = false := decide_eq_false h5
    rw [d1, d2, d3, d4, d5, Bool.false_and, Bool.and_false, Bool.true_and, Bool.true_and]
    go_enter Tryz.func44, Tryz.ntmps44
    go_wp2
    go_ret
    exact ⟨rfl, HB.out⟩
  have d5 : decide (1 ≤ c) = true := decide_eq_true h5
  rw [d1, d2, d3, d4, d5, Bool.true_and, Bool.true_and, Bool.true_and, Bool.true_and]
  go_enter Tryz.func44, Tryz.ntmps44
  go_wp2
  go_ret
  exact ⟨by simp, HB.out⟩
end Go.Proofs.YtacpllmlpmllbaaGreatDoor
/- The law's Attrs; the reference's Get, its Attrs: walks. -/
namespace Go.Proofs.YtacpllmlpmllbaaGreatDoor
open Go.RowKit

def NmRA (l : List At) : Prop := ∀ x ∈ l, x.n.size ≤ 200000 ∧ x.s.size ≤ 140737488355328
end Go.Proofs.YtacpllmlpmllbaaGreatDoor
/- The reference's Attrs: its walk. -/
namespace Go.Proofs.YtacpllmlpmllbaaGreatDoor
open Go.RowKit

/-- An attribute and the one ahead of it, where they lie. -/
def CX (b o o2 : Nat) (x y : At) (w0 w : World) : Prop := (w.cell? ⟨b, o, none⟩ = some (.string x.n) ∧ w.cell? ⟨b, o + 1, none⟩ = some (.int .i64 x.k) ∧ w.cell? ⟨b, o + 2, none⟩ = some (.int .i64 x.v) ∧ w.cell? ⟨b, o + 3, none⟩ = some (.string x.s) ∧ w.cell? ⟨b, o2, none⟩ = some (.string y.n)) ∧ b < w.heap.size ∧ Below w0.heap.size w0 w
theorem CX_call {b o o2 : Nat} {x y : At} {w0 W w' : World} (hb : Below W.heap.size W w') (h : CX b o o2 x y w0 W) : CX b o o2 x y w0 w' := by
  obtain ⟨⟨c0, c1, c2, c3, c4⟩, l, B⟩ := h
  exact ⟨⟨(hb.cell (p := ⟨b, o, none⟩) l).trans c0, (hb.cell (p := ⟨b, o + 1, none⟩) l).trans c1, (hb.cell (p := ⟨b, o + 2, none⟩) l).trans c2, (hb.cell (p := ⟨b, o + 3, none⟩) l).trans c3, (hb.cell (p := ⟨b, o2, none⟩) l).trans c4⟩, Nat.lt_of_lt_of_le l hb.size, B.trans (hb.mono B.size)⟩
theorem CX_drew {b o o2 : Nat} {x y : At} {w0 W : World} (h : CX b o o2 x y w0 W) : CX b o o2 x y w0 W.drew := CX_call (Below.refl _ _).drew h
theorem allA (l : List At) (h : ∀ (k : Nat) (h : k < l.length), okA l k h) : chkA l = decide (l.length ≤ 24) := by unfold chkA; rw [decide_eq_true h, Bool.and_true]
set_option maxRecDepth 100000 in
set_option maxHeartbeats 4000000 in
theorem refAttrsA_any (v : Value) (l : List At) (w : World) (hr : IsRow w 4 v l.length (aCells l)) (hl : l.length ≤ 1000000) (hn : NmRA l) :
    Calls Tryz.prog 46 #[v] w fun e w' => e = .returned (.bool (chkA l)) ∧ Below w.heap.size w w' := by
  obtain ⟨a0, cap0, rfl⟩ := hr.form
  have HR : Hid (IsRow w 4 (.slice a0 l.length cap0) l.length (aCells l)) := hr
  have HS : Hid (∀ (k : Nat) (h : k < l.length) (w' : World), Calls Tryz.prog 66 #[.string l[k].n] w' fun e w'' => e = .returned (.bool (oneP l[k].n)) ∧ Below w'.heap.size w' w'') := fun k h w' => refSimple_any _ w' (by have := (hn _ (List.getElem_mem h)).1; omega)
  have HV : Hid (∀ (k : Nat) (h : k < l.length) (w' : World), Calls Tryz.prog 67 #[vv l[k].k l[k].v l[k].s] w' fun e w'' => e = .returned (.bool (chkV l[k].k l[k].v l[k].s)) ∧ Below w'.heap.size w' w'') := fun k h w' => refVCheck_any _ _ _ w' (hn _ (List.getElem_mem h)).2
  have HC : Hid (∀ (j k : Nat) (h1 : j < l.length) (h : k < l.length) (w' : World), Calls Tryz.prog 68 #[.string l[j].n, .string l[k].n] w' fun e w'' => e = .returned (.int .i64 (cmpL l[j].n.data.toList l[k].n.data.toList)) ∧ Below w'.heap.size w' w'') := fun j k h1 h w' => refCompare_any _ _ w' (hn _ (List.getElem_mem h1)).1 (hn _ (List.getElem_mem h)).1
  clear hr hn
  go_enter Tryz.func46, Tryz.ntmps46
  go_wp2_with fail
  go_loopw [2, 3] (fun r i wr => r = .bool false ∧ ∃ k : Nat, k ≤ l.length ∧ i = .int .i64 (k : Int) ∧ Hid (∀ (j : Nat) (h : j < l.length), j < k → okA l j h) ∧ Below w.heap.size w wr) (fun _ i _ => l.length - (intOf i).toNat)
  case atStart => exact ⟨rfl, 0, Nat.zero_le _, rfl, fun j h hj => absurd hj (Nat.not_lt_zero _), Below.refl _ _⟩
  case round =>
    obtain ⟨rfl, k, hk, rfl, HO, hB⟩ := hrel
    by_cases hlk : k < l.length
    · have dk : decide ((k : Int) < l.length) = true := by simp; omega
      obtain ⟨b, off, rfl, hlt, hcap, hc⟩ := a_at (HR.out.below hB) (by omega)
      obtain ⟨ck0, ck1, ck2, ck3⟩ := hc k hlk
      have HSk : Hid (∀ w', Calls Tryz.prog 66 #[.string l[k].n] w' fun e w'' => e = .returned (.bool (oneP l[k].n)) ∧ Below w'.heap.size w' w'') := HS.out k hlk
      have HVk : Hid (∀ w', Calls Tryz.prog 67 #[vv l[k].k l[k].v l[k].s] w' fun e w'' => e = .returned (.bool (chkV l[k].k l[k].v l[k].s)) ∧ Below w'.heap.size w' w'') := HV.out k hlk
      have q7 : (0 : Int) ≤ (k : Int) := by omega
      have q8 : (k : Int) < (l.length : Int) := by omega
      have hmay : mayA l[k] = (oneP l[k].n && chkV l[k].k l[k].v l[k].s) := rfl
      cases k with
      | zero =>
        rw [Nat.zero_mul, Nat.add_zero] at ck0 ck1 ck2 ck3
        have hS : CX b off off l[0] l[0] w wr := ⟨⟨ck0, ck1, ck2, ck3, ck0⟩, hlt, hB⟩
        have hok : okA l 0 hlk ↔ (oneP l[0].n && chkV l[0].k l[0].v l[0].s) = true := ⟨fun h => h.1, fun h => ⟨h, fun j e => absurd e (by omega)⟩⟩
        have HO2 : Hid ((oneP l[0].n && chkV l[0].k l[0].v l[0].s) = true → ∀ (j : Nat) (h : j < l.length), j < 0 + 1 → okA l j h) := fun hm j h hj => by
          obtain rfl : j = 0 := by omega
          exact hok.2 hm
        have HNo : Hid ((oneP l[0].n && chkV l[0].k l[0].v l[0].s) = false → chkA l = false) := fun hm => chkA_no (k := 0) hlk fun h => by rw [hok.1 h] at hm; cases hm
        clear hmay hok
        generalize oneP l[0].n = r at *
        generalize chkV l[0].k l[0].v l[0].s = q at *
        generalize l[0]'hlk = x at *
        obtain ⟨s, kk, nn, tt⟩ := x
        clear hc HO
        have dk0 : decide ((0 : Int) < (l.length : Int)) = true := decide_eq_true (by omega)
        have hS0 := CX_drew hS
        cases r with
        | false =>
          go_wp2_with fail
          refine wp_region_quiet (C := fun w' => CX b off off ⟨s, kk, nn, tt⟩ ⟨s, kk, nn, tt⟩ w w') (by kernel_rfl) (by kernel_rfl) hS0 ?_
          dsimp only
          repeat (first
            | go_big_quiet_skip
            | (go_big_quiet_want
               apply Exists.intro
               refine ⟨fun W' hW' => ?_, ?_⟩
               · obtain ⟨⟨g0, g1, g2, g3, g4⟩, -, -⟩ := (show CX b off off ⟨s, kk, nn, tt⟩ ⟨s, kk, nn, tt⟩ w W' from hW')
                 go_simp
                 first
                   | done
                   | rfl
                   | (go_at_call 66; refine (HSk.out W').mono ?_; rintro e w'' ⟨rfl, hb⟩; exact ⟨rfl, CX_call hb hW'⟩)
                   | (go_at_call 67; refine (HVk.out W').mono ?_; rintro e w'' ⟨rfl, hb⟩; exact ⟨rfl, CX_call hb hW'⟩)
               go_big_quiet_on
               try simp only [Act.put, List.setIfInBounds_toArray, List.set_cons_zero, List.set_cons_succ]))
          refine wpQuiet_nil ?_
          intro w2 hS2
          have HBB : Hid (Below w.heap.size w _) := (show CX b off off ⟨s, kk, nn, tt⟩ ⟨s, kk, nn, tt⟩ w w2 from hS2).2.2
          clear hS hS0 hS2
          go_wp2
          go_ret
          exact ⟨by rw [HNo.out (by rfl)]; rfl, HBB.out⟩
        | true =>
          cases q with
          | false =>
            go_wp2_with fail
            refine wp_region_quiet (C := fun w' => CX b off off ⟨s, kk, nn, tt⟩ ⟨s, kk, nn, tt⟩ w w') (by kernel_rfl) (by kernel_rfl) hS0 ?_
            dsimp only
            repeat (first
              | go_big_quiet_skip
              | (go_big_quiet_want
                 apply Exists.intro
                 refine ⟨fun W' hW' => ?_, ?_⟩
                 · obtain ⟨⟨g0, g1, g2, g3, g4⟩, -, -⟩ := (show CX b off off ⟨s, kk, nn, tt⟩ ⟨s, kk, nn, tt⟩ w W' from hW')
                   go_simp
                   first
                     | done
                     | rfl
                     | (go_at_call 66; refine (HSk.out W').mono ?_; rintro e w'' ⟨rfl, hb⟩; exact ⟨rfl, CX_call hb hW'⟩)
                     | (go_at_call 67; refine (HVk.out W').mono ?_; rintro e w'' ⟨rfl, hb⟩; exact ⟨rfl, CX_call hb hW'⟩)
                 go_big_quiet_on
                 try simp only [Act.put, List.setIfInBounds_toArray, List.set_cons_zero, List.set_cons_succ]))
            refine wpQuiet_nil ?_
            intro w2 hS2
            have HBB : Hid (Below w.heap.size w _) := (show CX b off off ⟨s, kk, nn, tt⟩ ⟨s, kk, nn, tt⟩ w w2 from hS2).2.2
            clear hS hS0 hS2
            go_wp2
            go_ret
            exact ⟨by rw [HNo.out (by rfl)]; rfl, HBB.out⟩
          | true =>
            go_wp2_with fail
            refine wp_region_quiet (C := fun w' => CX b off off ⟨s, kk, nn, tt⟩ ⟨s, kk, nn, tt⟩ w w') (by kernel_rfl) (by kernel_rfl) hS0 ?_
            dsimp only
            repeat (first
              | go_big_quiet_skip
              | (go_big_quiet_want
                 apply Exists.intro
                 refine ⟨fun W' hW' => ?_, ?_⟩
                 · obtain ⟨⟨g0, g1, g2, g3, g4⟩, -, -⟩ := (show CX b off off ⟨s, kk, nn, tt⟩ ⟨s, kk, nn, tt⟩ w W' from hW')
                   go_simp
                   first
                     | done
                     | rfl
                     | (go_at_call 66; refine (HSk.out W').mono ?_; rintro e w'' ⟨rfl, hb⟩; exact ⟨rfl, CX_call hb hW'⟩)
                     | (go_at_call 67; refine (HVk.out W').mono ?_; rintro e w'' ⟨rfl, hb⟩; exact ⟨rfl, CX_call hb hW'⟩)
                 go_big_quiet_on
                 try simp only [Act.put, List.setIfInBounds_toArray, List.set_cons_zero, List.set_cons_succ]))
            refine wpQuiet_nil ?_
            intro w2 hS2
            have HBB : Hid (Below w.heap.size w _) := (show CX b off off ⟨s, kk, nn, tt⟩ ⟨s, kk, nn, tt⟩ w w2 from hS2).2.2
            clear hS hS0 hS2
            go_wp2
            go_roundw
            case rel => exact ⟨rfl, 0 + 1, by omega, by simp, HO2.out (by rfl), HBB.out⟩
            case measure => simp [intOf]; omega
      | succ j =>
        have hj : j < l.length := by omega
        obtain ⟨cj0, -⟩ := hc j hj
        have hS : CX b (off + (j + 1) * 4) (off + j * 4) l[j + 1] l[j] w wr := ⟨⟨ck0, ck1, ck2, ck3, cj0⟩, hlt, hB⟩
        have HCk : Hid (∀ w', Calls Tryz.prog 68 #[.string l[j].n, .string l[j + 1].n] w' fun e w'' => e = .returned (.int .i64 (cmpL l[j].n.data.toList l[j + 1].n.data.toList)) ∧ Below w'.heap.size w' w'') := HC.out j (j + 1) hj hlk
        have hok : okA l (j + 1) hlk ↔ (oneP l[j + 1].n && chkV l[j + 1].k l[j + 1].v l[j + 1].s) = true ∧ cmpL l[j].n.data.toList l[j + 1].n.data.toList < 0 := ⟨fun h => ⟨h.1, h.2 j rfl⟩, fun h => ⟨h.1, fun i e => by cases e; exact h.2⟩⟩
        have HO2 : Hid ((oneP l[j + 1].n && chkV l[j + 1].k l[j + 1].v l[j + 1].s) = true → cmpL l[j].n.data.toList l[j + 1].n.data.toList < 0 → ∀ (i : Nat) (h : i < l.length), i < j + 1 + 1 → okA l i h) := fun hm hm2 i h hi => by
          by_cases e : i = j + 1
          · subst e; exact hok.2 ⟨hm, hm2⟩
          · exact HO.out i h (by omega)
        have HNo : Hid ((oneP l[j + 1].n && chkV l[j + 1].k l[j + 1].v l[j + 1].s) = false ∨ ¬ cmpL l[j].n.data.toList l[j + 1].n.data.toList < 0 → chkA l = false) := fun hm => chkA_no (k := j + 1) hlk fun h => by
          rcases hm with hm | hm
          · rw [(hok.1 h).1] at hm; cases hm
          · exact hm (hok.1 h).2
        clear hmay hok
        generalize oneP l[j + 1].n = r at *
        generalize chkV l[j + 1].k l[j + 1].v l[j + 1].s = q at *
        generalize cmpL l[j].n.data.toList l[j + 1].n.data.toList = c at *
        generalize l[j + 1]'hlk = x at *
        generalize l[j]'hj = y at *
        obtain ⟨s, kk, nn, tt⟩ := x
        obtain ⟨s', kk', nn', tt'⟩ := y
        clear hc HO
        have q1 : IntKind.i64.wrap (j : Int) = (j : Int) := by rw [IntKind.wrap_i64]; omega
        have q2 : (0 : Int) ≤ (j : Int) := by omega
        have q3 : (j : Int) < (l.length : Int) := by omega
        have q4 : (j : Int) + 1 - 1 = (j : Int) := by omega
        have q5 : decide ((0 : Int) < (j : Int) + 1) = true := decide_eq_true (by omega)
        have q9 : (0 : Int) ≤ (j : Int) + 1 := by omega
        have q10 : (j : Int) + 1 < (l.length : Int) := by omega
        have hS0 := CX_drew hS
        cases r with
        | false =>
          go_wp2_with fail
          refine wp_region_quiet (C := fun w' => CX b (off + (j + 1) * 4) (off + j * 4) ⟨s, kk, nn, tt⟩ ⟨s', kk', nn', tt'⟩ w w') (by kernel_rfl) (by kernel_rfl) hS0 ?_
          dsimp only
          repeat (first
            | go_big_quiet_skip
            | (go_big_quiet_want
               apply Exists.intro
               refine ⟨fun W' hW' => ?_, ?_⟩
               · obtain ⟨⟨g0, g1, g2, g3, g4⟩, -, -⟩ := (show CX b (off + (j + 1) * 4) (off + j * 4) ⟨s, kk, nn, tt⟩ ⟨s', kk', nn', tt'⟩ w W' from hW')
                 go_simp
                 first
                   | done
                   | rfl
                   | (go_at_call 66; refine (HSk.out W').mono ?_; rintro e w'' ⟨rfl, hb⟩; exact ⟨rfl, CX_call hb hW'⟩)
                   | (go_at_call 67; refine (HVk.out W').mono ?_; rintro e w'' ⟨rfl, hb⟩; exact ⟨rfl, CX_call hb hW'⟩)
                   | (go_at_call 68; refine (HCk.out W').mono ?_; rintro e w'' ⟨rfl, hb⟩; exact ⟨rfl, CX_call hb hW'⟩)
               go_big_quiet_on
               try simp only [Act.put, List.setIfInBounds_toArray, List.set_cons_zero, List.set_cons_succ]))
          refine wpQuiet_nil ?_
          intro w2 hS2
          have HBB : Hid (Below w.heap.size w _) := (show CX b (off + (j + 1) * 4) (off + j * 4) ⟨s, kk, nn, tt⟩ ⟨s', kk', nn', tt'⟩ w w2 from hS2).2.2
          clear hS hS0 hS2
          go_wp2
          go_ret
          exact ⟨by rw [HNo.out (.inl (by rfl))]; rfl, HBB.out⟩
        | true =>
          cases q with
          | false =>
            go_wp2_with fail
            refine wp_region_quiet (C := fun w' => CX b (off + (j + 1) * 4) (off + j * 4) ⟨s, kk, nn, tt⟩ ⟨s', kk', nn', tt'⟩ w w') (by kernel_rfl) (by kernel_rfl) hS0 ?_
            dsimp only
            repeat (first
              | go_big_quiet_skip
              | (go_big_quiet_want
                 apply Exists.intro
                 refine ⟨fun W' hW' => ?_, ?_⟩
                 · obtain ⟨⟨g0, g1, g2, g3, g4⟩, -, -⟩ := (show CX b (off + (j + 1) * 4) (off + j * 4) ⟨s, kk, nn, tt⟩ ⟨s', kk', nn', tt'⟩ w W' from hW')
                   go_simp
                   first
                     | done
                     | rfl
                     | (go_at_call 66; refine (HSk.out W').mono ?_; rintro e w'' ⟨rfl, hb⟩; exact ⟨rfl, CX_call hb hW'⟩)
                     | (go_at_call 67; refine (HVk.out W').mono ?_; rintro e w'' ⟨rfl, hb⟩; exact ⟨rfl, CX_call hb hW'⟩)
                     | (go_at_call 68; refine (HCk.out W').mono ?_; rintro e w'' ⟨rfl, hb⟩; exact ⟨rfl, CX_call hb hW'⟩)
                 go_big_quiet_on
                 try simp only [Act.put, List.setIfInBounds_toArray, List.set_cons_zero, List.set_cons_succ]))
            refine wpQuiet_nil ?_
            intro w2 hS2
            have HBB : Hid (Below w.heap.size w _) := (show CX b (off + (j + 1) * 4) (off + j * 4) ⟨s, kk, nn, tt⟩ ⟨s', kk', nn', tt'⟩ w w2 from hS2).2.2
            clear hS hS0 hS2
            go_wp2
            go_ret
            exact ⟨by rw [HNo.out (.inl (by rfl))]; rfl, HBB.out⟩
          | true =>
            by_cases hc0 : c < 0
            · have q6 : decide ((0 : Int) ≤ c) = false := by simp; omega
              go_wp2_with fail
              refine wp_region_quiet (C := fun w' => CX b (off + (j + 1) * 4) (off + j * 4) ⟨s, kk, nn, tt⟩ ⟨s', kk', nn', tt'⟩ w w') (by kernel_rfl) (by kernel_rfl) hS0 ?_
              dsimp only
              repeat (first
                | go_big_quiet_skip
                | (go_big_quiet_want
                   apply Exists.intro
                   refine ⟨fun W' hW' => ?_, ?_⟩
                   · obtain ⟨⟨g0, g1, g2, g3, g4⟩, -, -⟩ := (show CX b (off + (j + 1) * 4) (off + j * 4) ⟨s, kk, nn, tt⟩ ⟨s', kk', nn', tt'⟩ w W' from hW')
                     go_simp
                     first
                       | done
                       | rfl
                       | (go_at_call 66; refine (HSk.out W').mono ?_; rintro e w'' ⟨rfl, hb⟩; exact ⟨rfl, CX_call hb hW'⟩)
                       | (go_at_call 67; refine (HVk.out W').mono ?_; rintro e w'' ⟨rfl, hb⟩; exact ⟨rfl, CX_call hb hW'⟩)
                       | (go_at_call 68; refine (HCk.out W').mono ?_; rintro e w'' ⟨rfl, hb⟩; exact ⟨rfl, CX_call hb hW'⟩)
                   go_big_quiet_on
                   try simp only [Act.put, List.setIfInBounds_toArray, List.set_cons_zero, List.set_cons_succ]))
              refine wpQuiet_nil ?_
              intro w2 hS2
              have HBB : Hid (Below w.heap.size w _) := (show CX b (off + (j + 1) * 4) (off + j * 4) ⟨s, kk, nn, tt⟩ ⟨s', kk', nn', tt'⟩ w w2 from hS2).2.2
              clear hS hS0 hS2
              go_wp2
              go_roundw
              case rel => exact ⟨rfl, j + 1 + 1, by omega, by simp, HO2.out (by rfl) hc0, HBB.out⟩
              case measure => simp [intOf]; omega
            · have q6 : decide ((0 : Int) ≤ c) = true := by simp; omega
              go_wp2_with fail
              refine wp_region_quiet (C := fun w' => CX b (off + (j + 1) * 4) (off + j * 4) ⟨s, kk, nn, tt⟩ ⟨s', kk', nn', tt'⟩ w w') (by kernel_rfl) (by kernel_rfl) hS0 ?_
              dsimp only
              repeat (first
                | go_big_quiet_skip
                | (go_big_quiet_want
                   apply Exists.intro
                   refine ⟨fun W' hW' => ?_, ?_⟩
                   · obtain ⟨⟨g0, g1, g2, g3, g4⟩, -, -⟩ := (show CX b (off + (j + 1) * 4) (off + j * 4) ⟨s, kk, nn, tt⟩ ⟨s', kk', nn', tt'⟩ w W' from hW')
                     go_simp
                     first
                       | done
                       | rfl
                       | (go_at_call 66; refine (HSk.out W').mono ?_; rintro e w'' ⟨rfl, hb⟩; exact ⟨rfl, CX_call hb hW'⟩)
                       | (go_at_call 67; refine (HVk.out W').mono ?_; rintro e w'' ⟨rfl, hb⟩; exact ⟨rfl, CX_call hb hW'⟩)
                       | (go_at_call 68; refine (HCk.out W').mono ?_; rintro e w'' ⟨rfl, hb⟩; exact ⟨rfl, CX_call hb hW'⟩)
                   go_big_quiet_on
                   try simp only [Act.put, List.setIfInBounds_toArray, List.set_cons_zero, List.set_cons_succ]))
              refine wpQuiet_nil ?_
              intro w2 hS2
              have HBB : Hid (Below w.heap.size w _) := (show CX b (off + (j + 1) * 4) (off + j * 4) ⟨s, kk, nn, tt⟩ ⟨s', kk', nn', tt'⟩ w w2 from hS2).2.2
              clear hS hS0 hS2
              go_wp2
              go_ret
              exact ⟨by rw [HNo.out (.inr hc0)]; rfl, HBB.out⟩
    · have hk' : k = l.length := by omega
      subst hk'
      have dk : decide ((l.length : Int) < l.length) = false := by simp
      have HY : Hid (chkA l = decide ((l.length : Int) ≤ 24)) := by
        show _ = _
        rw [allA l (fun k h => HO.out k h h), Bool.eq_iff_iff]; simp; omega
      clear HO
      have HBB : Hid (Below w.heap.size w wr) := hB
      clear hB
      go_wp2
      go_ret
      exact ⟨by rw [HY.out]; rfl, HBB.out⟩
end Go.Proofs.YtacpllmlpmllbaaGreatDoor
