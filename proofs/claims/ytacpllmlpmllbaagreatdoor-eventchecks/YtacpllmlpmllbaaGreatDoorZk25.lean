/- EventChecks: its walk. -/
import Derived.Test.YtacpllmlpmllbaaGreatDoorZk22
import Derived.Test.YtacpllmlpmllbaaGreatDoorZk24
import Derived.Test.YtacpllmlpmllbaaGreatDoorZk18
namespace Go.Proofs.YtacpllmlpmllbaaGreatDoor
open Go.RowKit Go.ChangeMaps

theorem fewA_C {l : List At} (h : fewA l = true) : l.length ≤ 41 ∧ NmA l ∧ NmRA l ∧ ∀ x ∈ l, x.n.size ≤ 65536 := by
  have h' := of_decide_eq_true h
  have hx : ∀ x ∈ l, x.n.size ≤ 200 ∧ x.s.size ≤ 500 := fun x hx => by
    obtain ⟨k, hk, rfl⟩ := List.getElem_of_mem hx
    exact (h' k hk).2
  exact ⟨(fewA_shortV h).1, (fewA_shortV h).2, fun x hx' => by have := hx x hx'; omega, fun x hx' => by have := hx x hx'; omega⟩
/-- A row is not changed by a store elsewhere. -/
theorem row_ne {W : World} {n m c g : Nat} {sz : Nat} {a : Option Addr} {xs : List Value} (h : IsRow W sz (.slice a m c) n xs) (hne : n = 0 ∨ ∀ p, a = some p → p.block ≠ g) (j : Nat) (v : Value) : IsRow (W.setCell ⟨g, j, none⟩ v) sz (.slice a m c) n xs := by
  refine ⟨h.1, ?_⟩
  rcases h.2 with h0 | ⟨b, off, cap, hv, hlt, q1, q2, hc⟩
  · exact .inl h0
  · simp only [Value.slice.injEq] at hv
    obtain ⟨rfl, hm, hcc⟩ := hv
    by_cases hn0 : n = 0
    · exact .inl ⟨hn0, _, _, by rw [hm, hn0]⟩
    · have hb : b ≠ g := by
        rcases hne with h | h
        · exact absurd h hn0
        · exact h _ rfl
      refine .inr ⟨b, off, cap, by rw [hm, hcc], ?_, q1, q2, fun k u hu => ?_⟩
      · show b < (W.heap.modify g _).size
        simpa using hlt
      · rw [World.cell?_setCell_other _ _ _ _ (by simp only [ne_eq, Addr.mk.injEq, not_and]; intro h; first | exact absurd h hb | exact absurd h.symm hb)]
        exact hc k u hu
theorem row_lt {W : World} {n m c g : Nat} {sz : Nat} {a : Option Addr} {xs : List Value} (h : IsRow W sz (.slice a m c) n xs) (hg : W.heap.size ≤ g) : n = 0 ∨ ∀ p, a = some p → p.block ≠ g := by
  rcases h.2 with h0 | ⟨b, off, cap, hv, hlt, q1, q2, hc⟩
  · exact .inl h0.1
  · simp only [Value.slice.injEq] at hv
    obtain ⟨rfl, hm, hcc⟩ := hv
    refine .inr fun p hp => ?_
    cases hp
    show b ≠ g
    omega
theorem row_new {n g base : Nat} {a : Option Addr} (h : NewA base a) (hg : g < base) : n = 0 ∨ ∀ p, a = some p → p.block ≠ g := .inr fun p hp => by
  have := h p hp
  omega
def zEA : Array Value := evA 0 0 0 ⟨#[]⟩ (.slice none 0 0)
/-- Both events as the reference has them, in their boxes. -/
structure Both (a b c : Int) (k : ByteArray) (l : List At) (a' b' c' : Int) (k' : ByteArray) (m : List At) (M N : Nat) (x1 : Option Addr) (y1 : Nat) (x2 : Option Addr) (y2 : Nat) (w : World) : Prop where
  p : BxV M a b c k (.slice x1 l.length y1) w
  q : BxV N a' b' c' k' (.slice x2 m.length y2) w
  r : IsRow w 4 (.slice x1 l.length y1) l.length (aCells l)
  s : IsRow w 4 (.slice x2 m.length y2) m.length (aCells m)
  u : M < w.heap.size
  v : N < w.heap.size
theorem BxV.keep {g : Nat} {a b c : Int} {k : ByteArray} {u : Value} {w w' : World} (h : BxV g a b c k u w) (hb : Below w.heap.size w w') (hg : g < w.heap.size) : BxV g a b c k u w' := by
  obtain ⟨⟨p0, p1, p2⟩, p3, p4⟩ := h
  exact ⟨⟨(hb.cell (p := ⟨g, 0, none⟩) hg).trans p0, (hb.cell (p := ⟨g, 1, none⟩) hg).trans p1, (hb.cell (p := ⟨g, 2, none⟩) hg).trans p2⟩, (hb.cell (p := ⟨g, 3, none⟩) hg).trans p3, (hb.cell (p := ⟨g, 4, none⟩) hg).trans p4⟩
theorem Both.below {a b c : Int} {k : ByteArray} {l : List At} {a' b' c' : Int} {k' : ByteArray} {m : List At} {M N : Nat} {x1 : Option Addr} {y1 : Nat} {x2 : Option Addr} {y2 : Nat} {w w' : World} (h : Both a b c k l a' b' c' k' m M N x1 y1 x2 y2 w) (hb : Below w.heap.size w w') : Both a b c k l a' b' c' k' m M N x1 y1 x2 y2 w' :=
  ⟨h.p.keep hb h.u, h.q.keep hb h.v, h.r.below hb, h.s.below hb, Nat.lt_of_lt_of_le h.u hb.size, Nat.lt_of_lt_of_le h.v hb.size⟩
/-- Five cells stored into a block. -/
abbrev st5 (W : World) (g : Nat) (u0 u1 u2 u3 u4 : Value) : World := ((((W.setCell ⟨g, 0, none⟩ u0).setCell ⟨g, 1, none⟩ u1).setCell ⟨g, 2, none⟩ u2).setCell ⟨g, 3, none⟩ u3).setCell ⟨g, 4, none⟩ u4
theorem st5_heap {W : World} {g : Nat} {ty : TypeId} {z : Nat × Nat} (h : W.heap[g]? = some (.cells zEA ty z)) (u0 u1 u2 u3 u4 : Value) : (st5 W g u0 u1 u2 u3 u4).heap[g]? = some (.cells #[u0, u1, u2, u3, u4] ty z) :=
  heap_set (heap_set (heap_set (heap_set (heap_set h 0 u0) 1 u1) 2 u2) 3 u3) 4 u4
theorem st5_other {W : World} {g h : Nat} (hne : h ≠ g) (u0 u1 u2 u3 u4 : Value) : (st5 W g u0 u1 u2 u3 u4).heap[h]? = W.heap[h]? := by
  unfold st5
  rw [Below.heap_setCell _ _ _ _ hne, Below.heap_setCell _ _ _ _ hne, Below.heap_setCell _ _ _ _ hne, Below.heap_setCell _ _ _ _ hne, Below.heap_setCell _ _ _ _ hne]
theorem st5_row {W : World} {n m c g : Nat} {sz : Nat} {a : Option Addr} {xs : List Value} (h : IsRow W sz (.slice a m c) n xs) (hne : n = 0 ∨ ∀ p, a = some p → p.block ≠ g) (u0 u1 u2 u3 u4 : Value) : IsRow (st5 W g u0 u1 u2 u3 u4) sz (.slice a m c) n xs :=
  row_ne (row_ne (row_ne (row_ne (row_ne h hne 0 _) hne 1 _) hne 2 _) hne 3 _) hne 4 _
theorem st5_below {B : Nat} {w W : World} {g : Nat} (h : Below B w W) (hg : B ≤ g) (u0 u1 u2 u3 u4 : Value) : Below B w (st5 W g u0 u1 u2 u3 u4) :=
  ((((h.setCell (p := ⟨g, 0, none⟩) hg u0).setCell (p := ⟨g, 1, none⟩) hg u1).setCell (p := ⟨g, 2, none⟩) hg u2).setCell (p := ⟨g, 3, none⟩) hg u3).setCell (p := ⟨g, 4, none⟩) hg u4
/-- What both stores make. -/
theorem both_of {w2 Z : World} {a b c : Int} {k : ByteArray} {l : List At} {a' b' c' : Int} {k' : ByteArray} {m : List At} {M N : Nat} {x1 : Option Addr} {y1 : Nat} {x2 : Option Addr} {y2 : Nat} {ty : TypeId} {z : Nat × Nat}
    (hB : Below w2.heap.size w2 Z) (hM : w2.heap.size ≤ M) (hN : w2.heap.size ≤ N) (hMN : M ≠ N) (hm : Z.heap[M]? = some (.cells zEA ty z)) (hn : Z.heap[N]? = some (.cells zEA ty z))
    (r1 : IsRow Z 4 (.slice x1 l.length y1) l.length (aCells l)) (r2 : IsRow Z 4 (.slice x2 m.length y2) m.length (aCells m))
    (f1 : l.length = 0 ∨ ∀ p, x1 = some p → p.block ≠ M) (f2 : l.length = 0 ∨ ∀ p, x1 = some p → p.block ≠ N) (f3 : m.length = 0 ∨ ∀ p, x2 = some p → p.block ≠ M) (f4 : m.length = 0 ∨ ∀ p, x2 = some p → p.block ≠ N) :
    Both a b c k l a' b' c' k' m M N x1 y1 x2 y2 (st5 (st5 Z M (.int .i64 a) (.int .i64 b) (.int .i64 c) (.string k) (.slice x1 l.length y1)) N (.int .i64 a') (.int .i64 b') (.int .i64 c') (.string k') (.slice x2 m.length y2)) ∧ Below w2.heap.size w2 (st5 (st5 Z M (.int .i64 a) (.int .i64 b) (.int .i64 c) (.string k) (.slice x1 l.length y1)) N (.int .i64 a') (.int .i64 b') (.int .i64 c') (.string k') (.slice x2 m.length y2)) := by
  have e1 := st5_heap hm (.int .i64 a) (.int .i64 b) (.int .i64 c) (.string k) (.slice x1 l.length y1)
  have e2 := st5_heap ((st5_other (g := M) (Ne.symm hMN) (.int .i64 a) (.int .i64 b) (.int .i64 c) (.string k) (.slice x1 l.length y1)).trans hn) (.int .i64 a') (.int .i64 b') (.int .i64 c') (.string k') (.slice x2 m.length y2)
  have e3 := (st5_other (g := N) (W := st5 Z M (.int .i64 a) (.int .i64 b) (.int .i64 c) (.string k) (.slice x1 l.length y1)) hMN (.int .i64 a') (.int .i64 b') (.int .i64 c') (.string k') (.slice x2 m.length y2)).trans e1
  refine ⟨⟨BxV.of e3, BxV.of e2, st5_row (st5_row r1 f1 _ _ _ _ _) f2 _ _ _ _ _, st5_row (st5_row r2 f3 _ _ _ _ _) f4 _ _ _ _ _, ?_, ?_⟩, st5_below (st5_below hB hM _ _ _ _ _) hN _ _ _ _ _⟩
  · exact (Array.getElem?_eq_some_iff.1 e3).1
  · exact (Array.getElem?_eq_some_iff.1 e2).1
/-- Two events' blocks. -/
def TwE (g : Nat) (a b c : Int) (k : ByteArray) (u : Value) (a' b' c' : Int) (k' : ByteArray) (v : Value) (w : World) : Prop := BxV g a b c k u w ∧ BxV (g + 1) a' b' c' k' v w
theorem TwE.set {g h : Nat} {a b c : Int} {k : ByteArray} {u : Value} {a' b' c' : Int} {k' : ByteArray} {v : Value} {w : World} (H : TwE g a b c k u a' b' c' k' v w) (hh : g + 2 ≤ h) (u0 u1 u2 u3 u4 : Value) : TwE g a b c k u a' b' c' k' v (st5 w h u0 u1 u2 u3 u4) := by
  have q : ∀ (W : World) (i j n : Nat) (x : Value), i < g + 2 → (W.setCell ⟨h, j, none⟩ x).cell? ⟨i, n, none⟩ = W.cell? ⟨i, n, none⟩ := fun W i j n x hi => World.cell?_setCell_other _ _ _ _ (by simp only [ne_eq, Addr.mk.injEq, not_and]; intro h; omega)
  obtain ⟨⟨⟨p0, p1, p2⟩, p3, p4⟩, ⟨q0, q1, q2⟩, q3, q4⟩ := H
  refine ⟨⟨⟨?_, ?_, ?_⟩, ?_, ?_⟩, ⟨?_, ?_, ?_⟩, ?_, ?_⟩ <;> (unfold st5; rw [q _ _ _ _ _ (by omega), q _ _ _ _ _ (by omega), q _ _ _ _ _ (by omega), q _ _ _ _ _ (by omega), q _ _ _ _ _ (by omega)]; assumption)
set_option maxRecDepth 100000 in
set_option maxHeartbeats 8000000 in
theorem eventChecks_walk (a b c : Int) (k : ByteArray) (u : Value) (l : List At) (a' b' c' : Int) (k' : ByteArray) (v : Value) (m : List At) (w : World) (hq : IsRow w 4 u l.length (aCells l)) (hal : l.length ≤ 140737488355328) (hr : IsRow w 4 v m.length (aCells m)) (ham : m.length ≤ 140737488355328) (hW : W6 w) (hQ : Q.Tab w) :
    Calls Tryz.prog 3 #[.agg (evA a b c k u), .agg (evA a' b' c' k' v)] w fun e w' => e = .returned (.bool true) ∧ Below w.heap.size w w' := by
  obtain ⟨au, cu, rfl⟩ := hq.form
  obtain ⟨av, cv, rfl⟩ := hr.form
  have HAw : Hid (∀ W, Below w.heap.size w W → Calls Tryz.prog 9 #[] W fun e w' => e = .returned (.bool true) ∧ Below W.heap.size W w') := fun W h => awake6_any W (hW.below h)
  have HF1 : Hid (∀ W, Below w.heap.size w W → Calls Tryz.prog 8 #[.agg (evA a b c k (.slice au l.length cu))] W fun e w' => e = .returned (.bool (fewE k l)) ∧ Below W.heap.size W w') := fun W h => fewE_any a b c k _ l W (hq.below h) hal
  have HF2 : Hid (∀ W, Below w.heap.size w W → Calls Tryz.prog 8 #[.agg (evA a' b' c' k' (.slice av m.length cv))] W fun e w' => e = .returned (.bool (fewE k' m)) ∧ Below W.heap.size W w') := fun W h => fewE_any a' b' c' k' _ m W (hr.below h) ham
  have HR : Hid (∀ W, Below w.heap.size w W → IsRow W 4 (.slice au l.length cu) l.length (aCells l) ∧ IsRow W 4 (.slice av m.length cv) m.length (aCells m) ∧ W6 W ∧ Q.Tab W) := fun W h => ⟨hq.below h, hr.below h, hW.below h, hQ.below h hQ.size⟩
  clear hq hr hal ham hW hQ
  obtain ⟨w1, hw1⟩ : ∃ w1, w1 = w.alloc (.cells (evA a b c k (.slice au l.length cu)) 26) := ⟨_, rfl⟩
  have B1 : Hid (Below w.heap.size w w1) := by show Below _ _ _; rw [hw1]; exact al_b _ _
  have hn1 : w1.heap[w.heap.size]? = some (.cells (evA a b c k (.slice au l.length cu)) 26 (0, 0)) := by rw [hw1]; exact new_at _ _
  have C1 : Hid (∀ W, Below w1.heap.size w1 W → W.heap[w.heap.size]? = some (.cells (evA a b c k (.slice au l.length cu)) 26 (0, 0))) := fun W h => (h.block _ (Array.getElem?_eq_some_iff.1 hn1).1).trans hn1
  clear hn1
  obtain ⟨w2, hw2⟩ : ∃ w2, w2 = w1.alloc (.cells (evA a' b' c' k' (.slice av m.length cv)) 26) := ⟨_, rfl⟩
  have B2 : Hid (Below w1.heap.size w1 w2) := by show Below _ _ _; rw [hw2]; exact al_b _ _
  have hn2 : w2.heap[(w.heap.size + 1)]? = some (.cells (evA a' b' c' k' (.slice av m.length cv)) 26 (0, 0)) := by rw [hw2]; rw [show w.heap.size + 1 = w1.heap.size by (rw [hw1]; simp)]; exact new_at _ _
  have C2 : Hid (∀ W, Below w2.heap.size w2 W → W.heap[(w.heap.size + 1)]? = some (.cells (evA a' b' c' k' (.slice av m.length cv)) 26 (0, 0))) := fun W h => (h.block _ (Array.getElem?_eq_some_iff.1 hn2).1).trans hn2
  clear hn2
  have Hz2 : Hid (w2.heap.size = w.heap.size + 2) := by show _ = _; rw [hw2, hw1]; simp
  have hk := C1.out w2 B2.out
  have c1_0 : w2.cell? ⟨w.heap.size, 0, none⟩ = some (.int .i64 a) := by rw [Lib.cell_of_heap hk]; rfl
  have c1_1 : w2.cell? ⟨w.heap.size, 1, none⟩ = some (.int .i64 b) := by rw [Lib.cell_of_heap hk]; rfl
  have c1_2 : w2.cell? ⟨w.heap.size, 2, none⟩ = some (.int .i64 c) := by rw [Lib.cell_of_heap hk]; rfl
  have c1_3 : w2.cell? ⟨w.heap.size, 3, none⟩ = some (.string k) := by rw [Lib.cell_of_heap hk]; rfl
  have c1_4 : w2.cell? ⟨w.heap.size, 4, none⟩ = some (.slice au l.length cu) := by rw [Lib.cell_of_heap hk]; rfl
  clear hk
  go_enter Tryz.func3, Tryz.ntmps3
  go_wp2_with fail
  rw [← hw1, ← hw2]
  clear hw1 hw2
  try go_wp2_with fail
  clear c1_0 c1_1 c1_2 c1_3 c1_4
  refine (HF1.out _ (bT B1.out B2.out)).mono ?_
  rintro e w3 ⟨rfl, hb⟩
  have B3 : Hid (Below w2.heap.size w2 w3) := hb
  clear hb 
  clear HF1
  cases h1 : fewE k l
  · clear h1 HF2 HR
    go_wp2_with fail
    refine (HAw.out _ (bT (bT B1.out B2.out) B3.out)).mono ?_
    rintro e w4 ⟨rfl, hb⟩
    have B4 : Hid (Below w3.heap.size w3 w4) := hb
    clear hb 
    have HBz : Hid (Below w.heap.size w w4) := (bT (bT (bT B1.out B2.out) B3.out) B4.out)
    go_wp2
    go_ret
    exact ⟨rfl, HBz.out⟩
  have hk := C2.out w3 B3.out
  have c2_0 : w3.cell? ⟨(w.heap.size + 1), 0, none⟩ = some (.int .i64 a') := by rw [Lib.cell_of_heap hk]; rfl
  have c2_1 : w3.cell? ⟨(w.heap.size + 1), 1, none⟩ = some (.int .i64 b') := by rw [Lib.cell_of_heap hk]; rfl
  have c2_2 : w3.cell? ⟨(w.heap.size + 1), 2, none⟩ = some (.int .i64 c') := by rw [Lib.cell_of_heap hk]; rfl
  have c2_3 : w3.cell? ⟨(w.heap.size + 1), 3, none⟩ = some (.string k') := by rw [Lib.cell_of_heap hk]; rfl
  have c2_4 : w3.cell? ⟨(w.heap.size + 1), 4, none⟩ = some (.slice av m.length cv) := by rw [Lib.cell_of_heap hk]; rfl
  clear hk
  go_wp2_with fail
  clear c2_0 c2_1 c2_2 c2_3 c2_4
  refine (HF2.out _ (bT (bT B1.out B2.out) B3.out)).mono ?_
  rintro e w4 ⟨rfl, hb⟩
  have B4 : Hid (Below w3.heap.size w3 w4) := hb
  clear hb 
  clear HF2
  cases h2 : fewE k' m
  · clear h1 h2 HR
    go_wp2_with fail
    refine (HAw.out _ (bT (bT (bT B1.out B2.out) B3.out) B4.out)).mono ?_
    rintro e w5 ⟨rfl, hb⟩
    have B5 : Hid (Below w4.heap.size w4 w5) := hb
    clear hb 
    have HBz : Hid (Below w.heap.size w w5) := (bT (bT (bT (bT B1.out B2.out) B3.out) B4.out) B5.out)
    go_wp2
    go_ret
    exact ⟨rfl, HBz.out⟩
  unfold fewE at h1 h2
  rw [Bool.and_eq_true, decide_eq_true_eq] at h1 h2
  obtain ⟨k1, h1⟩ := h1
  obtain ⟨k2, h2⟩ := h2
  obtain ⟨n1, n2, n3, n4⟩ := fewA_C h1
  obtain ⟨m1, m2, m3, m4⟩ := fewA_C h2
  have HRa : Hid (∀ W, Below w.heap.size w W → Calls Tryz.prog 10 #[.agg (evA a b c k (.slice au l.length cu))] W fun e w' => ReN a b c k l W e w') := fun W h => refEN_any a b c k _ l W (HR.out W h).1 (by omega)
  have HRb : Hid (∀ W, Below w.heap.size w W → Calls Tryz.prog 10 #[.agg (evA a' b' c' k' (.slice av m.length cv))] W fun e w' => ReN a' b' c' k' m W e w') := fun W h => refEN_any a' b' c' k' _ m W (HR.out W h).2.1 (by omega)
  have HL : Hid (l.length ≤ 1000000 ∧ m.length ≤ 1000000 ∧ NmA l ∧ NmA m ∧ NmRA l ∧ NmRA m ∧ (∀ x ∈ l, x.n.size ≤ 65536) ∧ (∀ x ∈ m, x.n.size ≤ 65536) ∧ k.size ≤ 200 ∧ k'.size ≤ 200) := ⟨by omega, by omega, n2, m2, n3, m3, n4, m4, k1, k2⟩
  have HTw : Hid (∀ W, Below w4.heap.size w4 W → TwE w.heap.size a b c k (.slice au l.length cu) a' b' c' k' (.slice av m.length cv) W) := fun W h => ⟨BxV.of (C1.out W (bT (bT (bT B2.out B3.out) B4.out) h)), BxV.of (C2.out W (bT (bT B3.out B4.out) h))⟩
  have HBn : Hid (∀ W, Below w4.heap.size w4 W → Below w.heap.size w W) := fun W h => bT (bT (bT (bT B1.out B2.out) B3.out) B4.out) h
  have HzB : Hid (w.heap.size + 2 ≤ w4.heap.size) := by have h0 := (bT B3.out B4.out).size; have := Hz2.out; show _ ≤ _; omega
  clear h1 h2 k1 k2 n1 n2 n3 n4 m1 m2 m3 m4
  have HTw0 := HTw.out w4 (Below.refl _ _)
  clear B1 B2 B3 B4 C1 C2 Hz2
  obtain ⟨⟨⟨g0, g1, g2⟩, g3, g4⟩, ⟨k0, k1, k2⟩, k3, k4⟩ := HTw0
  go_wp2_with fail
  clear g0 g1 g2 g3 g4 k0 k1 k2 k3 k4
  go_cut [5, 6] (fun r s wx => ∃ M N x1 y1 x2 y2, r = .pointer (some ⟨M, 0, none⟩) ∧ s = .pointer (some ⟨N, 0, none⟩) ∧ Hid (Both a b c k l a' b' c' k' m M N x1 y1 x2 y2 wx) ∧ Hid (Below w4.heap.size w4 wx))
  case first =>
    have Hd : Hid (Below w4.heap.size w4 w4.drew) := (Below.refl _ _).drew
    refine wp_region_held_drew (S := fun w' => TwE w.heap.size a b c k (.slice au l.length cu) a' b' c' k' (.slice av m.length cv) w') (by kernel_rfl) (HTw.out _ Hd.out) (fun hHeld => ?_)
    generalize w4.drew = v0 at *
    refine wpAnyH_take (i := 0) (v := ?_) rfl (by kernel_rfl) (by kernel_rfl) (by kernel_rfl) (fun _ _ _ h => h) (Or.inl ⟨by rfl, ?_⟩) hHeld ?_
    rotate_left 1
    · intro w9 hSw; obtain ⟨⟨⟨g0, g1, g2⟩, g3, g4⟩, ⟨k0, k1, k2⟩, k3, k4⟩ := hSw; go_simp; try with_reducible rfl
    change wpAnyH _ _ _ _ _ _ _ (Act.put _ (some 16) _) _
    simp only [Act.put, List.setIfInBounds_toArray, List.set_cons_zero, List.set_cons_succ]
    refine wpAnyH_take (i := 2) (v := ?_) rfl (by kernel_rfl) (by kernel_rfl) (by kernel_rfl) (fun _ _ _ h => h) (Or.inl ⟨by rfl, ?_⟩) hHeld ?_
    rotate_left 1
    · intro w9 hSw; obtain ⟨⟨⟨g0, g1, g2⟩, g3, g4⟩, ⟨k0, k1, k2⟩, k3, k4⟩ := hSw; go_simp; try with_reducible rfl
    change wpAnyH _ _ _ _ _ _ _ (Act.put _ (some 18) _) _
    simp only [Act.put, List.setIfInBounds_toArray, List.set_cons_zero, List.set_cons_succ]
    refine wpAnyH_ready (rs := [1, 4, 5]) (by kernel_rfl) (by simp) ?_
    refine (AllReadyH.cons rfl (fun K hK => ?_) (AllReadyH.cons rfl (fun K hK => ?_) (AllReadyH.cons rfl (fun K hK => ?_) AllReadyH.nil)))
    all_goals go_simp
    · refine (HRa.out _ (HBn.out _ Hd.out)).mono ?_
      rintro e v1 ⟨x1, y1, rfl, hrow, hnew, hb⟩
      have E1 : Hid (Below v0.heap.size v0 v1) := hb
      have D1 : Hid (Below w4.heap.size w4 v1) := bT Hd.out hb
      have HR1 : Hid (∀ W, Below v1.heap.size v1 W → IsRow W 4 (.slice x1 l.length y1) l.length (aCells l)) := fun W h => hrow.below h
      have N1 : Hid (NewA v0.heap.size x1) := hnew
      clear hrow hnew hb
      go_simp
      refine hK.out _ _ (HTw.out _ D1.out) (fun hHeld => ?_)
      clear hK K
      refine wpAnyH_ready (rs := [3, 4, 5]) (by kernel_rfl) (by simp) ?_
      refine (AllReadyH.cons rfl (fun K hK => ?_) (AllReadyH.cons rfl (fun K hK => ?_) (AllReadyH.cons rfl (fun K hK => ?_) AllReadyH.nil)))
      all_goals go_simp
      · refine (HRb.out _ (HBn.out _ D1.out)).mono ?_
        rintro e v2 ⟨x3, y3, rfl, hrow, hnew, hb⟩
        have E2 : Hid (Below v1.heap.size v1 v2) := hb
        have D2 : Hid (Below w4.heap.size w4 v2) := bT D1.out hb
        have HR3 : Hid (∀ W, Below v2.heap.size v2 W → IsRow W 4 (.slice x3 m.length y3) m.length (aCells m)) := fun W h => hrow.below h
        have N3 : Hid (NewA v1.heap.size x3) := hnew
        clear hrow hnew hb
        go_simp
        refine hK.out _ _ (HTw.out _ D2.out) (fun hHeld => ?_)
        clear hK K
        refine wpAnyH_ready (rs := [4, 5]) (by kernel_rfl) (by simp) ?_
        refine (AllReadyH.cons rfl (fun K hK => ?_) (AllReadyH.cons rfl (fun K hK => ?_) AllReadyH.nil))
        all_goals go_simp
        · obtain ⟨v3, hv3⟩ : ∃ v3, v3 = v2.alloc (.cells (evA 0 0 0 ⟨#[]⟩ (.slice none 0 0)) 32) := ⟨_, rfl⟩
          have E3 : Hid (Below v2.heap.size v2 v3) := by show Below _ _ _; rw [hv3]; exact al_b _ _
          have D3 : Hid (Below w4.heap.size w4 v3) := bT D2.out E3.out
          have hnn : v3.heap[v2.heap.size]? = some (.cells zEA 32 (0, 0)) := by rw [hv3]; exact new_at _ _
          have C4 : Hid (∀ W, Below v3.heap.size v3 W → W.heap[v2.heap.size]? = some (.cells zEA 32 (0, 0))) := fun W h => (h.block _ (Array.getElem?_eq_some_iff.1 hnn).1).trans hnn
          have G4 : Hid (w4.heap.size ≤ v2.heap.size) := D2.out.size
          have R1at4 : Hid (IsRow v2 4 (.slice x1 l.length y1) l.length (aCells l)) := HR1.out _ (bT (Below.refl _ _) E2.out)
          have R3at4 : Hid (IsRow v2 4 (.slice x3 m.length y3) m.length (aCells m)) := HR3.out _ (Below.refl _ _)
          clear hnn
          refine hK.out _ _ (by rw [← hv3]; exact HTw.out _ D3.out) (fun hHeld => ?_)
          clear hK K
          rw [← hv3] at hHeld ⊢
          clear hv3
          refine wpAnyH_ready (rs := [5]) (by kernel_rfl) (by simp) ?_
          refine (AllReadyH.cons rfl (fun K hK => ?_) AllReadyH.nil)
          all_goals go_simp
          · obtain ⟨v4, hv4⟩ : ∃ v4, v4 = v3.alloc (.cells (evA 0 0 0 ⟨#[]⟩ (.slice none 0 0)) 32) := ⟨_, rfl⟩
            have E4 : Hid (Below v3.heap.size v3 v4) := by show Below _ _ _; rw [hv4]; exact al_b _ _
            have D4 : Hid (Below w4.heap.size w4 v4) := bT D3.out E4.out
            have hnn : v4.heap[v3.heap.size]? = some (.cells zEA 32 (0, 0)) := by rw [hv4]; exact new_at _ _
            have C5 : Hid (∀ W, Below v4.heap.size v4 W → W.heap[v3.heap.size]? = some (.cells zEA 32 (0, 0))) := fun W h => (h.block _ (Array.getElem?_eq_some_iff.1 hnn).1).trans hnn
            have G5 : Hid (w4.heap.size ≤ v3.heap.size) := D3.out.size
            have R1at5 : Hid (IsRow v3 4 (.slice x1 l.length y1) l.length (aCells l)) := HR1.out _ (bT (bT (Below.refl _ _) E2.out) E3.out)
            have R3at5 : Hid (IsRow v3 4 (.slice x3 m.length y3) m.length (aCells m)) := HR3.out _ (bT (Below.refl _ _) E3.out)
            have HMN : Hid (v2.heap.size ≠ v3.heap.size) := by have := (Array.getElem?_eq_some_iff.1 (C4.out _ (Below.refl _ _))).1; show _ ≠ _; omega
            clear hnn
            refine hK.out _ _ (by rw [← hv4]; exact HTw.out _ D4.out) (fun hHeld => ?_)
            clear hK K
            rw [← hv4] at hHeld ⊢
            clear hv4
            have hM := C4.out _ (bT (Below.refl _ _) E4.out)
            have hN := C5.out _ (Below.refl _ _)
            have HRx := HR1.out _ (bT (bT (bT (Below.refl _ _) E2.out) E3.out) E4.out)
            have HRy := HR3.out _ (bT (bT (Below.refl _ _) E3.out) E4.out)
            have HCt := both_of (a := a) (b := b) (c := c) (k := k) (a' := a') (b' := b') (c' := c') (k' := k') D4.out G4.out G5.out HMN.out hM hN HRx HRy (row_lt R1at4.out (Nat.le_refl _)) (row_lt R1at5.out (Nat.le_refl _)) (row_lt R3at4.out (Nat.le_refl _)) (row_lt R3at5.out (Nat.le_refl _))
            have HCt' : Hid _ := HCt
            obtain ⟨⟨m0, m1, m2⟩, m3, m4⟩ := BxV.of hM
            obtain ⟨⟨n0, n1, n2⟩, n3, n4⟩ := BxV.of hN
            have fM : ∀ j, v4.frozen? ⟨v2.heap.size, j, none⟩ = false := fun j => Lib.frozen_of_heap hM j
            have fN : ∀ j, v4.frozen? ⟨v3.heap.size, j, none⟩ = false := fun j => Lib.frozen_of_heap hN j
            have HS0 := HTw.out _ D4.out
            have ne : v3.heap.size ≠ v2.heap.size := Ne.symm HMN.out
            have ne' : v2.heap.size ≠ v3.heap.size := HMN.out
            clear hM hN HRx HRy HCt
            refine wpAnyH_ready (rs := [6]) (by kernel_rfl) (by simp) ?_
            refine AllReadyH.cons rfl (fun K hK => ?_) AllReadyH.nil
            go_simp
            refine hK.out _ _ (TwE.set HS0 (Nat.le_trans HzB.out G4.out) _ _ _ _ _) (fun hHeld => ?_)
            clear hK K
            refine wpAnyH_ready (rs := [7]) (by kernel_rfl) (by simp) ?_
            refine AllReadyH.cons rfl (fun K hK => ?_) AllReadyH.nil
            go_simp
            refine hK.out _ _ (TwE.set (TwE.set HS0 (Nat.le_trans HzB.out G4.out) _ _ _ _ _) (Nat.le_trans HzB.out G5.out) _ _ _ _ _) (fun hHeld => ?_)
            clear hK K
            refine wpAnyH_done (by kernel_rfl) ?_ _
            try go_wp2_with fail
            go_meet
            exact ⟨_, _, _, _, _, _, rfl, rfl, HCt'.out.1, HCt'.out.2⟩
        · obtain ⟨v3, hv3⟩ : ∃ v3, v3 = v2.alloc (.cells (evA 0 0 0 ⟨#[]⟩ (.slice none 0 0)) 32) := ⟨_, rfl⟩
          have E3 : Hid (Below v2.heap.size v2 v3) := by show Below _ _ _; rw [hv3]; exact al_b _ _
          have D3 : Hid (Below w4.heap.size w4 v3) := bT D2.out E3.out
          have hnn : v3.heap[v2.heap.size]? = some (.cells zEA 32 (0, 0)) := by rw [hv3]; exact new_at _ _
          have C5 : Hid (∀ W, Below v3.heap.size v3 W → W.heap[v2.heap.size]? = some (.cells zEA 32 (0, 0))) := fun W h => (h.block _ (Array.getElem?_eq_some_iff.1 hnn).1).trans hnn
          have G5 : Hid (w4.heap.size ≤ v2.heap.size) := D2.out.size
          have R1at5 : Hid (IsRow v2 4 (.slice x1 l.length y1) l.length (aCells l)) := HR1.out _ (bT (Below.refl _ _) E2.out)
          have R3at5 : Hid (IsRow v2 4 (.slice x3 m.length y3) m.length (aCells m)) := HR3.out _ (Below.refl _ _)
          clear hnn
          refine hK.out _ _ (by rw [← hv3]; exact HTw.out _ D3.out) (fun hHeld => ?_)
          clear hK K
          rw [← hv3] at hHeld ⊢
          clear hv3
          refine wpAnyH_ready (rs := [4]) (by kernel_rfl) (by simp) ?_
          refine (AllReadyH.cons rfl (fun K hK => ?_) AllReadyH.nil)
          all_goals go_simp
          · obtain ⟨v4, hv4⟩ : ∃ v4, v4 = v3.alloc (.cells (evA 0 0 0 ⟨#[]⟩ (.slice none 0 0)) 32) := ⟨_, rfl⟩
            have E4 : Hid (Below v3.heap.size v3 v4) := by show Below _ _ _; rw [hv4]; exact al_b _ _
            have D4 : Hid (Below w4.heap.size w4 v4) := bT D3.out E4.out
            have hnn : v4.heap[v3.heap.size]? = some (.cells zEA 32 (0, 0)) := by rw [hv4]; exact new_at _ _
            have C4 : Hid (∀ W, Below v4.heap.size v4 W → W.heap[v3.heap.size]? = some (.cells zEA 32 (0, 0))) := fun W h => (h.block _ (Array.getElem?_eq_some_iff.1 hnn).1).trans hnn
            have G4 : Hid (w4.heap.size ≤ v3.heap.size) := D3.out.size
            have R1at4 : Hid (IsRow v3 4 (.slice x1 l.length y1) l.length (aCells l)) := HR1.out _ (bT (bT (Below.refl _ _) E2.out) E3.out)
            have R3at4 : Hid (IsRow v3 4 (.slice x3 m.length y3) m.length (aCells m)) := HR3.out _ (bT (Below.refl _ _) E3.out)
            have HMN : Hid (v3.heap.size ≠ v2.heap.size) := by have := (Array.getElem?_eq_some_iff.1 (C5.out _ (Below.refl _ _))).1; show _ ≠ _; omega
            clear hnn
            refine hK.out _ _ (by rw [← hv4]; exact HTw.out _ D4.out) (fun hHeld => ?_)
            clear hK K
            rw [← hv4] at hHeld ⊢
            clear hv4
            have hM := C4.out _ (Below.refl _ _)
            have hN := C5.out _ (bT (Below.refl _ _) E4.out)
            have HRx := HR1.out _ (bT (bT (bT (Below.refl _ _) E2.out) E3.out) E4.out)
            have HRy := HR3.out _ (bT (bT (Below.refl _ _) E3.out) E4.out)
            have HCt := both_of (a := a) (b := b) (c := c) (k := k) (a' := a') (b' := b') (c' := c') (k' := k') D4.out G4.out G5.out HMN.out hM hN HRx HRy (row_lt R1at4.out (Nat.le_refl _)) (row_lt R1at5.out (Nat.le_refl _)) (row_lt R3at4.out (Nat.le_refl _)) (row_lt R3at5.out (Nat.le_refl _))
            have HCt' : Hid _ := HCt
            obtain ⟨⟨m0, m1, m2⟩, m3, m4⟩ := BxV.of hM
            obtain ⟨⟨n0, n1, n2⟩, n3, n4⟩ := BxV.of hN
            have fM : ∀ j, v4.frozen? ⟨v3.heap.size, j, none⟩ = false := fun j => Lib.frozen_of_heap hM j
            have fN : ∀ j, v4.frozen? ⟨v2.heap.size, j, none⟩ = false := fun j => Lib.frozen_of_heap hN j
            have HS0 := HTw.out _ D4.out
            have ne : v2.heap.size ≠ v3.heap.size := Ne.symm HMN.out
            have ne' : v3.heap.size ≠ v2.heap.size := HMN.out
            clear hM hN HRx HRy HCt
            refine wpAnyH_ready (rs := [6]) (by kernel_rfl) (by simp) ?_
            refine AllReadyH.cons rfl (fun K hK => ?_) AllReadyH.nil
            go_simp
            refine hK.out _ _ (TwE.set HS0 (Nat.le_trans HzB.out G4.out) _ _ _ _ _) (fun hHeld => ?_)
            clear hK K
            refine wpAnyH_ready (rs := [7]) (by kernel_rfl) (by simp) ?_
            refine AllReadyH.cons rfl (fun K hK => ?_) AllReadyH.nil
            go_simp
            refine hK.out _ _ (TwE.set (TwE.set HS0 (Nat.le_trans HzB.out G4.out) _ _ _ _ _) (Nat.le_trans HzB.out G5.out) _ _ _ _ _) (fun hHeld => ?_)
            clear hK K
            refine wpAnyH_done (by kernel_rfl) ?_ _
            try go_wp2_with fail
            go_meet
            exact ⟨_, _, _, _, _, _, rfl, rfl, HCt'.out.1, HCt'.out.2⟩
      · obtain ⟨v2, hv2⟩ : ∃ v2, v2 = v1.alloc (.cells (evA 0 0 0 ⟨#[]⟩ (.slice none 0 0)) 32) := ⟨_, rfl⟩
        have E2 : Hid (Below v1.heap.size v1 v2) := by show Below _ _ _; rw [hv2]; exact al_b _ _
        have D2 : Hid (Below w4.heap.size w4 v2) := bT D1.out E2.out
        have hnn : v2.heap[v1.heap.size]? = some (.cells zEA 32 (0, 0)) := by rw [hv2]; exact new_at _ _
        have C4 : Hid (∀ W, Below v2.heap.size v2 W → W.heap[v1.heap.size]? = some (.cells zEA 32 (0, 0))) := fun W h => (h.block _ (Array.getElem?_eq_some_iff.1 hnn).1).trans hnn
        have G4 : Hid (w4.heap.size ≤ v1.heap.size) := D1.out.size
        have R1at4 : Hid (IsRow v1 4 (.slice x1 l.length y1) l.length (aCells l)) := HR1.out _ (Below.refl _ _)
        clear hnn
        refine hK.out _ _ (by rw [← hv2]; exact HTw.out _ D2.out) (fun hHeld => ?_)
        clear hK K
        rw [← hv2] at hHeld ⊢
        clear hv2
        refine wpAnyH_ready (rs := [3, 5]) (by kernel_rfl) (by simp) ?_
        refine (AllReadyH.cons rfl (fun K hK => ?_) (AllReadyH.cons rfl (fun K hK => ?_) AllReadyH.nil))
        all_goals go_simp
        · refine (HRb.out _ (HBn.out _ D2.out)).mono ?_
          rintro e v3 ⟨x3, y3, rfl, hrow, hnew, hb⟩
          have E3 : Hid (Below v2.heap.size v2 v3) := hb
          have D3 : Hid (Below w4.heap.size w4 v3) := bT D2.out hb
          have HR3 : Hid (∀ W, Below v3.heap.size v3 W → IsRow W 4 (.slice x3 m.length y3) m.length (aCells m)) := fun W h => hrow.below h
          have N3 : Hid (NewA v2.heap.size x3) := hnew
          have L43 : Hid (v1.heap.size < v2.heap.size) := (Array.getElem?_eq_some_iff.1 (C4.out _ (Below.refl _ _))).1
          clear hrow hnew hb
          go_simp
          refine hK.out _ _ (HTw.out _ D3.out) (fun hHeld => ?_)
          clear hK K
          refine wpAnyH_ready (rs := [5]) (by kernel_rfl) (by simp) ?_
          refine (AllReadyH.cons rfl (fun K hK => ?_) AllReadyH.nil)
          all_goals go_simp
          · obtain ⟨v4, hv4⟩ : ∃ v4, v4 = v3.alloc (.cells (evA 0 0 0 ⟨#[]⟩ (.slice none 0 0)) 32) := ⟨_, rfl⟩
            have E4 : Hid (Below v3.heap.size v3 v4) := by show Below _ _ _; rw [hv4]; exact al_b _ _
            have D4 : Hid (Below w4.heap.size w4 v4) := bT D3.out E4.out
            have hnn : v4.heap[v3.heap.size]? = some (.cells zEA 32 (0, 0)) := by rw [hv4]; exact new_at _ _
            have C5 : Hid (∀ W, Below v4.heap.size v4 W → W.heap[v3.heap.size]? = some (.cells zEA 32 (0, 0))) := fun W h => (h.block _ (Array.getElem?_eq_some_iff.1 hnn).1).trans hnn
            have G5 : Hid (w4.heap.size ≤ v3.heap.size) := D3.out.size
            have R1at5 : Hid (IsRow v3 4 (.slice x1 l.length y1) l.length (aCells l)) := HR1.out _ (bT (bT (Below.refl _ _) E2.out) E3.out)
            have R3at5 : Hid (IsRow v3 4 (.slice x3 m.length y3) m.length (aCells m)) := HR3.out _ (Below.refl _ _)
            have HMN : Hid (v1.heap.size ≠ v3.heap.size) := by have := (Array.getElem?_eq_some_iff.1 (C4.out _ (bT (Below.refl _ _) E3.out))).1; show _ ≠ _; omega
            clear hnn
            refine hK.out _ _ (by rw [← hv4]; exact HTw.out _ D4.out) (fun hHeld => ?_)
            clear hK K
            rw [← hv4] at hHeld ⊢
            clear hv4
            have hM := C4.out _ (bT (bT (Below.refl _ _) E3.out) E4.out)
            have hN := C5.out _ (Below.refl _ _)
            have HRx := HR1.out _ (bT (bT (bT (Below.refl _ _) E2.out) E3.out) E4.out)
            have HRy := HR3.out _ (bT (Below.refl _ _) E4.out)
            have HCt := both_of (a := a) (b := b) (c := c) (k := k) (a' := a') (b' := b') (c' := c') (k' := k') D4.out G4.out G5.out HMN.out hM hN HRx HRy (row_lt R1at4.out (Nat.le_refl _)) (row_lt R1at5.out (Nat.le_refl _)) (row_new N3.out (by have := L43.out; exact this)) (row_lt R3at5.out (Nat.le_refl _))
            have HCt' : Hid _ := HCt
            obtain ⟨⟨m0, m1, m2⟩, m3, m4⟩ := BxV.of hM
            obtain ⟨⟨n0, n1, n2⟩, n3, n4⟩ := BxV.of hN
            have fM : ∀ j, v4.frozen? ⟨v1.heap.size, j, none⟩ = false := fun j => Lib.frozen_of_heap hM j
            have fN : ∀ j, v4.frozen? ⟨v3.heap.size, j, none⟩ = false := fun j => Lib.frozen_of_heap hN j
            have HS0 := HTw.out _ D4.out
            have ne : v3.heap.size ≠ v1.heap.size := Ne.symm HMN.out
            have ne' : v1.heap.size ≠ v3.heap.size := HMN.out
            clear hM hN HRx HRy HCt
            refine wpAnyH_ready (rs := [6]) (by kernel_rfl) (by simp) ?_
            refine AllReadyH.cons rfl (fun K hK => ?_) AllReadyH.nil
            go_simp
            refine hK.out _ _ (TwE.set HS0 (Nat.le_trans HzB.out G4.out) _ _ _ _ _) (fun hHeld => ?_)
            clear hK K
            refine wpAnyH_ready (rs := [7]) (by kernel_rfl) (by simp) ?_
            refine AllReadyH.cons rfl (fun K hK => ?_) AllReadyH.nil
            go_simp
            refine hK.out _ _ (TwE.set (TwE.set HS0 (Nat.le_trans HzB.out G4.out) _ _ _ _ _) (Nat.le_trans HzB.out G5.out) _ _ _ _ _) (fun hHeld => ?_)
            clear hK K
            refine wpAnyH_done (by kernel_rfl) ?_ _
            try go_wp2_with fail
            go_meet
            exact ⟨_, _, _, _, _, _, rfl, rfl, HCt'.out.1, HCt'.out.2⟩
        · obtain ⟨v3, hv3⟩ : ∃ v3, v3 = v2.alloc (.cells (evA 0 0 0 ⟨#[]⟩ (.slice none 0 0)) 32) := ⟨_, rfl⟩
          have E3 : Hid (Below v2.heap.size v2 v3) := by show Below _ _ _; rw [hv3]; exact al_b _ _
          have D3 : Hid (Below w4.heap.size w4 v3) := bT D2.out E3.out
          have hnn : v3.heap[v2.heap.size]? = some (.cells zEA 32 (0, 0)) := by rw [hv3]; exact new_at _ _
          have C5 : Hid (∀ W, Below v3.heap.size v3 W → W.heap[v2.heap.size]? = some (.cells zEA 32 (0, 0))) := fun W h => (h.block _ (Array.getElem?_eq_some_iff.1 hnn).1).trans hnn
          have G5 : Hid (w4.heap.size ≤ v2.heap.size) := D2.out.size
          have R1at5 : Hid (IsRow v2 4 (.slice x1 l.length y1) l.length (aCells l)) := HR1.out _ (bT (Below.refl _ _) E2.out)
          have HMN : Hid (v1.heap.size ≠ v2.heap.size) := by have := (Array.getElem?_eq_some_iff.1 (C4.out _ (Below.refl _ _))).1; show _ ≠ _; omega
          clear hnn
          refine hK.out _ _ (by rw [← hv3]; exact HTw.out _ D3.out) (fun hHeld => ?_)
          clear hK K
          rw [← hv3] at hHeld ⊢
          clear hv3
          refine wpAnyH_ready (rs := [3]) (by kernel_rfl) (by simp) ?_
          refine (AllReadyH.cons rfl (fun K hK => ?_) AllReadyH.nil)
          all_goals go_simp
          · refine (HRb.out _ (HBn.out _ D3.out)).mono ?_
            rintro e v4 ⟨x3, y3, rfl, hrow, hnew, hb⟩
            have E4 : Hid (Below v3.heap.size v3 v4) := hb
            have D4 : Hid (Below w4.heap.size w4 v4) := bT D3.out hb
            have HR3 : Hid (∀ W, Below v4.heap.size v4 W → IsRow W 4 (.slice x3 m.length y3) m.length (aCells m)) := fun W h => hrow.below h
            have N3 : Hid (NewA v3.heap.size x3) := hnew
            have L43 : Hid (v1.heap.size < v3.heap.size) := (Array.getElem?_eq_some_iff.1 (C4.out _ (bT (Below.refl _ _) E3.out))).1
            have L53 : Hid (v2.heap.size < v3.heap.size) := (Array.getElem?_eq_some_iff.1 (C5.out _ (Below.refl _ _))).1
            clear hrow hnew hb
            go_simp
            refine hK.out _ _ (HTw.out _ D4.out) (fun hHeld => ?_)
            clear hK K
            have hM := C4.out _ (bT (bT (Below.refl _ _) E3.out) E4.out)
            have hN := C5.out _ (bT (Below.refl _ _) E4.out)
            have HRx := HR1.out _ (bT (bT (bT (Below.refl _ _) E2.out) E3.out) E4.out)
            have HRy := HR3.out _ (Below.refl _ _)
            have HCt := both_of (a := a) (b := b) (c := c) (k := k) (a' := a') (b' := b') (c' := c') (k' := k') D4.out G4.out G5.out HMN.out hM hN HRx HRy (row_lt R1at4.out (Nat.le_refl _)) (row_lt R1at5.out (Nat.le_refl _)) (row_new N3.out (by have := L43.out; exact this)) (row_new N3.out (by have := L53.out; exact this))
            have HCt' : Hid _ := HCt
            obtain ⟨⟨m0, m1, m2⟩, m3, m4⟩ := BxV.of hM
            obtain ⟨⟨n0, n1, n2⟩, n3, n4⟩ := BxV.of hN
            have fM : ∀ j, v4.frozen? ⟨v1.heap.size, j, none⟩ = false := fun j => Lib.frozen_of_heap hM j
            have fN : ∀ j, v4.frozen? ⟨v2.heap.size, j, none⟩ = false := fun j => Lib.frozen_of_heap hN j
            have HS0 := HTw.out _ D4.out
            have ne : v2.heap.size ≠ v1.heap.size := Ne.symm HMN.out
            have ne' : v1.heap.size ≠ v2.heap.size := HMN.out
            clear hM hN HRx HRy HCt
            refine wpAnyH_ready (rs := [6]) (by kernel_rfl) (by simp) ?_
            refine AllReadyH.cons rfl (fun K hK => ?_) AllReadyH.nil
            go_simp
            refine hK.out _ _ (TwE.set HS0 (Nat.le_trans HzB.out G4.out) _ _ _ _ _) (fun hHeld => ?_)
            clear hK K
            refine wpAnyH_ready (rs := [7]) (by kernel_rfl) (by simp) ?_
            refine AllReadyH.cons rfl (fun K hK => ?_) AllReadyH.nil
            go_simp
            refine hK.out _ _ (TwE.set (TwE.set HS0 (Nat.le_trans HzB.out G4.out) _ _ _ _ _) (Nat.le_trans HzB.out G5.out) _ _ _ _ _) (fun hHeld => ?_)
            clear hK K
            refine wpAnyH_done (by kernel_rfl) ?_ _
            try go_wp2_with fail
            go_meet
            exact ⟨_, _, _, _, _, _, rfl, rfl, HCt'.out.1, HCt'.out.2⟩
      · obtain ⟨v2, hv2⟩ : ∃ v2, v2 = v1.alloc (.cells (evA 0 0 0 ⟨#[]⟩ (.slice none 0 0)) 32) := ⟨_, rfl⟩
        have E2 : Hid (Below v1.heap.size v1 v2) := by show Below _ _ _; rw [hv2]; exact al_b _ _
        have D2 : Hid (Below w4.heap.size w4 v2) := bT D1.out E2.out
        have hnn : v2.heap[v1.heap.size]? = some (.cells zEA 32 (0, 0)) := by rw [hv2]; exact new_at _ _
        have C5 : Hid (∀ W, Below v2.heap.size v2 W → W.heap[v1.heap.size]? = some (.cells zEA 32 (0, 0))) := fun W h => (h.block _ (Array.getElem?_eq_some_iff.1 hnn).1).trans hnn
        have G5 : Hid (w4.heap.size ≤ v1.heap.size) := D1.out.size
        have R1at5 : Hid (IsRow v1 4 (.slice x1 l.length y1) l.length (aCells l)) := HR1.out _ (Below.refl _ _)
        clear hnn
        refine hK.out _ _ (by rw [← hv2]; exact HTw.out _ D2.out) (fun hHeld => ?_)
        clear hK K
        rw [← hv2] at hHeld ⊢
        clear hv2
        refine wpAnyH_ready (rs := [3, 4]) (by kernel_rfl) (by simp) ?_
        refine (AllReadyH.cons rfl (fun K hK => ?_) (AllReadyH.cons rfl (fun K hK => ?_) AllReadyH.nil))
        all_goals go_simp
        · refine (HRb.out _ (HBn.out _ D2.out)).mono ?_
          rintro e v3 ⟨x3, y3, rfl, hrow, hnew, hb⟩
          have E3 : Hid (Below v2.heap.size v2 v3) := hb
          have D3 : Hid (Below w4.heap.size w4 v3) := bT D2.out hb
          have HR3 : Hid (∀ W, Below v3.heap.size v3 W → IsRow W 4 (.slice x3 m.length y3) m.length (aCells m)) := fun W h => hrow.below h
          have N3 : Hid (NewA v2.heap.size x3) := hnew
          have L53 : Hid (v1.heap.size < v2.heap.size) := (Array.getElem?_eq_some_iff.1 (C5.out _ (Below.refl _ _))).1
          clear hrow hnew hb
          go_simp
          refine hK.out _ _ (HTw.out _ D3.out) (fun hHeld => ?_)
          clear hK K
          refine wpAnyH_ready (rs := [4]) (by kernel_rfl) (by simp) ?_
          refine (AllReadyH.cons rfl (fun K hK => ?_) AllReadyH.nil)
          all_goals go_simp
          · obtain ⟨v4, hv4⟩ : ∃ v4, v4 = v3.alloc (.cells (evA 0 0 0 ⟨#[]⟩ (.slice none 0 0)) 32) := ⟨_, rfl⟩
            have E4 : Hid (Below v3.heap.size v3 v4) := by show Below _ _ _; rw [hv4]; exact al_b _ _
            have D4 : Hid (Below w4.heap.size w4 v4) := bT D3.out E4.out
            have hnn : v4.heap[v3.heap.size]? = some (.cells zEA 32 (0, 0)) := by rw [hv4]; exact new_at _ _
            have C4 : Hid (∀ W, Below v4.heap.size v4 W → W.heap[v3.heap.size]? = some (.cells zEA 32 (0, 0))) := fun W h => (h.block _ (Array.getElem?_eq_some_iff.1 hnn).1).trans hnn
            have G4 : Hid (w4.heap.size ≤ v3.heap.size) := D3.out.size
            have R1at4 : Hid (IsRow v3 4 (.slice x1 l.length y1) l.length (aCells l)) := HR1.out _ (bT (bT (Below.refl _ _) E2.out) E3.out)
            have R3at4 : Hid (IsRow v3 4 (.slice x3 m.length y3) m.length (aCells m)) := HR3.out _ (Below.refl _ _)
            have HMN : Hid (v3.heap.size ≠ v1.heap.size) := by have := (Array.getElem?_eq_some_iff.1 (C5.out _ (bT (Below.refl _ _) E3.out))).1; show _ ≠ _; omega
            clear hnn
            refine hK.out _ _ (by rw [← hv4]; exact HTw.out _ D4.out) (fun hHeld => ?_)
            clear hK K
            rw [← hv4] at hHeld ⊢
            clear hv4
            have hM := C4.out _ (Below.refl _ _)
            have hN := C5.out _ (bT (bT (Below.refl _ _) E3.out) E4.out)
            have HRx := HR1.out _ (bT (bT (bT (Below.refl _ _) E2.out) E3.out) E4.out)
            have HRy := HR3.out _ (bT (Below.refl _ _) E4.out)
            have HCt := both_of (a := a) (b := b) (c := c) (k := k) (a' := a') (b' := b') (c' := c') (k' := k') D4.out G4.out G5.out HMN.out hM hN HRx HRy (row_lt R1at4.out (Nat.le_refl _)) (row_lt R1at5.out (Nat.le_refl _)) (row_lt R3at4.out (Nat.le_refl _)) (row_new N3.out (by have := L53.out; exact this))
            have HCt' : Hid _ := HCt
            obtain ⟨⟨m0, m1, m2⟩, m3, m4⟩ := BxV.of hM
            obtain ⟨⟨n0, n1, n2⟩, n3, n4⟩ := BxV.of hN
            have fM : ∀ j, v4.frozen? ⟨v3.heap.size, j, none⟩ = false := fun j => Lib.frozen_of_heap hM j
            have fN : ∀ j, v4.frozen? ⟨v1.heap.size, j, none⟩ = false := fun j => Lib.frozen_of_heap hN j
            have HS0 := HTw.out _ D4.out
            have ne : v1.heap.size ≠ v3.heap.size := Ne.symm HMN.out
            have ne' : v3.heap.size ≠ v1.heap.size := HMN.out
            clear hM hN HRx HRy HCt
            refine wpAnyH_ready (rs := [6]) (by kernel_rfl) (by simp) ?_
            refine AllReadyH.cons rfl (fun K hK => ?_) AllReadyH.nil
            go_simp
            refine hK.out _ _ (TwE.set HS0 (Nat.le_trans HzB.out G4.out) _ _ _ _ _) (fun hHeld => ?_)
            clear hK K
            refine wpAnyH_ready (rs := [7]) (by kernel_rfl) (by simp) ?_
            refine AllReadyH.cons rfl (fun K hK => ?_) AllReadyH.nil
            go_simp
            refine hK.out _ _ (TwE.set (TwE.set HS0 (Nat.le_trans HzB.out G4.out) _ _ _ _ _) (Nat.le_trans HzB.out G5.out) _ _ _ _ _) (fun hHeld => ?_)
            clear hK K
            refine wpAnyH_done (by kernel_rfl) ?_ _
            try go_wp2_with fail
            go_meet
            exact ⟨_, _, _, _, _, _, rfl, rfl, HCt'.out.1, HCt'.out.2⟩
        · obtain ⟨v3, hv3⟩ : ∃ v3, v3 = v2.alloc (.cells (evA 0 0 0 ⟨#[]⟩ (.slice none 0 0)) 32) := ⟨_, rfl⟩
          have E3 : Hid (Below v2.heap.size v2 v3) := by show Below _ _ _; rw [hv3]; exact al_b _ _
          have D3 : Hid (Below w4.heap.size w4 v3) := bT D2.out E3.out
          have hnn : v3.heap[v2.heap.size]? = some (.cells zEA 32 (0, 0)) := by rw [hv3]; exact new_at _ _
          have C4 : Hid (∀ W, Below v3.heap.size v3 W → W.heap[v2.heap.size]? = some (.cells zEA 32 (0, 0))) := fun W h => (h.block _ (Array.getElem?_eq_some_iff.1 hnn).1).trans hnn
          have G4 : Hid (w4.heap.size ≤ v2.heap.size) := D2.out.size
          have R1at4 : Hid (IsRow v2 4 (.slice x1 l.length y1) l.length (aCells l)) := HR1.out _ (bT (Below.refl _ _) E2.out)
          have HMN : Hid (v2.heap.size ≠ v1.heap.size) := by have := (Array.getElem?_eq_some_iff.1 (C5.out _ (Below.refl _ _))).1; show _ ≠ _; omega
          clear hnn
          refine hK.out _ _ (by rw [← hv3]; exact HTw.out _ D3.out) (fun hHeld => ?_)
          clear hK K
          rw [← hv3] at hHeld ⊢
          clear hv3
          refine wpAnyH_ready (rs := [3]) (by kernel_rfl) (by simp) ?_
          refine (AllReadyH.cons rfl (fun K hK => ?_) AllReadyH.nil)
          all_goals go_simp
          · refine (HRb.out _ (HBn.out _ D3.out)).mono ?_
            rintro e v4 ⟨x3, y3, rfl, hrow, hnew, hb⟩
            have E4 : Hid (Below v3.heap.size v3 v4) := hb
            have D4 : Hid (Below w4.heap.size w4 v4) := bT D3.out hb
            have HR3 : Hid (∀ W, Below v4.heap.size v4 W → IsRow W 4 (.slice x3 m.length y3) m.length (aCells m)) := fun W h => hrow.below h
            have N3 : Hid (NewA v3.heap.size x3) := hnew
            have L43 : Hid (v2.heap.size < v3.heap.size) := (Array.getElem?_eq_some_iff.1 (C4.out _ (Below.refl _ _))).1
            have L53 : Hid (v1.heap.size < v3.heap.size) := (Array.getElem?_eq_some_iff.1 (C5.out _ (bT (Below.refl _ _) E3.out))).1
            clear hrow hnew hb
            go_simp
            refine hK.out _ _ (HTw.out _ D4.out) (fun hHeld => ?_)
            clear hK K
            have hM := C4.out _ (bT (Below.refl _ _) E4.out)
            have hN := C5.out _ (bT (bT (Below.refl _ _) E3.out) E4.out)
            have HRx := HR1.out _ (bT (bT (bT (Below.refl _ _) E2.out) E3.out) E4.out)
            have HRy := HR3.out _ (Below.refl _ _)
            have HCt := both_of (a := a) (b := b) (c := c) (k := k) (a' := a') (b' := b') (c' := c') (k' := k') D4.out G4.out G5.out HMN.out hM hN HRx HRy (row_lt R1at4.out (Nat.le_refl _)) (row_lt R1at5.out (Nat.le_refl _)) (row_new N3.out (by have := L43.out; exact this)) (row_new N3.out (by have := L53.out; exact this))
            have HCt' : Hid _ := HCt
            obtain ⟨⟨m0, m1, m2⟩, m3, m4⟩ := BxV.of hM
            obtain ⟨⟨n0, n1, n2⟩, n3, n4⟩ := BxV.of hN
            have fM : ∀ j, v4.frozen? ⟨v2.heap.size, j, none⟩ = false := fun j => Lib.frozen_of_heap hM j
            have fN : ∀ j, v4.frozen? ⟨v1.heap.size, j, none⟩ = false := fun j => Lib.frozen_of_heap hN j
            have HS0 := HTw.out _ D4.out
            have ne : v1.heap.size ≠ v2.heap.size := Ne.symm HMN.out
            have ne' : v2.heap.size ≠ v1.heap.size := HMN.out
            clear hM hN HRx HRy HCt
            refine wpAnyH_ready (rs := [6]) (by kernel_rfl) (by simp) ?_
            refine AllReadyH.cons rfl (fun K hK => ?_) AllReadyH.nil
            go_simp
            refine hK.out _ _ (TwE.set HS0 (Nat.le_trans HzB.out G4.out) _ _ _ _ _) (fun hHeld => ?_)
            clear hK K
            refine wpAnyH_ready (rs := [7]) (by kernel_rfl) (by simp) ?_
            refine AllReadyH.cons rfl (fun K hK => ?_) AllReadyH.nil
            go_simp
            refine hK.out _ _ (TwE.set (TwE.set HS0 (Nat.le_trans HzB.out G4.out) _ _ _ _ _) (Nat.le_trans HzB.out G5.out) _ _ _ _ _) (fun hHeld => ?_)
            clear hK K
            refine wpAnyH_done (by kernel_rfl) ?_ _
            try go_wp2_with fail
            go_meet
            exact ⟨_, _, _, _, _, _, rfl, rfl, HCt'.out.1, HCt'.out.2⟩
    · obtain ⟨v1, hv1⟩ : ∃ v1, v1 = v0.alloc (.cells (evA 0 0 0 ⟨#[]⟩ (.slice none 0 0)) 32) := ⟨_, rfl⟩
      have E1 : Hid (Below v0.heap.size v0 v1) := by show Below _ _ _; rw [hv1]; exact al_b _ _
      have D1 : Hid (Below w4.heap.size w4 v1) := bT Hd.out E1.out
      have hnn : v1.heap[v0.heap.size]? = some (.cells zEA 32 (0, 0)) := by rw [hv1]; exact new_at _ _
      have C4 : Hid (∀ W, Below v1.heap.size v1 W → W.heap[v0.heap.size]? = some (.cells zEA 32 (0, 0))) := fun W h => (h.block _ (Array.getElem?_eq_some_iff.1 hnn).1).trans hnn
      have G4 : Hid (w4.heap.size ≤ v0.heap.size) := Hd.out.size
      clear hnn
      refine hK.out _ _ (by rw [← hv1]; exact HTw.out _ D1.out) (fun hHeld => ?_)
      clear hK K
      rw [← hv1] at hHeld ⊢
      clear hv1
      refine wpAnyH_ready (rs := [1, 5]) (by kernel_rfl) (by simp) ?_
      refine (AllReadyH.cons rfl (fun K hK => ?_) (AllReadyH.cons rfl (fun K hK => ?_) AllReadyH.nil))
      all_goals go_simp
      · refine (HRa.out _ (HBn.out _ D1.out)).mono ?_
        rintro e v2 ⟨x1, y1, rfl, hrow, hnew, hb⟩
        have E2 : Hid (Below v1.heap.size v1 v2) := hb
        have D2 : Hid (Below w4.heap.size w4 v2) := bT D1.out hb
        have HR1 : Hid (∀ W, Below v2.heap.size v2 W → IsRow W 4 (.slice x1 l.length y1) l.length (aCells l)) := fun W h => hrow.below h
        have N1 : Hid (NewA v1.heap.size x1) := hnew
        have L41 : Hid (v0.heap.size < v1.heap.size) := (Array.getElem?_eq_some_iff.1 (C4.out _ (Below.refl _ _))).1
        clear hrow hnew hb
        go_simp
        refine hK.out _ _ (HTw.out _ D2.out) (fun hHeld => ?_)
        clear hK K
        refine wpAnyH_ready (rs := [3, 5]) (by kernel_rfl) (by simp) ?_
        refine (AllReadyH.cons rfl (fun K hK => ?_) (AllReadyH.cons rfl (fun K hK => ?_) AllReadyH.nil))
        all_goals go_simp
        · refine (HRb.out _ (HBn.out _ D2.out)).mono ?_
          rintro e v3 ⟨x3, y3, rfl, hrow, hnew, hb⟩
          have E3 : Hid (Below v2.heap.size v2 v3) := hb
          have D3 : Hid (Below w4.heap.size w4 v3) := bT D2.out hb
          have HR3 : Hid (∀ W, Below v3.heap.size v3 W → IsRow W 4 (.slice x3 m.length y3) m.length (aCells m)) := fun W h => hrow.below h
          have N3 : Hid (NewA v2.heap.size x3) := hnew
          have L43 : Hid (v0.heap.size < v2.heap.size) := (Array.getElem?_eq_some_iff.1 (C4.out _ (bT (Below.refl _ _) E2.out))).1
          clear hrow hnew hb
          go_simp
          refine hK.out _ _ (HTw.out _ D3.out) (fun hHeld => ?_)
          clear hK K
          refine wpAnyH_ready (rs := [5]) (by kernel_rfl) (by simp) ?_
          refine (AllReadyH.cons rfl (fun K hK => ?_) AllReadyH.nil)
          all_goals go_simp
          · obtain ⟨v4, hv4⟩ : ∃ v4, v4 = v3.alloc (.cells (evA 0 0 0 ⟨#[]⟩ (.slice none 0 0)) 32) := ⟨_, rfl⟩
            have E4 : Hid (Below v3.heap.size v3 v4) := by show Below _ _ _; rw [hv4]; exact al_b _ _
            have D4 : Hid (Below w4.heap.size w4 v4) := bT D3.out E4.out
            have hnn : v4.heap[v3.heap.size]? = some (.cells zEA 32 (0, 0)) := by rw [hv4]; exact new_at _ _
            have C5 : Hid (∀ W, Below v4.heap.size v4 W → W.heap[v3.heap.size]? = some (.cells zEA 32 (0, 0))) := fun W h => (h.block _ (Array.getElem?_eq_some_iff.1 hnn).1).trans hnn
            have G5 : Hid (w4.heap.size ≤ v3.heap.size) := D3.out.size
            have R1at5 : Hid (IsRow v3 4 (.slice x1 l.length y1) l.length (aCells l)) := HR1.out _ (bT (Below.refl _ _) E3.out)
            have R3at5 : Hid (IsRow v3 4 (.slice x3 m.length y3) m.length (aCells m)) := HR3.out _ (Below.refl _ _)
            have HMN : Hid (v0.heap.size ≠ v3.heap.size) := by have := (Array.getElem?_eq_some_iff.1 (C4.out _ (bT (bT (Below.refl _ _) E2.out) E3.out))).1; show _ ≠ _; omega
            clear hnn
            refine hK.out _ _ (by rw [← hv4]; exact HTw.out _ D4.out) (fun hHeld => ?_)
            clear hK K
            rw [← hv4] at hHeld ⊢
            clear hv4
            have hM := C4.out _ (bT (bT (bT (Below.refl _ _) E2.out) E3.out) E4.out)
            have hN := C5.out _ (Below.refl _ _)
            have HRx := HR1.out _ (bT (bT (Below.refl _ _) E3.out) E4.out)
            have HRy := HR3.out _ (bT (Below.refl _ _) E4.out)
            have HCt := both_of (a := a) (b := b) (c := c) (k := k) (a' := a') (b' := b') (c' := c') (k' := k') D4.out G4.out G5.out HMN.out hM hN HRx HRy (row_new N1.out (by have := L41.out; exact this)) (row_lt R1at5.out (Nat.le_refl _)) (row_new N3.out (by have := L43.out; exact this)) (row_lt R3at5.out (Nat.le_refl _))
            have HCt' : Hid _ := HCt
            obtain ⟨⟨m0, m1, m2⟩, m3, m4⟩ := BxV.of hM
            obtain ⟨⟨n0, n1, n2⟩, n3, n4⟩ := BxV.of hN
            have fM : ∀ j, v4.frozen? ⟨v0.heap.size, j, none⟩ = false := fun j => Lib.frozen_of_heap hM j
            have fN : ∀ j, v4.frozen? ⟨v3.heap.size, j, none⟩ = false := fun j => Lib.frozen_of_heap hN j
            have HS0 := HTw.out _ D4.out
            have ne : v3.heap.size ≠ v0.heap.size := Ne.symm HMN.out
            have ne' : v0.heap.size ≠ v3.heap.size := HMN.out
            clear hM hN HRx HRy HCt
            refine wpAnyH_ready (rs := [6]) (by kernel_rfl) (by simp) ?_
            refine AllReadyH.cons rfl (fun K hK => ?_) AllReadyH.nil
            go_simp
            refine hK.out _ _ (TwE.set HS0 (Nat.le_trans HzB.out G4.out) _ _ _ _ _) (fun hHeld => ?_)
            clear hK K
            refine wpAnyH_ready (rs := [7]) (by kernel_rfl) (by simp) ?_
            refine AllReadyH.cons rfl (fun K hK => ?_) AllReadyH.nil
            go_simp
            refine hK.out _ _ (TwE.set (TwE.set HS0 (Nat.le_trans HzB.out G4.out) _ _ _ _ _) (Nat.le_trans HzB.out G5.out) _ _ _ _ _) (fun hHeld => ?_)
            clear hK K
            refine wpAnyH_done (by kernel_rfl) ?_ _
            try go_wp2_with fail
            go_meet
            exact ⟨_, _, _, _, _, _, rfl, rfl, HCt'.out.1, HCt'.out.2⟩
        · obtain ⟨v3, hv3⟩ : ∃ v3, v3 = v2.alloc (.cells (evA 0 0 0 ⟨#[]⟩ (.slice none 0 0)) 32) := ⟨_, rfl⟩
          have E3 : Hid (Below v2.heap.size v2 v3) := by show Below _ _ _; rw [hv3]; exact al_b _ _
          have D3 : Hid (Below w4.heap.size w4 v3) := bT D2.out E3.out
          have hnn : v3.heap[v2.heap.size]? = some (.cells zEA 32 (0, 0)) := by rw [hv3]; exact new_at _ _
          have C5 : Hid (∀ W, Below v3.heap.size v3 W → W.heap[v2.heap.size]? = some (.cells zEA 32 (0, 0))) := fun W h => (h.block _ (Array.getElem?_eq_some_iff.1 hnn).1).trans hnn
          have G5 : Hid (w4.heap.size ≤ v2.heap.size) := D2.out.size
          have R1at5 : Hid (IsRow v2 4 (.slice x1 l.length y1) l.length (aCells l)) := HR1.out _ (Below.refl _ _)
          have HMN : Hid (v0.heap.size ≠ v2.heap.size) := by have := (Array.getElem?_eq_some_iff.1 (C4.out _ (bT (Below.refl _ _) E2.out))).1; show _ ≠ _; omega
          clear hnn
          refine hK.out _ _ (by rw [← hv3]; exact HTw.out _ D3.out) (fun hHeld => ?_)
          clear hK K
          rw [← hv3] at hHeld ⊢
          clear hv3
          refine wpAnyH_ready (rs := [3]) (by kernel_rfl) (by simp) ?_
          refine (AllReadyH.cons rfl (fun K hK => ?_) AllReadyH.nil)
          all_goals go_simp
          · refine (HRb.out _ (HBn.out _ D3.out)).mono ?_
            rintro e v4 ⟨x3, y3, rfl, hrow, hnew, hb⟩
            have E4 : Hid (Below v3.heap.size v3 v4) := hb
            have D4 : Hid (Below w4.heap.size w4 v4) := bT D3.out hb
            have HR3 : Hid (∀ W, Below v4.heap.size v4 W → IsRow W 4 (.slice x3 m.length y3) m.length (aCells m)) := fun W h => hrow.below h
            have N3 : Hid (NewA v3.heap.size x3) := hnew
            have L43 : Hid (v0.heap.size < v3.heap.size) := (Array.getElem?_eq_some_iff.1 (C4.out _ (bT (bT (Below.refl _ _) E2.out) E3.out))).1
            have L53 : Hid (v2.heap.size < v3.heap.size) := (Array.getElem?_eq_some_iff.1 (C5.out _ (Below.refl _ _))).1
            clear hrow hnew hb
            go_simp
            refine hK.out _ _ (HTw.out _ D4.out) (fun hHeld => ?_)
            clear hK K
            have hM := C4.out _ (bT (bT (bT (Below.refl _ _) E2.out) E3.out) E4.out)
            have hN := C5.out _ (bT (Below.refl _ _) E4.out)
            have HRx := HR1.out _ (bT (bT (Below.refl _ _) E3.out) E4.out)
            have HRy := HR3.out _ (Below.refl _ _)
            have HCt := both_of (a := a) (b := b) (c := c) (k := k) (a' := a') (b' := b') (c' := c') (k' := k') D4.out G4.out G5.out HMN.out hM hN HRx HRy (row_new N1.out (by have := L41.out; exact this)) (row_lt R1at5.out (Nat.le_refl _)) (row_new N3.out (by have := L43.out; exact this)) (row_new N3.out (by have := L53.out; exact this))
            have HCt' : Hid _ := HCt
            obtain ⟨⟨m0, m1, m2⟩, m3, m4⟩ := BxV.of hM
            obtain ⟨⟨n0, n1, n2⟩, n3, n4⟩ := BxV.of hN
            have fM : ∀ j, v4.frozen? ⟨v0.heap.size, j, none⟩ = false := fun j => Lib.frozen_of_heap hM j
            have fN : ∀ j, v4.frozen? ⟨v2.heap.size, j, none⟩ = false := fun j => Lib.frozen_of_heap hN j
            have HS0 := HTw.out _ D4.out
            have ne : v2.heap.size ≠ v0.heap.size := Ne.symm HMN.out
            have ne' : v0.heap.size ≠ v2.heap.size := HMN.out
            clear hM hN HRx HRy HCt
            refine wpAnyH_ready (rs := [6]) (by kernel_rfl) (by simp) ?_
            refine AllReadyH.cons rfl (fun K hK => ?_) AllReadyH.nil
            go_simp
            refine hK.out _ _ (TwE.set HS0 (Nat.le_trans HzB.out G4.out) _ _ _ _ _) (fun hHeld => ?_)
            clear hK K
            refine wpAnyH_ready (rs := [7]) (by kernel_rfl) (by simp) ?_
            refine AllReadyH.cons rfl (fun K hK => ?_) AllReadyH.nil
            go_simp
            refine hK.out _ _ (TwE.set (TwE.set HS0 (Nat.le_trans HzB.out G4.out) _ _ _ _ _) (Nat.le_trans HzB.out G5.out) _ _ _ _ _) (fun hHeld => ?_)
            clear hK K
            refine wpAnyH_done (by kernel_rfl) ?_ _
            try go_wp2_with fail
            go_meet
            exact ⟨_, _, _, _, _, _, rfl, rfl, HCt'.out.1, HCt'.out.2⟩
      · obtain ⟨v2, hv2⟩ : ∃ v2, v2 = v1.alloc (.cells (evA 0 0 0 ⟨#[]⟩ (.slice none 0 0)) 32) := ⟨_, rfl⟩
        have E2 : Hid (Below v1.heap.size v1 v2) := by show Below _ _ _; rw [hv2]; exact al_b _ _
        have D2 : Hid (Below w4.heap.size w4 v2) := bT D1.out E2.out
        have hnn : v2.heap[v1.heap.size]? = some (.cells zEA 32 (0, 0)) := by rw [hv2]; exact new_at _ _
        have C5 : Hid (∀ W, Below v2.heap.size v2 W → W.heap[v1.heap.size]? = some (.cells zEA 32 (0, 0))) := fun W h => (h.block _ (Array.getElem?_eq_some_iff.1 hnn).1).trans hnn
        have G5 : Hid (w4.heap.size ≤ v1.heap.size) := D1.out.size
        have HMN : Hid (v0.heap.size ≠ v1.heap.size) := by have := (Array.getElem?_eq_some_iff.1 (C4.out _ (Below.refl _ _))).1; show _ ≠ _; omega
        clear hnn
        refine hK.out _ _ (by rw [← hv2]; exact HTw.out _ D2.out) (fun hHeld => ?_)
        clear hK K
        rw [← hv2] at hHeld ⊢
        clear hv2
        refine wpAnyH_ready (rs := [1]) (by kernel_rfl) (by simp) ?_
        refine (AllReadyH.cons rfl (fun K hK => ?_) AllReadyH.nil)
        all_goals go_simp
        · refine (HRa.out _ (HBn.out _ D2.out)).mono ?_
          rintro e v3 ⟨x1, y1, rfl, hrow, hnew, hb⟩
          have E3 : Hid (Below v2.heap.size v2 v3) := hb
          have D3 : Hid (Below w4.heap.size w4 v3) := bT D2.out hb
          have HR1 : Hid (∀ W, Below v3.heap.size v3 W → IsRow W 4 (.slice x1 l.length y1) l.length (aCells l)) := fun W h => hrow.below h
          have N1 : Hid (NewA v2.heap.size x1) := hnew
          have L41 : Hid (v0.heap.size < v2.heap.size) := (Array.getElem?_eq_some_iff.1 (C4.out _ (bT (Below.refl _ _) E2.out))).1
          have L51 : Hid (v1.heap.size < v2.heap.size) := (Array.getElem?_eq_some_iff.1 (C5.out _ (Below.refl _ _))).1
          clear hrow hnew hb
          go_simp
          refine hK.out _ _ (HTw.out _ D3.out) (fun hHeld => ?_)
          clear hK K
          refine wpAnyH_ready (rs := [3]) (by kernel_rfl) (by simp) ?_
          refine (AllReadyH.cons rfl (fun K hK => ?_) AllReadyH.nil)
          all_goals go_simp
          · refine (HRb.out _ (HBn.out _ D3.out)).mono ?_
            rintro e v4 ⟨x3, y3, rfl, hrow, hnew, hb⟩
            have E4 : Hid (Below v3.heap.size v3 v4) := hb
            have D4 : Hid (Below w4.heap.size w4 v4) := bT D3.out hb
            have HR3 : Hid (∀ W, Below v4.heap.size v4 W → IsRow W 4 (.slice x3 m.length y3) m.length (aCells m)) := fun W h => hrow.below h
            have N3 : Hid (NewA v3.heap.size x3) := hnew
            have L43 : Hid (v0.heap.size < v3.heap.size) := (Array.getElem?_eq_some_iff.1 (C4.out _ (bT (bT (Below.refl _ _) E2.out) E3.out))).1
            have L53 : Hid (v1.heap.size < v3.heap.size) := (Array.getElem?_eq_some_iff.1 (C5.out _ (bT (Below.refl _ _) E3.out))).1
            clear hrow hnew hb
            go_simp
            refine hK.out _ _ (HTw.out _ D4.out) (fun hHeld => ?_)
            clear hK K
            have hM := C4.out _ (bT (bT (bT (Below.refl _ _) E2.out) E3.out) E4.out)
            have hN := C5.out _ (bT (bT (Below.refl _ _) E3.out) E4.out)
            have HRx := HR1.out _ (bT (Below.refl _ _) E4.out)
            have HRy := HR3.out _ (Below.refl _ _)
            have HCt := both_of (a := a) (b := b) (c := c) (k := k) (a' := a') (b' := b') (c' := c') (k' := k') D4.out G4.out G5.out HMN.out hM hN HRx HRy (row_new N1.out (by have := L41.out; exact this)) (row_new N1.out (by have := L51.out; exact this)) (row_new N3.out (by have := L43.out; exact this)) (row_new N3.out (by have := L53.out; exact this))
            have HCt' : Hid _ := HCt
            obtain ⟨⟨m0, m1, m2⟩, m3, m4⟩ := BxV.of hM
            obtain ⟨⟨n0, n1, n2⟩, n3, n4⟩ := BxV.of hN
            have fM : ∀ j, v4.frozen? ⟨v0.heap.size, j, none⟩ = false := fun j => Lib.frozen_of_heap hM j
            have fN : ∀ j, v4.frozen? ⟨v1.heap.size, j, none⟩ = false := fun j => Lib.frozen_of_heap hN j
            have HS0 := HTw.out _ D4.out
            have ne : v1.heap.size ≠ v0.heap.size := Ne.symm HMN.out
            have ne' : v0.heap.size ≠ v1.heap.size := HMN.out
            clear hM hN HRx HRy HCt
            refine wpAnyH_ready (rs := [6]) (by kernel_rfl) (by simp) ?_
            refine AllReadyH.cons rfl (fun K hK => ?_) AllReadyH.nil
            go_simp
            refine hK.out _ _ (TwE.set HS0 (Nat.le_trans HzB.out G4.out) _ _ _ _ _) (fun hHeld => ?_)
            clear hK K
            refine wpAnyH_ready (rs := [7]) (by kernel_rfl) (by simp) ?_
            refine AllReadyH.cons rfl (fun K hK => ?_) AllReadyH.nil
            go_simp
            refine hK.out _ _ (TwE.set (TwE.set HS0 (Nat.le_trans HzB.out G4.out) _ _ _ _ _) (Nat.le_trans HzB.out G5.out) _ _ _ _ _) (fun hHeld => ?_)
            clear hK K
            refine wpAnyH_done (by kernel_rfl) ?_ _
            try go_wp2_with fail
            go_meet
            exact ⟨_, _, _, _, _, _, rfl, rfl, HCt'.out.1, HCt'.out.2⟩
    · obtain ⟨v1, hv1⟩ : ∃ v1, v1 = v0.alloc (.cells (evA 0 0 0 ⟨#[]⟩ (.slice none 0 0)) 32) := ⟨_, rfl⟩
      have E1 : Hid (Below v0.heap.size v0 v1) := by show Below _ _ _; rw [hv1]; exact al_b _ _
      have D1 : Hid (Below w4.heap.size w4 v1) := bT Hd.out E1.out
      have hnn : v1.heap[v0.heap.size]? = some (.cells zEA 32 (0, 0)) := by rw [hv1]; exact new_at _ _
      have C5 : Hid (∀ W, Below v1.heap.size v1 W → W.heap[v0.heap.size]? = some (.cells zEA 32 (0, 0))) := fun W h => (h.block _ (Array.getElem?_eq_some_iff.1 hnn).1).trans hnn
      have G5 : Hid (w4.heap.size ≤ v0.heap.size) := Hd.out.size
      clear hnn
      refine hK.out _ _ (by rw [← hv1]; exact HTw.out _ D1.out) (fun hHeld => ?_)
      clear hK K
      rw [← hv1] at hHeld ⊢
      clear hv1
      refine wpAnyH_ready (rs := [1, 4]) (by kernel_rfl) (by simp) ?_
      refine (AllReadyH.cons rfl (fun K hK => ?_) (AllReadyH.cons rfl (fun K hK => ?_) AllReadyH.nil))
      all_goals go_simp
      · refine (HRa.out _ (HBn.out _ D1.out)).mono ?_
        rintro e v2 ⟨x1, y1, rfl, hrow, hnew, hb⟩
        have E2 : Hid (Below v1.heap.size v1 v2) := hb
        have D2 : Hid (Below w4.heap.size w4 v2) := bT D1.out hb
        have HR1 : Hid (∀ W, Below v2.heap.size v2 W → IsRow W 4 (.slice x1 l.length y1) l.length (aCells l)) := fun W h => hrow.below h
        have N1 : Hid (NewA v1.heap.size x1) := hnew
        have L51 : Hid (v0.heap.size < v1.heap.size) := (Array.getElem?_eq_some_iff.1 (C5.out _ (Below.refl _ _))).1
        clear hrow hnew hb
        go_simp
        refine hK.out _ _ (HTw.out _ D2.out) (fun hHeld => ?_)
        clear hK K
        refine wpAnyH_ready (rs := [3, 4]) (by kernel_rfl) (by simp) ?_
        refine (AllReadyH.cons rfl (fun K hK => ?_) (AllReadyH.cons rfl (fun K hK => ?_) AllReadyH.nil))
        all_goals go_simp
        · refine (HRb.out _ (HBn.out _ D2.out)).mono ?_
          rintro e v3 ⟨x3, y3, rfl, hrow, hnew, hb⟩
          have E3 : Hid (Below v2.heap.size v2 v3) := hb
          have D3 : Hid (Below w4.heap.size w4 v3) := bT D2.out hb
          have HR3 : Hid (∀ W, Below v3.heap.size v3 W → IsRow W 4 (.slice x3 m.length y3) m.length (aCells m)) := fun W h => hrow.below h
          have N3 : Hid (NewA v2.heap.size x3) := hnew
          have L53 : Hid (v0.heap.size < v2.heap.size) := (Array.getElem?_eq_some_iff.1 (C5.out _ (bT (Below.refl _ _) E2.out))).1
          clear hrow hnew hb
          go_simp
          refine hK.out _ _ (HTw.out _ D3.out) (fun hHeld => ?_)
          clear hK K
          refine wpAnyH_ready (rs := [4]) (by kernel_rfl) (by simp) ?_
          refine (AllReadyH.cons rfl (fun K hK => ?_) AllReadyH.nil)
          all_goals go_simp
          · obtain ⟨v4, hv4⟩ : ∃ v4, v4 = v3.alloc (.cells (evA 0 0 0 ⟨#[]⟩ (.slice none 0 0)) 32) := ⟨_, rfl⟩
            have E4 : Hid (Below v3.heap.size v3 v4) := by show Below _ _ _; rw [hv4]; exact al_b _ _
            have D4 : Hid (Below w4.heap.size w4 v4) := bT D3.out E4.out
            have hnn : v4.heap[v3.heap.size]? = some (.cells zEA 32 (0, 0)) := by rw [hv4]; exact new_at _ _
            have C4 : Hid (∀ W, Below v4.heap.size v4 W → W.heap[v3.heap.size]? = some (.cells zEA 32 (0, 0))) := fun W h => (h.block _ (Array.getElem?_eq_some_iff.1 hnn).1).trans hnn
            have G4 : Hid (w4.heap.size ≤ v3.heap.size) := D3.out.size
            have R1at4 : Hid (IsRow v3 4 (.slice x1 l.length y1) l.length (aCells l)) := HR1.out _ (bT (Below.refl _ _) E3.out)
            have R3at4 : Hid (IsRow v3 4 (.slice x3 m.length y3) m.length (aCells m)) := HR3.out _ (Below.refl _ _)
            have HMN : Hid (v3.heap.size ≠ v0.heap.size) := by have := (Array.getElem?_eq_some_iff.1 (C5.out _ (bT (bT (Below.refl _ _) E2.out) E3.out))).1; show _ ≠ _; omega
            clear hnn
            refine hK.out _ _ (by rw [← hv4]; exact HTw.out _ D4.out) (fun hHeld => ?_)
            clear hK K
            rw [← hv4] at hHeld ⊢
            clear hv4
            have hM := C4.out _ (Below.refl _ _)
            have hN := C5.out _ (bT (bT (bT (Below.refl _ _) E2.out) E3.out) E4.out)
            have HRx := HR1.out _ (bT (bT (Below.refl _ _) E3.out) E4.out)
            have HRy := HR3.out _ (bT (Below.refl _ _) E4.out)
            have HCt := both_of (a := a) (b := b) (c := c) (k := k) (a' := a') (b' := b') (c' := c') (k' := k') D4.out G4.out G5.out HMN.out hM hN HRx HRy (row_lt R1at4.out (Nat.le_refl _)) (row_new N1.out (by have := L51.out; exact this)) (row_lt R3at4.out (Nat.le_refl _)) (row_new N3.out (by have := L53.out; exact this))
            have HCt' : Hid _ := HCt
            obtain ⟨⟨m0, m1, m2⟩, m3, m4⟩ := BxV.of hM
            obtain ⟨⟨n0, n1, n2⟩, n3, n4⟩ := BxV.of hN
            have fM : ∀ j, v4.frozen? ⟨v3.heap.size, j, none⟩ = false := fun j => Lib.frozen_of_heap hM j
            have fN : ∀ j, v4.frozen? ⟨v0.heap.size, j, none⟩ = false := fun j => Lib.frozen_of_heap hN j
            have HS0 := HTw.out _ D4.out
            have ne : v0.heap.size ≠ v3.heap.size := Ne.symm HMN.out
            have ne' : v3.heap.size ≠ v0.heap.size := HMN.out
            clear hM hN HRx HRy HCt
            refine wpAnyH_ready (rs := [6]) (by kernel_rfl) (by simp) ?_
            refine AllReadyH.cons rfl (fun K hK => ?_) AllReadyH.nil
            go_simp
            refine hK.out _ _ (TwE.set HS0 (Nat.le_trans HzB.out G4.out) _ _ _ _ _) (fun hHeld => ?_)
            clear hK K
            refine wpAnyH_ready (rs := [7]) (by kernel_rfl) (by simp) ?_
            refine AllReadyH.cons rfl (fun K hK => ?_) AllReadyH.nil
            go_simp
            refine hK.out _ _ (TwE.set (TwE.set HS0 (Nat.le_trans HzB.out G4.out) _ _ _ _ _) (Nat.le_trans HzB.out G5.out) _ _ _ _ _) (fun hHeld => ?_)
            clear hK K
            refine wpAnyH_done (by kernel_rfl) ?_ _
            try go_wp2_with fail
            go_meet
            exact ⟨_, _, _, _, _, _, rfl, rfl, HCt'.out.1, HCt'.out.2⟩
        · obtain ⟨v3, hv3⟩ : ∃ v3, v3 = v2.alloc (.cells (evA 0 0 0 ⟨#[]⟩ (.slice none 0 0)) 32) := ⟨_, rfl⟩
          have E3 : Hid (Below v2.heap.size v2 v3) := by show Below _ _ _; rw [hv3]; exact al_b _ _
          have D3 : Hid (Below w4.heap.size w4 v3) := bT D2.out E3.out
          have hnn : v3.heap[v2.heap.size]? = some (.cells zEA 32 (0, 0)) := by rw [hv3]; exact new_at _ _
          have C4 : Hid (∀ W, Below v3.heap.size v3 W → W.heap[v2.heap.size]? = some (.cells zEA 32 (0, 0))) := fun W h => (h.block _ (Array.getElem?_eq_some_iff.1 hnn).1).trans hnn
          have G4 : Hid (w4.heap.size ≤ v2.heap.size) := D2.out.size
          have R1at4 : Hid (IsRow v2 4 (.slice x1 l.length y1) l.length (aCells l)) := HR1.out _ (Below.refl _ _)
          have HMN : Hid (v2.heap.size ≠ v0.heap.size) := by have := (Array.getElem?_eq_some_iff.1 (C5.out _ (bT (Below.refl _ _) E2.out))).1; show _ ≠ _; omega
          clear hnn
          refine hK.out _ _ (by rw [← hv3]; exact HTw.out _ D3.out) (fun hHeld => ?_)
          clear hK K
          rw [← hv3] at hHeld ⊢
          clear hv3
          refine wpAnyH_ready (rs := [3]) (by kernel_rfl) (by simp) ?_
          refine (AllReadyH.cons rfl (fun K hK => ?_) AllReadyH.nil)
          all_goals go_simp
          · refine (HRb.out _ (HBn.out _ D3.out)).mono ?_
            rintro e v4 ⟨x3, y3, rfl, hrow, hnew, hb⟩
            have E4 : Hid (Below v3.heap.size v3 v4) := hb
            have D4 : Hid (Below w4.heap.size w4 v4) := bT D3.out hb
            have HR3 : Hid (∀ W, Below v4.heap.size v4 W → IsRow W 4 (.slice x3 m.length y3) m.length (aCells m)) := fun W h => hrow.below h
            have N3 : Hid (NewA v3.heap.size x3) := hnew
            have L43 : Hid (v2.heap.size < v3.heap.size) := (Array.getElem?_eq_some_iff.1 (C4.out _ (Below.refl _ _))).1
            have L53 : Hid (v0.heap.size < v3.heap.size) := (Array.getElem?_eq_some_iff.1 (C5.out _ (bT (bT (Below.refl _ _) E2.out) E3.out))).1
            clear hrow hnew hb
            go_simp
            refine hK.out _ _ (HTw.out _ D4.out) (fun hHeld => ?_)
            clear hK K
            have hM := C4.out _ (bT (Below.refl _ _) E4.out)
            have hN := C5.out _ (bT (bT (bT (Below.refl _ _) E2.out) E3.out) E4.out)
            have HRx := HR1.out _ (bT (bT (Below.refl _ _) E3.out) E4.out)
            have HRy := HR3.out _ (Below.refl _ _)
            have HCt := both_of (a := a) (b := b) (c := c) (k := k) (a' := a') (b' := b') (c' := c') (k' := k') D4.out G4.out G5.out HMN.out hM hN HRx HRy (row_lt R1at4.out (Nat.le_refl _)) (row_new N1.out (by have := L51.out; exact this)) (row_new N3.out (by have := L43.out; exact this)) (row_new N3.out (by have := L53.out; exact this))
            have HCt' : Hid _ := HCt
            obtain ⟨⟨m0, m1, m2⟩, m3, m4⟩ := BxV.of hM
            obtain ⟨⟨n0, n1, n2⟩, n3, n4⟩ := BxV.of hN
            have fM : ∀ j, v4.frozen? ⟨v2.heap.size, j, none⟩ = false := fun j => Lib.frozen_of_heap hM j
            have fN : ∀ j, v4.frozen? ⟨v0.heap.size, j, none⟩ = false := fun j => Lib.frozen_of_heap hN j
            have HS0 := HTw.out _ D4.out
            have ne : v0.heap.size ≠ v2.heap.size := Ne.symm HMN.out
            have ne' : v2.heap.size ≠ v0.heap.size := HMN.out
            clear hM hN HRx HRy HCt
            refine wpAnyH_ready (rs := [6]) (by kernel_rfl) (by simp) ?_
            refine AllReadyH.cons rfl (fun K hK => ?_) AllReadyH.nil
            go_simp
            refine hK.out _ _ (TwE.set HS0 (Nat.le_trans HzB.out G4.out) _ _ _ _ _) (fun hHeld => ?_)
            clear hK K
            refine wpAnyH_ready (rs := [7]) (by kernel_rfl) (by simp) ?_
            refine AllReadyH.cons rfl (fun K hK => ?_) AllReadyH.nil
            go_simp
            refine hK.out _ _ (TwE.set (TwE.set HS0 (Nat.le_trans HzB.out G4.out) _ _ _ _ _) (Nat.le_trans HzB.out G5.out) _ _ _ _ _) (fun hHeld => ?_)
            clear hK K
            refine wpAnyH_done (by kernel_rfl) ?_ _
            try go_wp2_with fail
            go_meet
            exact ⟨_, _, _, _, _, _, rfl, rfl, HCt'.out.1, HCt'.out.2⟩
      · obtain ⟨v2, hv2⟩ : ∃ v2, v2 = v1.alloc (.cells (evA 0 0 0 ⟨#[]⟩ (.slice none 0 0)) 32) := ⟨_, rfl⟩
        have E2 : Hid (Below v1.heap.size v1 v2) := by show Below _ _ _; rw [hv2]; exact al_b _ _
        have D2 : Hid (Below w4.heap.size w4 v2) := bT D1.out E2.out
        have hnn : v2.heap[v1.heap.size]? = some (.cells zEA 32 (0, 0)) := by rw [hv2]; exact new_at _ _
        have C4 : Hid (∀ W, Below v2.heap.size v2 W → W.heap[v1.heap.size]? = some (.cells zEA 32 (0, 0))) := fun W h => (h.block _ (Array.getElem?_eq_some_iff.1 hnn).1).trans hnn
        have G4 : Hid (w4.heap.size ≤ v1.heap.size) := D1.out.size
        have HMN : Hid (v1.heap.size ≠ v0.heap.size) := by have := (Array.getElem?_eq_some_iff.1 (C5.out _ (Below.refl _ _))).1; show _ ≠ _; omega
        clear hnn
        refine hK.out _ _ (by rw [← hv2]; exact HTw.out _ D2.out) (fun hHeld => ?_)
        clear hK K
        rw [← hv2] at hHeld ⊢
        clear hv2
        refine wpAnyH_ready (rs := [1]) (by kernel_rfl) (by simp) ?_
        refine (AllReadyH.cons rfl (fun K hK => ?_) AllReadyH.nil)
        all_goals go_simp
        · refine (HRa.out _ (HBn.out _ D2.out)).mono ?_
          rintro e v3 ⟨x1, y1, rfl, hrow, hnew, hb⟩
          have E3 : Hid (Below v2.heap.size v2 v3) := hb
          have D3 : Hid (Below w4.heap.size w4 v3) := bT D2.out hb
          have HR1 : Hid (∀ W, Below v3.heap.size v3 W → IsRow W 4 (.slice x1 l.length y1) l.length (aCells l)) := fun W h => hrow.below h
          have N1 : Hid (NewA v2.heap.size x1) := hnew
          have L41 : Hid (v1.heap.size < v2.heap.size) := (Array.getElem?_eq_some_iff.1 (C4.out _ (Below.refl _ _))).1
          have L51 : Hid (v0.heap.size < v2.heap.size) := (Array.getElem?_eq_some_iff.1 (C5.out _ (bT (Below.refl _ _) E2.out))).1
          clear hrow hnew hb
          go_simp
          refine hK.out _ _ (HTw.out _ D3.out) (fun hHeld => ?_)
          clear hK K
          refine wpAnyH_ready (rs := [3]) (by kernel_rfl) (by simp) ?_
          refine (AllReadyH.cons rfl (fun K hK => ?_) AllReadyH.nil)
          all_goals go_simp
          · refine (HRb.out _ (HBn.out _ D3.out)).mono ?_
            rintro e v4 ⟨x3, y3, rfl, hrow, hnew, hb⟩
            have E4 : Hid (Below v3.heap.size v3 v4) := hb
            have D4 : Hid (Below w4.heap.size w4 v4) := bT D3.out hb
            have HR3 : Hid (∀ W, Below v4.heap.size v4 W → IsRow W 4 (.slice x3 m.length y3) m.length (aCells m)) := fun W h => hrow.below h
            have N3 : Hid (NewA v3.heap.size x3) := hnew
            have L43 : Hid (v1.heap.size < v3.heap.size) := (Array.getElem?_eq_some_iff.1 (C4.out _ (bT (Below.refl _ _) E3.out))).1
            have L53 : Hid (v0.heap.size < v3.heap.size) := (Array.getElem?_eq_some_iff.1 (C5.out _ (bT (bT (Below.refl _ _) E2.out) E3.out))).1
            clear hrow hnew hb
            go_simp
            refine hK.out _ _ (HTw.out _ D4.out) (fun hHeld => ?_)
            clear hK K
            have hM := C4.out _ (bT (bT (Below.refl _ _) E3.out) E4.out)
            have hN := C5.out _ (bT (bT (bT (Below.refl _ _) E2.out) E3.out) E4.out)
            have HRx := HR1.out _ (bT (Below.refl _ _) E4.out)
            have HRy := HR3.out _ (Below.refl _ _)
            have HCt := both_of (a := a) (b := b) (c := c) (k := k) (a' := a') (b' := b') (c' := c') (k' := k') D4.out G4.out G5.out HMN.out hM hN HRx HRy (row_new N1.out (by have := L41.out; exact this)) (row_new N1.out (by have := L51.out; exact this)) (row_new N3.out (by have := L43.out; exact this)) (row_new N3.out (by have := L53.out; exact this))
            have HCt' : Hid _ := HCt
            obtain ⟨⟨m0, m1, m2⟩, m3, m4⟩ := BxV.of hM
            obtain ⟨⟨n0, n1, n2⟩, n3, n4⟩ := BxV.of hN
            have fM : ∀ j, v4.frozen? ⟨v1.heap.size, j, none⟩ = false := fun j => Lib.frozen_of_heap hM j
            have fN : ∀ j, v4.frozen? ⟨v0.heap.size, j, none⟩ = false := fun j => Lib.frozen_of_heap hN j
            have HS0 := HTw.out _ D4.out
            have ne : v0.heap.size ≠ v1.heap.size := Ne.symm HMN.out
            have ne' : v1.heap.size ≠ v0.heap.size := HMN.out
            clear hM hN HRx HRy HCt
            refine wpAnyH_ready (rs := [6]) (by kernel_rfl) (by simp) ?_
            refine AllReadyH.cons rfl (fun K hK => ?_) AllReadyH.nil
            go_simp
            refine hK.out _ _ (TwE.set HS0 (Nat.le_trans HzB.out G4.out) _ _ _ _ _) (fun hHeld => ?_)
            clear hK K
            refine wpAnyH_ready (rs := [7]) (by kernel_rfl) (by simp) ?_
            refine AllReadyH.cons rfl (fun K hK => ?_) AllReadyH.nil
            go_simp
            refine hK.out _ _ (TwE.set (TwE.set HS0 (Nat.le_trans HzB.out G4.out) _ _ _ _ _) (Nat.le_trans HzB.out G5.out) _ _ _ _ _) (fun hHeld => ?_)
            clear hK K
            refine wpAnyH_done (by kernel_rfl) ?_ _
            try go_wp2_with fail
            go_meet
            exact ⟨_, _, _, _, _, _, rfl, rfl, HCt'.out.1, HCt'.out.2⟩
  case rest =>
    obtain ⟨M, N, x1, y1, x2, y2, rfl, rfl, HBo, HBc⟩ := hcut
    have HCk1 : Hid (∀ W, Below w.heap.size w W → Calls Tryz.prog 11 #[.agg (evA a b c k (.slice au l.length cu))] W fun e w' => e = .returned (.bool (chkE a b c k l)) ∧ Below W.heap.size W w') := fun W h => evCheck_any a b c k _ l W (HR.out W h).1 HL.out.1 HL.out.2.2.1 (by have := HL.out; omega) (HR.out W h).2.2.1.t (HR.out W h).2.2.1.m
    have HSa : Hid (∀ W, Below w.heap.size w W → Calls Tryz.prog 13 #[.agg (evA a b c k (.slice au l.length cu)), .agg (evA a' b' c' k' (.slice av m.length cv))] W fun e w' => e = .returned (.bool (samE a b c k l a' b' c' k' m)) ∧ Below W.heap.size W w') := fun W h => evSame_any a b c k _ l a' b' c' k' _ m W (HR.out W h).1 (HR.out W h).2.1 HL.out.1 HL.out.2.1
    have HAl : Hid (∀ W, Below w.heap.size w W → Calls Tryz.prog 15 #[.agg (evA a b c k (.slice au l.length cu)), .agg (evA a' b' c' k' (.slice av m.length cv))] W fun e w' => e = .returned (.bool (alkE k l k' m)) ∧ Below W.heap.size W w') := fun W h => evAlike_any a b c k _ l a' b' c' k' _ m W (HR.out W h).1 (HR.out W h).2.1 HL.out.1 HL.out.2.1 HL.out.2.2.1 HL.out.2.2.2.1 (by have := HL.out; omega) (by have := HL.out; omega) (HR.out W h).2.2.1.t
    have HSh : Hid (∀ W, Below w.heap.size w W → Calls Tryz.prog 17 #[.agg (evA a b c k (.slice au l.length cu))] W fun e w' => e = .returned (.string (shE a b c k l)) ∧ Below W.heap.size W w') := fun W h => evShowS_any a b c k _ l W (HR.out W h).1 HL.out.1 HL.out.2.2.1 (by have := HL.out; omega) (HR.out W h).2.2.1.t (HR.out W h).2.2.1.m (HR.out W h).2.2.1.h (HR.out W h).2.2.1.p
    have HTx : Hid (∀ W, Below w.heap.size w W → Calls Tryz.prog 19 #[.agg (evA a b c k (.slice au l.length cu))] W fun e w' => e = .returned (.string (txE a b c k l)) ∧ Below W.heap.size W w') := fun W h => evText_any a b c k _ l W (HR.out W h).1 HL.out.1 HL.out.2.2.1 HL.out.2.2.2.2.2.2.1 (by have := HL.out; omega) (HR.out W h).2.2.1.t (HR.out W h).2.2.1.m (HR.out W h).2.2.2
    have HId : Hid (∀ W, Below w.heap.size w W → Calls Tryz.prog 21 #[.agg #[.int .i64 a, .int .i64 b, .int .i64 c]] W fun e w' => e = .returned (.string (idS a b c)) ∧ Below W.heap.size W w') := fun W h => showIDs_any a b c W (HR.out W h).2.2.1.p
    have HrC : Hid (∀ W, Both a b c k l a' b' c' k' m M N x1 y1 x2 y2 W → Calls Tryz.prog 12 #[.agg (evA a b c k (.slice x1 l.length y1))] W fun e w' => e = .returned (.bool (chkE a b c k l)) ∧ Below W.heap.size W w') := fun W h => refCheck6_any a b c k _ l W h.r HL.out.1 HL.out.2.2.2.2.1 (by have := HL.out; omega)
    have HrS : Hid (∀ W, Both a b c k l a' b' c' k' m M N x1 y1 x2 y2 W → Calls Tryz.prog 14 #[.agg (evA a b c k (.slice x1 l.length y1)), .agg (evA a' b' c' k' (.slice x2 m.length y2))] W fun e w' => e = .returned (.bool (samE a b c k l a' b' c' k' m)) ∧ Below W.heap.size W w') := fun W h => refSame6_any a b c k _ l a' b' c' k' _ m W h.r h.s HL.out.1 HL.out.2.1
    have HrA : Hid (∀ W, Both a b c k l a' b' c' k' m M N x1 y1 x2 y2 W → Calls Tryz.prog 16 #[.agg (evA a b c k (.slice x1 l.length y1)), .agg (evA a' b' c' k' (.slice x2 m.length y2))] W fun e w' => e = .returned (.bool (alkE k l k' m)) ∧ Below W.heap.size W w') := fun W h => refAlike6_any a b c k _ l a' b' c' k' _ m W h.r h.s HL.out.1 HL.out.2.1 (fun x hx => by have := HL.out.2.2.2.2.2.2.1 x hx; omega) (fun x hx => by have := HL.out.2.2.2.2.2.2.2.1 x hx; omega) (by have := HL.out; omega) (by have := HL.out; omega)
    have HrH : Hid (∀ W, Both a b c k l a' b' c' k' m M N x1 y1 x2 y2 W → Calls Tryz.prog 18 #[.agg (evA a b c k (.slice x1 l.length y1))] W fun e w' => e = .returned (.string (shE a b c k l)) ∧ Below W.heap.size W w') := fun W h => refShow6_any a b c k _ l W h.r HL.out.1 HL.out.2.2.2.2.1 (by have := HL.out; omega)
    have HrT : Hid (∀ W, Both a b c k l a' b' c' k' m M N x1 y1 x2 y2 W → Calls Tryz.prog 20 #[.agg (evA a b c k (.slice x1 l.length y1))] W fun e w' => e = .returned (.string (txE a b c k l)) ∧ Below W.heap.size W w') := fun W h => refText6_any a b c k _ l W h.r HL.out.1 HL.out.2.2.2.2.1 HL.out.2.2.2.2.2.2.1 (by have := HL.out; omega)
    have HrI : Hid (∀ W, Calls Tryz.prog 22 #[.agg #[.int .i64 a, .int .i64 b, .int .i64 c]] W fun e w' => e = .returned (.string (idS a b c)) ∧ Below W.heap.size W w') := fun W => refShowID_any a b c W
    have HAll : Hid (∀ W, Below wc.heap.size wc W → TwE w.heap.size a b c k (.slice au l.length cu) a' b' c' k' (.slice av m.length cv) W ∧ Both a b c k l a' b' c' k' m M N x1 y1 x2 y2 W ∧ Below w.heap.size w W) := fun W h => ⟨HTw.out W (bT HBc.out h), HBo.out.below h, HBn.out W (bT HBc.out h)⟩
    generalize chkE a b c k l = X1 at *
    generalize samE a b c k l a' b' c' k' m = X2 at *
    generalize alkE k l k' m = X3 at *
    generalize shE a b c k l = T1 at *
    generalize txE a b c k l = T2 at *
    generalize idS a b c = T3 at *
    have b1 : (X1 != X1) = false := by simp
    have b2 : (X2 != X2) = false := by simp
    have b3 : (X3 != X3) = false := by simp
    have t1 : (T1.toList == T1.toList) = true := by simp
    have t2 : (T2.toList == T2.toList) = true := by simp
    have t3 : (T3.toList == T3.toList) = true := by simp
    clear HTw HBo HBc HBn HzB HRa HRb HR HL
    go_wp2_with fail
    refine wp_region_quiet (C := fun w' => Below wc.heap.size wc w') (by kernel_rfl) (by kernel_rfl) ((Below.refl _ _).drew) ?_
    dsimp only
    repeat (first
      | go_big_quiet_skip
      | (go_big_quiet_want
         apply Exists.intro
         refine ⟨fun W' hW' => ?_, ?_⟩
         · have hw : Below wc.heap.size wc W' := hW'
           obtain ⟨⟨⟨⟨g0, g1, g2⟩, g3, g4⟩, ⟨k0, k1, k2⟩, k3, k4⟩, hBo, hBw⟩ := HAll.out W' hw
           obtain ⟨⟨p0, p1, p2⟩, p3, p4⟩ := hBo.p
           obtain ⟨⟨q0, q1, q2⟩, q3, q4⟩ := hBo.q
           go_simp
           first
             | done
             | rfl
             | (go_at_call 11; (with_reducible refine Calls.mono (HCk1.out W' hBw) ?_); rintro e w'' ⟨rfl, hb⟩; exact ⟨rfl, hw.trans (hb.mono hw.size)⟩)
             | (go_at_call 12; (with_reducible refine Calls.mono (HrC.out W' hBo) ?_); rintro e w'' ⟨rfl, hb⟩; exact ⟨rfl, hw.trans (hb.mono hw.size)⟩)
             | (go_at_call 13; (with_reducible refine Calls.mono (HSa.out W' hBw) ?_); rintro e w'' ⟨rfl, hb⟩; exact ⟨rfl, hw.trans (hb.mono hw.size)⟩)
             | (go_at_call 14; (with_reducible refine Calls.mono (HrS.out W' hBo) ?_); rintro e w'' ⟨rfl, hb⟩; exact ⟨rfl, hw.trans (hb.mono hw.size)⟩)
             | (go_at_call 15; (with_reducible refine Calls.mono (HAl.out W' hBw) ?_); rintro e w'' ⟨rfl, hb⟩; exact ⟨rfl, hw.trans (hb.mono hw.size)⟩)
             | (go_at_call 16; (with_reducible refine Calls.mono (HrA.out W' hBo) ?_); rintro e w'' ⟨rfl, hb⟩; exact ⟨rfl, hw.trans (hb.mono hw.size)⟩)
         go_big_quiet_on
         try simp only [Act.put, List.setIfInBounds_toArray, List.set_cons_zero, List.set_cons_succ]))
    refine wpQuiet_nil ?_
    intro w9 hqw2
    have H9 : Hid (Below wc.heap.size wc w9) := hqw2
    clear hqw2 HCk1 HSa HAl HrC HrS HrA
    go_wp2_with fail
    refine wp_region_quiet (C := fun w' => Below wc.heap.size wc w') (by kernel_rfl) (by kernel_rfl) (H9.out.drew) ?_
    dsimp only
    repeat (first
      | go_big_quiet_skip
      | (go_big_quiet_want
         apply Exists.intro
         refine ⟨fun W' hW' => ?_, ?_⟩
         · have hw : Below wc.heap.size wc W' := hW'
           obtain ⟨⟨⟨⟨g0, g1, g2⟩, g3, g4⟩, ⟨k0, k1, k2⟩, k3, k4⟩, hBo, hBw⟩ := HAll.out W' hw
           obtain ⟨⟨p0, p1, p2⟩, p3, p4⟩ := hBo.p
           obtain ⟨⟨q0, q1, q2⟩, q3, q4⟩ := hBo.q
           go_simp
           first
             | done
             | rfl
             | (go_at_call 9; (with_reducible refine Calls.mono (HAw.out W' hBw) ?_); rintro e w'' ⟨rfl, hb⟩; exact ⟨rfl, hw.trans (hb.mono hw.size)⟩)
             | (go_at_call 17; (with_reducible refine Calls.mono (HSh.out W' hBw) ?_); rintro e w'' ⟨rfl, hb⟩; exact ⟨rfl, hw.trans (hb.mono hw.size)⟩)
             | (go_at_call 18; (with_reducible refine Calls.mono (HrH.out W' hBo) ?_); rintro e w'' ⟨rfl, hb⟩; exact ⟨rfl, hw.trans (hb.mono hw.size)⟩)
             | (go_at_call 19; (with_reducible refine Calls.mono (HTx.out W' hBw) ?_); rintro e w'' ⟨rfl, hb⟩; exact ⟨rfl, hw.trans (hb.mono hw.size)⟩)
             | (go_at_call 20; (with_reducible refine Calls.mono (HrT.out W' hBo) ?_); rintro e w'' ⟨rfl, hb⟩; exact ⟨rfl, hw.trans (hb.mono hw.size)⟩)
             | (go_at_call 21; (with_reducible refine Calls.mono (HId.out W' hBw) ?_); rintro e w'' ⟨rfl, hb⟩; exact ⟨rfl, hw.trans (hb.mono hw.size)⟩)
             | (go_at_call 22; (with_reducible refine Calls.mono (HrI.out W') ?_); rintro e w'' ⟨rfl, hb⟩; exact ⟨rfl, hw.trans (hb.mono hw.size)⟩)
         go_big_quiet_on
         try simp only [Act.put, List.setIfInBounds_toArray, List.set_cons_zero, List.set_cons_succ]))
    refine wpQuiet_nil ?_
    intro w10 hqw2
    have HBz : Hid (Below w.heap.size w w10) := (HAll.out _ hqw2).2.2
    clear hqw2 HAll
    go_wp2
    go_ret
    exact ⟨rfl, HBz.out⟩
end Go.Proofs.YtacpllmlpmllbaaGreatDoor
