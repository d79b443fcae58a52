/- WirePackets: the law's walk. -/
import Derived.Test.YtoplpohpodkpdaaGreatDoorZk11
import Derived.Test.YtoplpohpodkpdaaGreatDoorZk7
namespace Go.Proofs.YtoplpohpodkpdaaGreatDoor
open Go.RowKit

set_option maxRecDepth 100000 in
set_option maxHeartbeats 8000000 in
theorem wirePackets_core (x : Pk) (s : ByteArray) (w : World) (hT : Q.Tab w) (hA : ∀ W, Below w.heap.size w W → Calls Tryz.prog 4 #[] W fun e w' => e = .returned (.bool true) ∧ Below W.heap.size W w') :
    Calls Tryz.prog 3 #[.agg x.cells, .string s] w fun e w' => e = .returned (.bool true) ∧ Below w.heap.size w w' := by
  have HAw : Hid (∀ W, Below w.heap.size w W → Calls Tryz.prog 4 #[] W fun e w' => e = .returned (.bool true) ∧ Below W.heap.size W w') := hA
  have HC1 : Hid (∀ W, Calls Tryz.prog 7 #[.agg x.cells] W fun e w' => e = .returned (.bool (pkB x)) ∧ Below W.heap.size W w') := fun W => checkPk_any x W
  have HC2 : Hid (∀ W, Calls Tryz.prog 8 #[.agg x.cells] W fun e w' => e = .returned (.bool (pkB x)) ∧ Below W.heap.size W w') := fun W => refCheckPk_any x W
  have HT1 : Hid (x.s.size ≤ 5000 → ∀ W, Below w.heap.size w W → Calls Tryz.prog 9 #[.agg x.cells] W fun e w' => e = .returned (.string (pkT x)) ∧ Below W.heap.size W w') := fun h W hb => packetText_any x W (hT.below hb hT.size) (by omega)
  have HT2 : Hid (x.s.size ≤ 5000 → ∀ W, Calls Tryz.prog 10 #[.agg x.cells] W fun e w' => e = .returned (.string (pkT x)) ∧ Below W.heap.size W w') := fun h W => refPacketText_any x W (by omega)
  have HR1 : Hid (s.size ≤ 5000 → ∀ W, Calls Tryz.prog 5 #[.string s] W fun e w' => e = .returned (.tuple #[.agg (rdX s).cells, .int .i64 (rdE s)]) ∧ Below W.heap.size W w') := fun h W => readPacket_any s W (by omega)
  have HR2 : Hid (s.size ≤ 5000 → ∀ W, Calls Tryz.prog 6 #[.string s] W fun e w' => e = .returned (.tuple #[.agg (rdX s).cells, .int .i64 (rdE s)]) ∧ Below W.heap.size W w') := fun h W => refReadPacket_any s W (by omega)
  generalize pkB x = PB at *
  generalize pkT x = PT at *
  generalize rdX s = y at *
  generalize rdE s = z at *
  obtain ⟨f, t, fl, tl, sq, ak, ps⟩ := x
  obtain ⟨g, u, gl, ul, rq, bk, qs⟩ := y
  dsimp only [Pk.cells] at *
  clear hT hA
  obtain ⟨w1, hw1⟩ : ∃ w1, w1 = w.alloc (.cells #[.int .i64 f, .int .i64 t, .int .i64 fl, .int .i64 tl, .int .i64 sq, .int .i64 ak, .string ps] 23) := ⟨_, rfl⟩
  have B1 : Hid (Below w.heap.size w w1) := by show Below _ _ _; rw [hw1]; exact al_f _ _
  have hk1 : w1.heap[w.heap.size]? = some (.cells #[.int .i64 f, .int .i64 t, .int .i64 fl, .int .i64 tl, .int .i64 sq, .int .i64 ak, .string ps] 23 (0, 0)) := by rw [hw1]; exact nw_at _ _
  have K1 : Hid (∀ W, Below w1.heap.size w1 W → W.heap[w.heap.size]? = some (.cells #[.int .i64 f, .int .i64 t, .int .i64 fl, .int .i64 tl, .int .i64 sq, .int .i64 ak, .string ps] 23 (0, 0))) := fun W hb => (hb.block _ (Array.getElem?_eq_some_iff.1 hk1).1).trans hk1
  clear hk1
  have hk := K1.out w1 (Below.refl _ _)
  have c0 : w1.cell? ⟨w.heap.size, 0, none⟩ = some (.int .i64 f) := by rw [Lib.cell_of_heap hk]; rfl
  have c1 : w1.cell? ⟨w.heap.size, 1, none⟩ = some (.int .i64 t) := by rw [Lib.cell_of_heap hk]; rfl
  have c2 : w1.cell? ⟨w.heap.size, 2, none⟩ = some (.int .i64 fl) := by rw [Lib.cell_of_heap hk]; rfl
  have c3 : w1.cell? ⟨w.heap.size, 3, none⟩ = some (.int .i64 tl) := by rw [Lib.cell_of_heap hk]; rfl
  have c4 : w1.cell? ⟨w.heap.size, 4, none⟩ = some (.int .i64 sq) := by rw [Lib.cell_of_heap hk]; rfl
  have c5 : w1.cell? ⟨w.heap.size, 5, none⟩ = some (.int .i64 ak) := by rw [Lib.cell_of_heap hk]; rfl
  have c6 : w1.cell? ⟨w.heap.size, 6, none⟩ = some (.string ps) := by rw [Lib.cell_of_heap hk]; rfl
  clear hk
  rw [hw1] at c0 c1 c2 c3 c4 c5 c6
  go_enter Tryz.func3, Tryz.ntmps3
  by_cases h5 : ps.size ≤ 5000
  rotate_left
  · have d1 : decide ((5000 : Int) < (ps.size : Int)) = true := decide_eq_true (by omega)
    have n1 : 5000 < ps.size := by omega
    clear HC1 HC2 HT1 HT2 HR1 HR2
    go_wp2_with fail
    rw [← hw1]
    clear hw1 c0 c1 c2 c3 c4 c5 c6
    refine (HAw.out _ B1.out).mono ?_
    rintro e w9 ⟨rfl, hb⟩
    have HB9 : Hid (Below w.heap.size w w9) := bT B1.out hb
    clear hb
    go_wp2
    go_ret
    exact ⟨rfl, HB9.out⟩
  have d1 : decide ((5000 : Int) < (ps.size : Int)) = false := decide_eq_false (by omega)
  have n1 : ¬ 5000 < ps.size := by omega
  have HT1c : Hid (∀ W, Below w.heap.size w W → Calls Tryz.prog 9 #[.agg #[.int .i64 f, .int .i64 t, .int .i64 fl, .int .i64 tl, .int .i64 sq, .int .i64 ak, .string ps]] W fun e w' => e = .returned (.string PT) ∧ Below W.heap.size W w') := HT1.out h5
  have HT2c : Hid (∀ W, Calls Tryz.prog 10 #[.agg #[.int .i64 f, .int .i64 t, .int .i64 fl, .int .i64 tl, .int .i64 sq, .int .i64 ak, .string ps]] W fun e w' => e = .returned (.string PT) ∧ Below W.heap.size W w') := HT2.out h5
  by_cases h6 : s.size ≤ 5000
  rotate_left
  · have d2 : decide ((5000 : Int) < (s.size : Int)) = true := decide_eq_true (by omega)
    have n2 : 5000 < s.size := by omega
    clear HC1 HC2 HT1 HT2 HT1c HT2c HR1 HR2
    go_wp2_with fail
    rw [← hw1]
    clear hw1 c0 c1 c2 c3 c4 c5 c6
    refine (HAw.out _ B1.out).mono ?_
    rintro e w9 ⟨rfl, hb⟩
    have HB9 : Hid (Below w.heap.size w w9) := bT B1.out hb
    clear hb
    go_wp2
    go_ret
    exact ⟨rfl, HB9.out⟩
  have d2 : decide ((5000 : Int) < (s.size : Int)) = false := decide_eq_false (by omega)
  have n2 : ¬ 5000 < s.size := by omega
  go_wp2_with fail
  rw [← hw1]
  clear hw1 c0 c1 c2 c3 c4 c5 c6
  refine (HR1.out h6 _).mono ?_
  rintro e w2 ⟨rfl, hb⟩
  have B2 : Hid (Below w1.heap.size w1 w2) := hb
  clear hb HR1
  obtain ⟨w3, hw3⟩ : ∃ w3, w3 = w2.alloc (.cells #[.int .i64 g, .int .i64 u, .int .i64 gl, .int .i64 ul, .int .i64 rq, .int .i64 bk, .string qs] 23) := ⟨_, rfl⟩
  have B3 : Hid (Below w2.heap.size w2 w3) := by show Below _ _ _; rw [hw3]; exact al_f _ _
  have hk3 : w3.heap[w2.heap.size]? = some (.cells #[.int .i64 g, .int .i64 u, .int .i64 gl, .int .i64 ul, .int .i64 rq, .int .i64 bk, .string qs] 23 (0, 0)) := by rw [hw3]; exact nw_at _ _
  have K3 : Hid (∀ W, Below w3.heap.size w3 W → W.heap[w2.heap.size]? = some (.cells #[.int .i64 g, .int .i64 u, .int .i64 gl, .int .i64 ul, .int .i64 rq, .int .i64 bk, .string qs] 23 (0, 0))) := fun W hb => (hb.block _ (Array.getElem?_eq_some_iff.1 hk3).1).trans hk3
  clear hk3
  go_wp2_with fail
  rw [← hw3]
  clear hw3
  refine (HR2.out h6 _).mono ?_
  rintro e w4 ⟨rfl, hb⟩
  have B4 : Hid (Below w3.heap.size w3 w4) := hb
  clear hb HR2
  obtain ⟨w5, hw5⟩ : ∃ w5, w5 = w4.alloc (.cells #[.int .i64 g, .int .i64 u, .int .i64 gl, .int .i64 ul, .int .i64 rq, .int .i64 bk, .string qs] 28) := ⟨_, rfl⟩
  have B5 : Hid (Below w4.heap.size w4 w5) := by show Below _ _ _; rw [hw5]; exact al_f _ _
  have hk5 : w5.heap[w4.heap.size]? = some (.cells #[.int .i64 g, .int .i64 u, .int .i64 gl, .int .i64 ul, .int .i64 rq, .int .i64 bk, .string qs] 28 (0, 0)) := by rw [hw5]; exact nw_at _ _
  have K5 : Hid (∀ W, Below w5.heap.size w5 W → W.heap[w4.heap.size]? = some (.cells #[.int .i64 g, .int .i64 u, .int .i64 gl, .int .i64 ul, .int .i64 rq, .int .i64 bk, .string qs] 28 (0, 0))) := fun W hb => (hb.block _ (Array.getElem?_eq_some_iff.1 hk5).1).trans hk5
  clear hk5
  have hk := K1.out w5 (bT (bT (bT B2.out B3.out) B4.out) B5.out)
  have c0 : w5.cell? ⟨w.heap.size, 0, none⟩ = some (.int .i64 f) := by rw [Lib.cell_of_heap hk]; rfl
  have c1 : w5.cell? ⟨w.heap.size, 1, none⟩ = some (.int .i64 t) := by rw [Lib.cell_of_heap hk]; rfl
  have c2 : w5.cell? ⟨w.heap.size, 2, none⟩ = some (.int .i64 fl) := by rw [Lib.cell_of_heap hk]; rfl
  have c3 : w5.cell? ⟨w.heap.size, 3, none⟩ = some (.int .i64 tl) := by rw [Lib.cell_of_heap hk]; rfl
  have c4 : w5.cell? ⟨w.heap.size, 4, none⟩ = some (.int .i64 sq) := by rw [Lib.cell_of_heap hk]; rfl
  have c5 : w5.cell? ⟨w.heap.size, 5, none⟩ = some (.int .i64 ak) := by rw [Lib.cell_of_heap hk]; rfl
  have c6 : w5.cell? ⟨w.heap.size, 6, none⟩ = some (.string ps) := by rw [Lib.cell_of_heap hk]; rfl
  clear hk
  have hz5 : w5.heap.size = w4.heap.size + 1 := by rw [hw5]; simp
  obtain ⟨w6, hw6⟩ : ∃ w6, w6 = w5.alloc (.cells #[.int .i64 f, .int .i64 t, .int .i64 fl, .int .i64 tl, .int .i64 sq, .int .i64 ak, .string ps] 28) := ⟨_, rfl⟩
  have B6 : Hid (Below w5.heap.size w5 w6) := by show Below _ _ _; rw [hw6]; exact al_f _ _
  have hk6 : w6.heap[w5.heap.size]? = some (.cells #[.int .i64 f, .int .i64 t, .int .i64 fl, .int .i64 tl, .int .i64 sq, .int .i64 ak, .string ps] 28 (0, 0)) := by rw [hw6]; exact nw_at _ _
  have K6 : Hid (∀ W, Below w6.heap.size w6 W → W.heap[w5.heap.size]? = some (.cells #[.int .i64 f, .int .i64 t, .int .i64 fl, .int .i64 tl, .int .i64 sq, .int .i64 ak, .string ps] 28 (0, 0))) := fun W hb => (hb.block _ (Array.getElem?_eq_some_iff.1 hk6).1).trans hk6
  clear hk6
  rw [hw5] at c0 c1 c2 c3 c4 c5 c6
  go_wp2_with fail
  rw [← hz5, ← hw5, ← hw6]
  clear hw6 hw5 hz5 c0 c1 c2 c3 c4 c5 c6
  have HB6 : Hid (Below w.heap.size w w6) := bT (bT (bT (bT (bT B1.out B2.out) B3.out) B4.out) B5.out) B6.out
  have J1 : Hid (∀ W, Below w6.heap.size w6 W → W.heap[w.heap.size]? = some (.cells #[.int .i64 f, .int .i64 t, .int .i64 fl, .int .i64 tl, .int .i64 sq, .int .i64 ak, .string ps] 23 (0, 0))) := fun W h => K1.out W (bT (bT (bT (bT (bT B2.out B3.out) B4.out) B5.out) B6.out) h)
  have J3 : Hid (∀ W, Below w6.heap.size w6 W → W.heap[w2.heap.size]? = some (.cells #[.int .i64 g, .int .i64 u, .int .i64 gl, .int .i64 ul, .int .i64 rq, .int .i64 bk, .string qs] 23 (0, 0))) := fun W h => K3.out W (bT (bT (bT B4.out B5.out) B6.out) h)
  have J5 : Hid (∀ W, Below w6.heap.size w6 W → W.heap[w4.heap.size]? = some (.cells #[.int .i64 g, .int .i64 u, .int .i64 gl, .int .i64 ul, .int .i64 rq, .int .i64 bk, .string qs] 28 (0, 0))) := fun W h => K5.out W (bT B6.out h)
  clear K1 K3 K5 d1 d2 n1 n2 h5 h6
  cases PB <;> (
    refine wp_region_quiet (C := fun w' => Below w6.heap.size w6 w') (by kernel_rfl) (by kernel_rfl) ((Below.refl _ _).drew) ?_
    dsimp only
    repeat (first
      | go_big_quiet_skip
      | (go_big_quiet_want
         apply Exists.intro
         refine ⟨fun W' hW' => ?_, ?_⟩
         · have hw : Below w6.heap.size w6 W' := hW'
           have hk1 := J1.out W' hw
           have hk3 := J3.out W' hw
           have hk5 := J5.out W' hw
           have hk6 := K6.out W' hw
           have c0 : W'.cell? ⟨w.heap.size, 0, none⟩ = some (.int .i64 f) := by rw [Lib.cell_of_heap hk1]; rfl
           have c1 : W'.cell? ⟨w.heap.size, 1, none⟩ = some (.int .i64 t) := by rw [Lib.cell_of_heap hk1]; rfl
           have c2 : W'.cell? ⟨w.heap.size, 2, none⟩ = some (.int .i64 fl) := by rw [Lib.cell_of_heap hk1]; rfl
           have c3 : W'.cell? ⟨w.heap.size, 3, none⟩ = some (.int .i64 tl) := by rw [Lib.cell_of_heap hk1]; rfl
           have c4 : W'.cell? ⟨w.heap.size, 4, none⟩ = some (.int .i64 sq) := by rw [Lib.cell_of_heap hk1]; rfl
           have c5 : W'.cell? ⟨w.heap.size, 5, none⟩ = some (.int .i64 ak) := by rw [Lib.cell_of_heap hk1]; rfl
           have c6 : W'.cell? ⟨w.heap.size, 6, none⟩ = some (.string ps) := by rw [Lib.cell_of_heap hk1]; rfl
           have d0 : W'.cell? ⟨w2.heap.size, 0, none⟩ = some (.int .i64 g) := by rw [Lib.cell_of_heap hk3]; rfl
           have d1 : W'.cell? ⟨w2.heap.size, 1, none⟩ = some (.int .i64 u) := by rw [Lib.cell_of_heap hk3]; rfl
           have d2 : W'.cell? ⟨w2.heap.size, 2, none⟩ = some (.int .i64 gl) := by rw [Lib.cell_of_heap hk3]; rfl
           have d3 : W'.cell? ⟨w2.heap.size, 3, none⟩ = some (.int .i64 ul) := by rw [Lib.cell_of_heap hk3]; rfl
           have d4 : W'.cell? ⟨w2.heap.size, 4, none⟩ = some (.int .i64 rq) := by rw [Lib.cell_of_heap hk3]; rfl
           have d5 : W'.cell? ⟨w2.heap.size, 5, none⟩ = some (.int .i64 bk) := by rw [Lib.cell_of_heap hk3]; rfl
           have d6 : W'.cell? ⟨w2.heap.size, 6, none⟩ = some (.string qs) := by rw [Lib.cell_of_heap hk3]; rfl
           have e0 : W'.cell? ⟨w4.heap.size, 0, none⟩ = some (.int .i64 g) := by rw [Lib.cell_of_heap hk5]; rfl
           have e1 : W'.cell? ⟨w4.heap.size, 1, none⟩ = some (.int .i64 u) := by rw [Lib.cell_of_heap hk5]; rfl
           have e2 : W'.cell? ⟨w4.heap.size, 2, none⟩ = some (.int .i64 gl) := by rw [Lib.cell_of_heap hk5]; rfl
           have e3 : W'.cell? ⟨w4.heap.size, 3, none⟩ = some (.int .i64 ul) := by rw [Lib.cell_of_heap hk5]; rfl
           have e4 : W'.cell? ⟨w4.heap.size, 4, none⟩ = some (.int .i64 rq) := by rw [Lib.cell_of_heap hk5]; rfl
           have e5 : W'.cell? ⟨w4.heap.size, 5, none⟩ = some (.int .i64 bk) := by rw [Lib.cell_of_heap hk5]; rfl
           have e6 : W'.cell? ⟨w4.heap.size, 6, none⟩ = some (.string qs) := by rw [Lib.cell_of_heap hk5]; rfl
           have g0 : W'.cell? ⟨w5.heap.size, 0, none⟩ = some (.int .i64 f) := by rw [Lib.cell_of_heap hk6]; rfl
           have g1 : W'.cell? ⟨w5.heap.size, 1, none⟩ = some (.int .i64 t) := by rw [Lib.cell_of_heap hk6]; rfl
           have g2 : W'.cell? ⟨w5.heap.size, 2, none⟩ = some (.int .i64 fl) := by rw [Lib.cell_of_heap hk6]; rfl
           have g3 : W'.cell? ⟨w5.heap.size, 3, none⟩ = some (.int .i64 tl) := by rw [Lib.cell_of_heap hk6]; rfl
           have g4 : W'.cell? ⟨w5.heap.size, 4, none⟩ = some (.int .i64 sq) := by rw [Lib.cell_of_heap hk6]; rfl
           have g5 : W'.cell? ⟨w5.heap.size, 5, none⟩ = some (.int .i64 ak) := by rw [Lib.cell_of_heap hk6]; rfl
           have g6 : W'.cell? ⟨w5.heap.size, 6, none⟩ = some (.string ps) := by rw [Lib.cell_of_heap hk6]; rfl
           clear hk1 hk3 hk5 hk6
           go_simp
           first
             | done
             | rfl
             | (go_at_call 4; (with_reducible refine Calls.mono (HAw.out W' (bT HB6.out hw)) ?_); rintro e w'' ⟨rfl, hb⟩; exact ⟨rfl, hw.trans (hb.mono hw.size)⟩)
             | (go_at_call 7; (with_reducible refine Calls.mono (HC1.out W') ?_); rintro e w'' ⟨rfl, hb⟩; exact ⟨rfl, hw.trans (hb.mono hw.size)⟩)
             | (go_at_call 8; (with_reducible refine Calls.mono (HC2.out W') ?_); rintro e w'' ⟨rfl, hb⟩; exact ⟨rfl, hw.trans (hb.mono hw.size)⟩)
             | (go_at_call 9; (with_reducible refine Calls.mono (HT1c.out W' (bT HB6.out hw)) ?_); rintro e w'' ⟨rfl, hb⟩; exact ⟨rfl, hw.trans (hb.mono hw.size)⟩)
             | (go_at_call 10; (with_reducible refine Calls.mono (HT2c.out W') ?_); rintro e w'' ⟨rfl, hb⟩; exact ⟨rfl, hw.trans (hb.mono hw.size)⟩)
         go_big_quiet_on
         try simp only [Act.put, List.setIfInBounds_toArray, List.set_cons_zero, List.set_cons_succ]))
    refine wpQuiet_nil ?_
    intro w7 hq
    have B7 : Hid (Below w.heap.size w w7) := bT HB6.out hq
    clear hq
    go_wp2
    go_ret
    exact ⟨by first | rfl | simp, B7.out⟩)
end Go.Proofs.YtoplpohpodkpdaaGreatDoor
/- WirePackets: the law's walk, out of its core and of the examples (awake). -/
namespace Go.Proofs.YtoplpohpodkpdaaGreatDoor
open Go.RowKit

theorem wirePackets_walk (x : Pk) (s : ByteArray) (w : World) (_ : x.s.size ≤ maxLen) (h : PO w ∧ Q.Tab w) :
    Calls Tryz.prog 3 #[.agg x.cells, .string s] w fun e w' => e = .returned (.bool true) ∧ Below w.heap.size w w' :=
  wirePackets_core x s w h.2 fun W hb => awake11_any W (h.1.below hb) (h.2.below hb h.2.size)
end Go.Proofs.YtoplpohpodkpdaaGreatDoor
