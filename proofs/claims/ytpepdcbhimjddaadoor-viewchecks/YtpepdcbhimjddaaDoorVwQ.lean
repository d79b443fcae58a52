/- The law ViewTurns: its walk. -/
import Derived.Test.YtpepdcbhimjddaaDoorVwO
import Derived.Test.YtpepdcbhimjddaaDoorVwMd
namespace Go.Proofs.YtpepdcbhimjddaaDoor
open Go.RowKit

/-- Four views in their boxes, and nothing else turned. -/
abbrev VT (W0 : World) (b1 b2 b3 b4 : Nat) (x1 y1 x2 y2 x3 y3 x4 y4 : Value) (w : World) : Prop :=
  w.cell? ⟨b1, 0, none⟩ = some x1 ∧ w.cell? ⟨b1, 1, none⟩ = some y1 ∧ w.cell? ⟨b2, 0, none⟩ = some x2 ∧ w.cell? ⟨b2, 1, none⟩ = some y2 ∧ w.cell? ⟨b3, 0, none⟩ = some x3 ∧ w.cell? ⟨b3, 1, none⟩ = some y3 ∧ w.cell? ⟨b4, 0, none⟩ = some x4 ∧ w.cell? ⟨b4, 1, none⟩ = some y4 ∧ Below W0.heap.size W0 w
theorem VT_drew {W0 : World} {b1 b2 b3 b4 : Nat} {x1 y1 x2 y2 x3 y3 x4 y4 : Value} {w : World} (h : VT W0 b1 b2 b3 b4 x1 y1 x2 y2 x3 y3 x4 y4 w) : VT W0 b1 b2 b3 b4 x1 y1 x2 y2 x3 y3 x4 y4 w.drew :=
  ⟨h.1, h.2.1, h.2.2.1, h.2.2.2.1, h.2.2.2.2.1, h.2.2.2.2.2.1, h.2.2.2.2.2.2.1, h.2.2.2.2.2.2.2.1, h.2.2.2.2.2.2.2.2.drew⟩
theorem VT_b {W0 : World} {b1 b2 b3 b4 : Nat} {x1 y1 x2 y2 x3 y3 x4 y4 : Value} {w : World} (h : VT W0 b1 b2 b3 b4 x1 y1 x2 y2 x3 y3 x4 y4 w) : Below W0.heap.size W0 w := h.2.2.2.2.2.2.2.2
theorem VT_call {W0 : World} {b1 b2 b3 b4 : Nat} {x1 y1 x2 y2 x3 y3 x4 y4 : Value} {w w' : World} (k1 : b1 < W0.heap.size) (k2 : b2 < W0.heap.size) (k3 : b3 < W0.heap.size) (k4 : b4 < W0.heap.size) (hb : Below w.heap.size w w') (h : VT W0 b1 b2 b3 b4 x1 y1 x2 y2 x3 y3 x4 y4 w) : VT W0 b1 b2 b3 b4 x1 y1 x2 y2 x3 y3 x4 y4 w' := by
  have hs := (VT_b h).size
  refine ⟨(hb.cell (p := ⟨b1, 0, none⟩) (by show b1 < _; omega)).trans h.1, (hb.cell (p := ⟨b1, 1, none⟩) (by show b1 < _; omega)).trans h.2.1, (hb.cell (p := ⟨b2, 0, none⟩) (by show b2 < _; omega)).trans h.2.2.1, (hb.cell (p := ⟨b2, 1, none⟩) (by show b2 < _; omega)).trans h.2.2.2.1, (hb.cell (p := ⟨b3, 0, none⟩) (by show b3 < _; omega)).trans h.2.2.2.2.1, (hb.cell (p := ⟨b3, 1, none⟩) (by show b3 < _; omega)).trans h.2.2.2.2.2.1, (hb.cell (p := ⟨b4, 0, none⟩) (by show b4 < _; omega)).trans h.2.2.2.2.2.2.1, (hb.cell (p := ⟨b4, 1, none⟩) (by show b4 < _; omega)).trans h.2.2.2.2.2.2.2.1, (VT_b h).trans (hb.mono hs)⟩
theorem tLs_len (ep : Int) (up : Bool) (node : Int) (l : List Mb) : (tLs ep up node l).length ≤ l.length := by
  unfold tLs
  split
  · simp
  · simp
set_option maxRecDepth 100000 in
set_option maxHeartbeats 4000000 in
theorem viewTurns_walk (ep : Int) (v : Value) (l : List Mb) (node : Int) (w : World) (hr : IsRow w 3 v l.length (mCells l)) (hl : l.length ≤ 140737488355328) (hT : Q.Tab w) :
    Calls Tryd.prog 4 #[vwV ep v, .int .i64 node] w fun e w' => e = .returned (.bool true) ∧ Below w.heap.size w w' := by
  obtain ⟨a0, cap0, rfl⟩ := hr.form
  have HR : Hid (∀ w', Below w.heap.size w w' → IsRow w' 3 (.slice a0 l.length cap0) l.length (mCells l)) := fun w' h => hr.below h
  have HT : Hid (∀ w', Below w.heap.size w w' → Q.Tab w') := fun w' h => hT.below h hT.size
  have HAw : Hid (∀ W, Below w.heap.size w W → Calls Tryd.prog 9 #[] W fun e w' => e = .returned (.bool true) ∧ Below W.heap.size W w') := fun W h => awake14_any W (HT.out W h)
  have HB0 : Hid (Below w.heap.size w (w.alloc (.cells #[.int .i64 ep, .slice a0 l.length cap0] 24))) := al_belowV w _
  have HFw : Hid (∀ W, Calls Tryd.prog 8 #[.agg #[.int .i64 ep, .slice a0 l.length cap0]] W fun e w' => e = .returned (.bool (decide (l.length ≤ 40))) ∧ Below W.heap.size W w') := fun W => few_anyV ep a0 l.length cap0 W hl
  clear hr hT HT
  go_enter Tryd.func4, Tryd.ntmps4
  go_wp2_with fail
  refine (HFw.out _).mono ?_
  rintro e w1 ⟨rfl, hb1⟩
  have HB1 : Hid (Below w.heap.size w w1) := HB0.out.trans (hb1.mono HB0.out.size)
  have HH1 : Hid (w1.heap[w.heap.size]? = some (.cells #[.int .i64 ep, .slice a0 l.length cap0] 24 (0, 0))) := (hb1.block _ (by simp)).trans (alloc_top w _)
  have hs1 := HB1.out.size
  obtain ⟨p0, p1, -, -⟩ := two_V HH1.out
  have hg1 := (heap_at HH1.out).2.2
  clear hb1 HB0 HFw
  by_cases h40 : l.length ≤ 40
  case neg =>
    rw [decide_eq_false h40]
    go_wp2_with fail
    refine (HAw.out _ HB1.out).mono ?_
    rintro e w2 ⟨rfl, hb2⟩
    have HB2 : Hid (Below w.heap.size w w2) := HB1.out.trans (hb2.mono hs1)
    clear hb2
    go_wp2
    go_ret
    exact ⟨rfl, HB2.out⟩
  rw [decide_eq_true h40]
  have HDn : Hid (∀ W, Below w.heap.size w W → Calls Tryd.prog 23 #[.agg #[.int .i64 ep, .slice a0 l.length cap0], .int .i64 node] W fun e w' => VwPost (tEp ep false node l) (tLs ep false node l) (tE ep false node l) W e w') := fun W h => down_any ep _ l node W (HR.out W h) hl
  have HUp : Hid (∀ W, Below w.heap.size w W → Calls Tryd.prog 25 #[.agg #[.int .i64 ep, .slice a0 l.length cap0], .int .i64 node] W fun e w' => VwPost (tEp ep true node l) (tLs ep true node l) (tE ep true node l) W e w') := fun W h => up_any ep _ l node W (HR.out W h) hl
  have HRf : Hid (∀ W, Below w.heap.size w W → Calls Tryd.prog 10 #[.agg #[.int .i64 ep, .slice a0 l.length cap0]] W fun e w' => RfPost ep l W e w') := fun W h => ref_any ep _ l W (HR.out W h) (by omega)
  have HTd : Hid (∀ W v, IsRow W 3 v l.length (mCells l) → Calls Tryd.prog 24 #[.agg #[.int .i64 ep, v], .int .i64 node, .bool false] W fun e w' => VwPost (tEp ep false node l) (tLs ep false node l) (tE ep false node l) W e w') := fun W v h => refTurn_down ep v l node W h (by omega)
  have HTu : Hid (∀ W v, IsRow W 3 v l.length (mCells l) → Calls Tryd.prog 24 #[.agg #[.int .i64 ep, v], .int .i64 node, .bool true] W fun e w' => VwPost (tEp ep true node l) (tLs ep true node l) (tE ep true node l) W e w') := fun W v h => refTurn_up ep v l node W h (by omega)
  have hld := tLs_len ep false node l
  have hlu := tLs_len ep true node l
  generalize tEp ep false node l = ED at *
  generalize tE ep false node l = RD at *
  generalize tLs ep false node l = LD at *
  generalize tEp ep true node l = EU at *
  generalize tE ep true node l = RU at *
  generalize tLs ep true node l = LU at *
  clear HR
  go_wp2_with fail
  refine (HDn.out _ HB1.out).mono ?_
  rintro e w2 ⟨v2, rfl, hr2, -, hb2⟩
  obtain ⟨a2, c2, rfl⟩ := hr2.form
  have HB2a : Hid (Below w1.heap.size w1 (w2.alloc (.cells #[.int .i64 ED, .slice a2 LD.length c2] 24))) := hb2.trans ((al_belowV w2 _).mono hb2.size)
  have HR2 : Hid (∀ w', Below (w2.alloc (.cells #[.int .i64 ED, .slice a2 LD.length c2] 24)).heap.size (w2.alloc (.cells #[.int .i64 ED, .slice a2 LD.length c2] 24)) w' → IsRow w' 3 (.slice a2 LD.length c2) LD.length (mCells LD) ∧ w'.heap[w2.heap.size]? = some (.cells #[.int .i64 ED, .slice a2 LD.length c2] 24 (0, 0))) := fun w' h => ⟨(hr2.below (al_belowV w2 _)).below h, (h.block _ (by simp)).trans (alloc_top w2 _)⟩
  have q0 := (HB2a.out.cell (p := ⟨w.heap.size, 0, none⟩) hg1).trans p0
  have q1 := (HB2a.out.cell (p := ⟨w.heap.size, 1, none⟩) hg1).trans p1
  have hz2 : w.heap.size < w2.heap.size := Nat.lt_of_lt_of_le hg1 hb2.size
  have HB2 : Hid (Below w.heap.size w (w2.alloc (.cells #[.int .i64 ED, .slice a2 LD.length c2] 24))) := HB1.out.trans (HB2a.out.mono hs1)
  clear hr2 hb2 HDn
  go_wp2_with fail
  refine (HRf.out _ HB2.out).mono ?_
  rintro e w3 ⟨v3, rfl, hr3, -, hb3⟩
  obtain ⟨a3, c3, rfl⟩ := hr3.form
  have HTx := HTd.out _ _ hr3
  have HTx : Hid (Calls Tryd.prog 24 #[.agg #[.int .i64 ep, .slice a3 l.length c3], .int .i64 node, .bool false] w3 fun e w' => VwPost ED LD RD w3 e w') := HTx
  clear HTd hr3 q0 q1
  go_wp2_with fail
  refine HTx.out.mono ?_
  rintro e w4 ⟨v4, rfl, hr4, -, hb4⟩
  obtain ⟨a4, c4, rfl⟩ := hr4.form
  have HB4a : Hid (Below (w2.alloc (.cells #[.int .i64 ED, .slice a2 LD.length c2] 24)).heap.size (w2.alloc (.cells #[.int .i64 ED, .slice a2 LD.length c2] 24)) w4) := hb3.trans (hb4.mono hb3.size)
  have HX2 := HR2.out _ HB4a.out
  have HR4 : Hid (∀ w', Below (w4.alloc (.cells #[.int .i64 ED, .slice a4 LD.length c4] 30)).heap.size (w4.alloc (.cells #[.int .i64 ED, .slice a4 LD.length c4] 30)) w' → (IsRow w' 3 (.slice a2 LD.length c2) LD.length (mCells LD) ∧ w'.heap[w2.heap.size]? = some (.cells #[.int .i64 ED, .slice a2 LD.length c2] 24 (0, 0))) ∧ IsRow w' 3 (.slice a4 LD.length c4) LD.length (mCells LD) ∧ w'.heap[w4.heap.size]? = some (.cells #[.int .i64 ED, .slice a4 LD.length c4] 30 (0, 0))) := fun w' h => ⟨⟨(HX2.1.below (al_belowV w4 _)).below h, (h.block _ (by have := (heap_at HX2.2).2.2; simp; omega)).trans ((alloc_old _ _ (heap_at HX2.2).2.2).trans HX2.2)⟩, (hr4.below (al_belowV w4 _)).below h, (h.block _ (by simp)).trans (alloc_top w4 _)⟩
  have HB4b : Hid (Below w1.heap.size w1 (w4.alloc (.cells #[.int .i64 ED, .slice a4 LD.length c4] 30))) := (HB2a.out.trans (HB4a.out.mono HB2a.out.size)).alloc (by have := HB2a.out.size; have := HB4a.out.size; omega) _
  have q0 := (HB4b.out.cell (p := ⟨w.heap.size, 0, none⟩) hg1).trans p0
  have q1 := (HB4b.out.cell (p := ⟨w.heap.size, 1, none⟩) hg1).trans p1
  have HB4 : Hid (Below w.heap.size w (w4.alloc (.cells #[.int .i64 ED, .slice a4 LD.length c4] 30))) := HB1.out.trans (HB4b.out.mono hs1)
  have hz4 : w.heap.size < w4.heap.size := by have := HB4a.out.size; simp at this; omega
  clear hr4 hb3 hb4 HTx HX2 HR2 HB2a HB2 HB4a
  go_wp2_with fail
  refine (HUp.out _ HB4.out).mono ?_
  rintro e w5 ⟨v5, rfl, hr5, -, hb5⟩
  obtain ⟨a5, c5, rfl⟩ := hr5.form
  have HX4 := HR4.out _ hb5
  have HR5 : Hid (∀ w', Below (w5.alloc (.cells #[.int .i64 EU, .slice a5 LU.length c5] 24)).heap.size (w5.alloc (.cells #[.int .i64 EU, .slice a5 LU.length c5] 24)) w' → (IsRow w' 3 (.slice a2 LD.length c2) LD.length (mCells LD) ∧ w'.heap[w2.heap.size]? = some (.cells #[.int .i64 ED, .slice a2 LD.length c2] 24 (0, 0))) ∧ (IsRow w' 3 (.slice a4 LD.length c4) LD.length (mCells LD) ∧ w'.heap[w4.heap.size]? = some (.cells #[.int .i64 ED, .slice a4 LD.length c4] 30 (0, 0))) ∧ IsRow w' 3 (.slice a5 LU.length c5) LU.length (mCells LU) ∧ w'.heap[w5.heap.size]? = some (.cells #[.int .i64 EU, .slice a5 LU.length c5] 24 (0, 0))) := fun w' h => ⟨⟨(HX4.1.1.below (al_belowV w5 _)).below h, (h.block _ (by have := (heap_at HX4.1.2).2.2; simp; omega)).trans ((alloc_old _ _ (heap_at HX4.1.2).2.2).trans HX4.1.2)⟩, ⟨(HX4.2.1.below (al_belowV w5 _)).below h, (h.block _ (by have := (heap_at HX4.2.2).2.2; simp; omega)).trans ((alloc_old _ _ (heap_at HX4.2.2).2.2).trans HX4.2.2)⟩, (hr5.below (al_belowV w5 _)).below h, (h.block _ (by simp)).trans (alloc_top w5 _)⟩
  have HB5b : Hid (Below w1.heap.size w1 (w5.alloc (.cells #[.int .i64 EU, .slice a5 LU.length c5] 24))) := (HB4b.out.trans (hb5.mono HB4b.out.size)).alloc (by have := HB4b.out.size; have := hb5.size; omega) _
  clear q0 q1
  have q0 := (HB5b.out.cell (p := ⟨w.heap.size, 0, none⟩) hg1).trans p0
  have q1 := (HB5b.out.cell (p := ⟨w.heap.size, 1, none⟩) hg1).trans p1
  have HB5 : Hid (Below w.heap.size w (w5.alloc (.cells #[.int .i64 EU, .slice a5 LU.length c5] 24))) := HB1.out.trans (HB5b.out.mono hs1)
  have hz5 : w.heap.size < w5.heap.size := by have := hb5.size; simp at this; omega
  clear hr5 hb5 HX4 HR4 HB4b HB4 HUp
  go_wp2_with fail
  refine (HRf.out _ HB5.out).mono ?_
  rintro e w6 ⟨v6, rfl, hr6, -, hb6⟩
  obtain ⟨a6, c6, rfl⟩ := hr6.form
  have HTx : Hid (Calls Tryd.prog 24 #[.agg #[.int .i64 ep, .slice a6 l.length c6], .int .i64 node, .bool true] w6 fun e w' => VwPost EU LU RU w6 e w') := HTu.out _ _ hr6
  clear HTu hr6 q0 q1 HRf
  go_wp2_with fail
  refine HTx.out.mono ?_
  rintro e w7 ⟨v7, rfl, hr7, -, hb7⟩
  obtain ⟨a7, c7, rfl⟩ := hr7.form
  have hb67 : Below (w5.alloc (.cells #[.int .i64 EU, .slice a5 LU.length c5] 24)).heap.size (w5.alloc (.cells #[.int .i64 EU, .slice a5 LU.length c5] 24)) w7 := hb6.trans (hb7.mono hb6.size)
  have HX5 := HR5.out _ hb67
  have hbw : Below w.heap.size w (w7.alloc (.cells #[.int .i64 EU, .slice a7 LU.length c7] 30)) := (HB5.out.trans (hb67.mono HB5.out.size)).alloc (by have := HB5.out.size; have := hb67.size; omega) _
  have hRows : ∀ w', Below (w7.alloc (.cells #[.int .i64 EU, .slice a7 LU.length c7] 30)).heap.size (w7.alloc (.cells #[.int .i64 EU, .slice a7 LU.length c7] 30)) w' → IsRow w' 3 (.slice a2 LD.length c2) LD.length (mCells LD) ∧ IsRow w' 3 (.slice a4 LD.length c4) LD.length (mCells LD) ∧ IsRow w' 3 (.slice a5 LU.length c5) LU.length (mCells LU) ∧ IsRow w' 3 (.slice a7 LU.length c7) LU.length (mCells LU) := fun w' h => ⟨(HX5.1.1.below (al_belowV w7 _)).below h, (HX5.2.1.1.below (al_belowV w7 _)).below h, (HX5.2.2.1.below (al_belowV w7 _)).below h, (hr7.below (al_belowV w7 _)).below h⟩
  have t1 := two_V ((alloc_old w7 (.cells #[.int .i64 EU, .slice a7 LU.length c7] 30) (heap_at HX5.1.2).2.2).trans HX5.1.2)
  have t2 := two_V ((alloc_old w7 (.cells #[.int .i64 EU, .slice a7 LU.length c7] 30) (heap_at HX5.2.1.2).2.2).trans HX5.2.1.2)
  have t3 := two_V ((alloc_old w7 (.cells #[.int .i64 EU, .slice a7 LU.length c7] 30) (heap_at HX5.2.2.2).2.2).trans HX5.2.2.2)
  have t4 := two_V (alloc_top w7 (.cells #[.int .i64 EU, .slice a7 LU.length c7] 30))
  have k1 : w2.heap.size < (w7.alloc (.cells #[.int .i64 EU, .slice a7 LU.length c7] 30)).heap.size := by have := (heap_at HX5.1.2).2.2; simp; omega
  have k2 : w4.heap.size < (w7.alloc (.cells #[.int .i64 EU, .slice a7 LU.length c7] 30)).heap.size := by have := (heap_at HX5.2.1.2).2.2; simp; omega
  have k3 : w5.heap.size < (w7.alloc (.cells #[.int .i64 EU, .slice a7 LU.length c7] 30)).heap.size := by have := (heap_at HX5.2.2.2).2.2; simp; omega
  have k4 : w7.heap.size < (w7.alloc (.cells #[.int .i64 EU, .slice a7 LU.length c7] 30)).heap.size := by simp
  clear hr7 hb6 hb7 hb67 HX5 HR5 HB5 HB5b HTx p0 p1 HB1 HH1
  go_wp2_with fail
  generalize w7.heap.size = N7 at *
  generalize w7.alloc (.cells #[.int .i64 EU, .slice a7 LU.length c7] 30) = W7 at *
  have hS : VT W7 w2.heap.size w4.heap.size w5.heap.size N7 (.int .i64 ED) (.slice a2 LD.length c2) (.int .i64 ED) (.slice a4 LD.length c4) (.int .i64 EU) (.slice a5 LU.length c5) (.int .i64 EU) (.slice a7 LU.length c7) W7 := ⟨t1.1, t1.2.1, t2.1, t2.2.1, t3.1, t3.2.1, t4.1, t4.2.1, Below.refl _ _⟩
  generalize w2.heap.size = N2 at *
  generalize w4.heap.size = N4 at *
  generalize w5.heap.size = N5 at *
  have HVc : Hid (∀ W w', Below W.heap.size W w' → VT W7 N2 N4 N5 N7 (.int .i64 ED) (.slice a2 LD.length c2) (.int .i64 ED) (.slice a4 LD.length c4) (.int .i64 EU) (.slice a5 LU.length c5) (.int .i64 EU) (.slice a7 LU.length c7) W → VT W7 N2 N4 N5 N7 (.int .i64 ED) (.slice a2 LD.length c2) (.int .i64 ED) (.slice a4 LD.length c4) (.int .i64 EU) (.slice a5 LU.length c5) (.int .i64 EU) (.slice a7 LU.length c7) w') := fun W w' hb h => VT_call k1 k2 k3 k4 hb h
  have HA2 : Hid (∀ W, Below W7.heap.size W7 W → Calls Tryd.prog 9 #[] W fun e w' => e = .returned (.bool true) ∧ Below W.heap.size W w') := fun W h => HAw.out W (hbw.trans (h.mono hbw.size))
  have HRg : Hid (∀ x vv (L : List Mb), (x = ED ∧ vv = .slice a2 LD.length c2 ∧ L = LD) ∨ (x = EU ∧ vv = .slice a5 LU.length c5 ∧ L = LU) → ∀ W, Below W7.heap.size W7 W → Calls Tryd.prog 10 #[.agg #[.int .i64 x, vv]] W fun e w' => ∃ ra rc, e = .returned (.agg #[.int .i64 x, .slice ra L.length rc]) ∧ IsRow w' 3 (.slice ra L.length rc) L.length (mCells L) ∧ Below W.heap.size W w') := fun x vv L hx W h => by
    have hrow : IsRow W 3 vv L.length (mCells L) ∧ L.length ≤ 1000000 := by
      rcases hx with ⟨-, rfl, rfl⟩ | ⟨-, rfl, rfl⟩
      · exact ⟨(hRows W h).1, by omega⟩
      · exact ⟨(hRows W h).2.2.1, by omega⟩
    refine (ref_any x vv L W hrow.1 hrow.2).mono ?_
    rintro e w' ⟨v', rfl, h1, -, h2⟩
    obtain ⟨ra, rc, rfl⟩ := h1.form
    exact ⟨ra, rc, rfl, h1, h2⟩
  have HSg : Hid (∀ x ra rc vv (L : List Mb), (x = ED ∧ vv = .slice a4 LD.length c4 ∧ L = LD) ∨ (x = EU ∧ vv = .slice a7 LU.length c7 ∧ L = LU) → ∀ W, IsRow W 3 (.slice ra L.length rc) L.length (mCells L) → Below W7.heap.size W7 W → Calls Tryd.prog 16 #[.agg #[.int .i64 x, .slice ra L.length rc], .agg #[.int .i64 x, vv]] W fun e w' => e = .returned (.bool true) ∧ Below W.heap.size W w') := fun x ra rc vv L hx W hr h => by
    have hrow : IsRow W 3 vv L.length (mCells L) ∧ L.length ≤ 1000000 := by
      rcases hx with ⟨-, rfl, rfl⟩ | ⟨-, rfl, rfl⟩
      · exact ⟨(hRows W h).2.1, by omega⟩
      · exact ⟨(hRows W h).2.2.2, by omega⟩
    exact refSame_eq x _ vv L W hr hrow.1 hrow.2
  have HBw : Hid (Below w.heap.size w W7) := hbw
  clear t1 t2 t3 t4 hRows hbw HAw
  go_region_held3 (fun w' => VT W7 N2 N4 N5 N7 (.int .i64 ED) (.slice a2 LD.length c2) (.int .i64 ED) (.slice a4 LD.length c4) (.int .i64 EU) (.slice a5 LU.length c5) (.int .i64 EU) (.slice a7 LU.length c7) w')
    (first | with_reducible assumption | with_reducible exact VT_drew (by with_reducible assumption) | exact HVc.out _ _ hb (by with_reducible assumption))
    (first
      | (go_at_call 9; refine (HA2.out _ (VT_b (by with_reducible assumption))).mono ?_; rintro e w'' ⟨rfl, hb⟩)
      | (go_at_call 10; refine (HRg.out _ _ _ (by first | exact .inl ⟨rfl, rfl, rfl⟩ | exact .inr ⟨rfl, rfl, rfl⟩) _ (VT_b (by with_reducible assumption))).mono ?_; rintro e w'' ⟨ra, rc, rfl, hrow, hb⟩)
      | (go_at_call 16; refine (HSg.out _ _ _ _ _ (by first | exact .inl ⟨rfl, rfl, rfl⟩ | exact .inr ⟨rfl, rfl, rfl⟩) _ hrow (VT_b (by with_reducible assumption))).mono ?_; rintro e w'' ⟨rfl, hb⟩))
  rename_i hS9
  have HB9 : Hid (Below w.heap.size w _) := HBw.out.trans ((VT_b hS9).mono HBw.out.size)
  clear hS9 hS
  go_wp2
  go_ret
  exact ⟨rfl, HB9.out⟩
end Go.Proofs.YtpepdcbhimjddaaDoor
