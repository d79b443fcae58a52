/- The law ViewChecks: its walk. -/
import Derived.Test.YtpepdcbhimjddaaDoorVwQ
import Derived.Test.YtpepdcbhimjddaaDoorVwS
import Derived.Test.YtpepdcbhimjddaaDoorVwT
namespace Go.Proofs.YtpepdcbhimjddaaDoor
open Go.RowKit

theorem fsM_len (l : List Int) : (if fsB l = true then fsM l else []).length ≤ l.length := by
  split
  · simp [fsM]
  · simp
set_option maxRecDepth 100000 in
set_option maxHeartbeats 4000000 in
theorem viewChecks_walk (ep : Int) (v : Value) (l : List Mb) (v' : Value) (ns : List Int) (node : Int) (w : World) (hr : IsRow w 3 v l.length (mCells l)) (hl : l.length ≤ 140737488355328) (hr' : IsRow w 1 v' ns.length (iCells ns)) (hl' : ns.length ≤ 140737488355328) (hT : Q.Tab w) :
    Calls Tryd.prog 3 #[vwV ep v, v', .int .i64 node] w fun e w' => e = .returned (.bool true) ∧ Below w.heap.size w w' := by
  obtain ⟨a0, cap0, rfl⟩ := hr.form
  obtain ⟨a', cap', rfl⟩ := hr'.form
  have HR : Hid (∀ w', Below w.heap.size w w' → IsRow w' 3 (.slice a0 l.length cap0) l.length (mCells l)) := fun w' h => hr.below h
  have HR' : Hid (∀ w', Below w.heap.size w w' → IsRow w' 1 (.slice a' ns.length cap') ns.length (iCells ns)) := fun w' h => hr'.below h
  have HT : Hid (∀ w', Below w.heap.size w w' → Q.Tab w') := fun w' h => hT.below h hT.size
  have HAw : Hid (∀ W, Below w.heap.size w W → Calls Tryd.prog 9 #[] W fun e w' => e = .returned (.bool true) ∧ Below W.heap.size W w') := fun W h => awake14_any W (HT.out W h)
  have HB0 : Hid (Below w.heap.size w (w.alloc (.cells #[.int .i64 ep, .slice a0 l.length cap0] 24))) := al_belowV w _
  have HFw : Hid (∀ W, Calls Tryd.prog 8 #[.agg #[.int .i64 ep, .slice a0 l.length cap0]] W fun e w' => e = .returned (.bool (decide (l.length ≤ 40))) ∧ Below W.heap.size W w') := fun W => few_anyV ep a0 l.length cap0 W hl
  clear hr hT HT hr'
  go_enter Tryd.func3, Tryd.ntmps3
  go_wp2_with fail
  refine (HFw.out _).mono ?_
  rintro e w1 ⟨rfl, hb1⟩
  have HB1 : Hid (Below w.heap.size w w1) := HB0.out.trans (hb1.mono HB0.out.size)
  have HH1 : Hid (w1.heap[w.heap.size]? = some (.cells #[.int .i64 ep, .slice a0 l.length cap0] 24 (0, 0))) := (hb1.block _ (by simp)).trans (alloc_top w _)
  have hs1 := HB1.out.size
  obtain ⟨p0, p1, -, -⟩ := two_V HH1.out
  have hg1 := (heap_at HH1.out).2.2
  clear hb1 HB0 HFw
  by_cases h40 : l.length ≤ 40
  case neg =>
    rw [decide_eq_false h40]
    go_wp2_with fail
    refine (HAw.out _ HB1.out).mono ?_
    rintro e w2 ⟨rfl, hb2⟩
    have HB2 : Hid (Below w.heap.size w w2) := HB1.out.trans (hb2.mono hs1)
    clear hb2
    go_wp2
    go_ret
    exact ⟨rfl, HB2.out⟩
  rw [decide_eq_true h40]
  by_cases h41 : 40 < ns.length
  · have d41 : decide ((40 : Int) < (ns.length : Int)) = true := decide_eq_true (by omega)
    have d41' : decide (40 < ns.length) = true := decide_eq_true h41
    go_wp2_with fail
    refine (HAw.out _ HB1.out).mono ?_
    rintro e w2 ⟨rfl, hb2⟩
    have HB2 : Hid (Below w.heap.size w w2) := HB1.out.trans (hb2.mono hs1)
    clear hb2
    go_wp2
    go_ret
    exact ⟨rfl, HB2.out⟩
  have d41 : decide ((40 : Int) < (ns.length : Int)) = false := decide_eq_false (by omega)
  have d41' : decide (40 < ns.length) = false := decide_eq_false h41
  have HRf : Hid (Calls Tryd.prog 10 #[.agg #[.int .i64 ep, .slice a0 l.length cap0]] w1 fun e w' => RfPost ep l w1 e w') := ref_any ep _ l w1 (HR.out w1 HB1.out) (by omega)
  have HFi : Hid (∀ W, Below w.heap.size w W → Calls Tryd.prog 11 #[.slice a' ns.length cap'] W fun e w' => VwPost (if fsB ns = true then 1 else 0) (if fsB ns = true then fsM ns else []) (if fsB ns = true then 0 else 1) W e w') := fun W h => first_any _ ns W (HR'.out W h) (by omega)
  have HFr : Hid (∀ W, Below w.heap.size w W → Calls Tryd.prog 12 #[.slice a' ns.length cap'] W fun e w' => VwPost (if fsB ns = true then 1 else 0) (if fsB ns = true then fsM ns else []) (if fsB ns = true then 0 else 1) W e w') := fun W h => refFirst_any _ ns W (HR'.out W h) (by omega)
  have hlf := fsM_len ns
  generalize (if fsB ns = true then (1 : Int) else 0) = E1 at *
  generalize (if fsB ns = true then fsM ns else []) = L1 at *
  generalize (if fsB ns = true then (0 : Int) else 1) = X1 at *
  clear HR'
  go_wp2_with fail
  refine HRf.out.mono ?_
  rintro e w2 ⟨v2, rfl, hr2, -, hb2⟩
  obtain ⟨a2, c2, rfl⟩ := hr2.form
  have hB2a : Below w1.heap.size w1 (w2.alloc (.cells #[.int .i64 ep, .slice a2 l.length c2] 30)) := hb2.trans ((al_belowV w2 _).mono hb2.size)
  have HB2a : Hid (Below w1.heap.size w1 (w2.alloc (.cells #[.int .i64 ep, .slice a2 l.length c2] 30))) := hB2a
  have HR2 : Hid (∀ w', Below (w2.alloc (.cells #[.int .i64 ep, .slice a2 l.length c2] 30)).heap.size (w2.alloc (.cells #[.int .i64 ep, .slice a2 l.length c2] 30)) w' → w'.heap[w.heap.size]? = some (.cells #[.int .i64 ep, .slice a0 l.length cap0] 24 (0, 0)) ∧ IsRow w' 3 (.slice a2 l.length c2) l.length (mCells l) ∧ w'.heap[w2.heap.size]? = some (.cells #[.int .i64 ep, .slice a2 l.length c2] 30 (0, 0))) := fun w' h => ⟨(h.block _ (by have := hB2a.size; omega)).trans ((hB2a.block _ hg1).trans HH1.out), (hr2.below (al_belowV w2 _)).below h, (h.block _ (by simp)).trans (alloc_top w2 _)⟩
  have HB2 : Hid (Below w.heap.size w (w2.alloc (.cells #[.int .i64 ep, .slice a2 l.length c2] 30))) := HB1.out.trans (hB2a.mono hs1)
  clear hr2 hb2 HRf hB2a
  go_wp2_with fail
  refine (HFi.out _ HB2.out).mono ?_
  rintro e w3 ⟨v3, rfl, hr3, -, hb3⟩
  obtain ⟨a3, c3, rfl⟩ := hr3.form
  have HX3 := HR2.out _ hb3
  have HB3 : Hid (Below w.heap.size w (w3.alloc (.cells #[.int .i64 E1, .slice a3 L1.length c3] 24))) := (HB2.out.trans (hb3.mono HB2.out.size)).alloc (by have := HB2.out.size; have := hb3.size; omega) _
  have HR3 : Hid (∀ w', Below (w3.alloc (.cells #[.int .i64 E1, .slice a3 L1.length c3] 24)).heap.size (w3.alloc (.cells #[.int .i64 E1, .slice a3 L1.length c3] 24)) w' → w'.heap[w.heap.size]? = some (.cells #[.int .i64 ep, .slice a0 l.length cap0] 24 (0, 0)) ∧ (IsRow w' 3 (.slice a2 l.length c2) l.length (mCells l) ∧ w'.heap[w2.heap.size]? = some (.cells #[.int .i64 ep, .slice a2 l.length c2] 30 (0, 0))) ∧ IsRow w' 3 (.slice a3 L1.length c3) L1.length (mCells L1) ∧ w'.heap[w3.heap.size]? = some (.cells #[.int .i64 E1, .slice a3 L1.length c3] 24 (0, 0))) := fun w' h => ⟨(h.block _ (by have := (heap_at HX3.1).2.2; simp; omega)).trans ((alloc_old _ _ (heap_at HX3.1).2.2).trans HX3.1), ⟨(HX3.2.1.below (al_belowV w3 _)).below h, (h.block _ (by have := (heap_at HX3.2.2).2.2; simp; omega)).trans ((alloc_old _ _ (heap_at HX3.2.2).2.2).trans HX3.2.2)⟩, (hr3.below (al_belowV w3 _)).below h, (h.block _ (by simp)).trans (alloc_top w3 _)⟩
  clear hr3 hb3 HFi HX3 HR2 HB2a HB2
  go_wp2_with fail
  refine (HFr.out _ HB3.out).mono ?_
  rintro e w4 ⟨v4, rfl, hr4, -, hb4⟩
  obtain ⟨a4, c4, rfl⟩ := hr4.form
  have HX4 := HR3.out _ hb4
  have HB4 : Hid (Below w.heap.size w (w4.alloc (.cells #[.int .i64 E1, .slice a4 L1.length c4] 30))) := (HB3.out.trans (hb4.mono HB3.out.size)).alloc (by have := HB3.out.size; have := hb4.size; omega) _
  have HR4 : Hid (∀ w', Below (w4.alloc (.cells #[.int .i64 E1, .slice a4 L1.length c4] 30)).heap.size (w4.alloc (.cells #[.int .i64 E1, .slice a4 L1.length c4] 30)) w' → w'.heap[w.heap.size]? = some (.cells #[.int .i64 ep, .slice a0 l.length cap0] 24 (0, 0)) ∧ (IsRow w' 3 (.slice a2 l.length c2) l.length (mCells l) ∧ w'.heap[w2.heap.size]? = some (.cells #[.int .i64 ep, .slice a2 l.length c2] 30 (0, 0))) ∧ (IsRow w' 3 (.slice a3 L1.length c3) L1.length (mCells L1) ∧ w'.heap[w3.heap.size]? = some (.cells #[.int .i64 E1, .slice a3 L1.length c3] 24 (0, 0))) ∧ IsRow w' 3 (.slice a4 L1.length c4) L1.length (mCells L1) ∧ w'.heap[w4.heap.size]? = some (.cells #[.int .i64 E1, .slice a4 L1.length c4] 30 (0, 0))) := fun w' h => ⟨(h.block _ (by have := (heap_at HX4.1).2.2; simp; omega)).trans ((alloc_old _ _ (heap_at HX4.1).2.2).trans HX4.1), ⟨(HX4.2.1.1.below (al_belowV w4 _)).below h, (h.block _ (by have := (heap_at HX4.2.1.2).2.2; simp; omega)).trans ((alloc_old _ _ (heap_at HX4.2.1.2).2.2).trans HX4.2.1.2)⟩, ⟨(HX4.2.2.1.below (al_belowV w4 _)).below h, (h.block _ (by have := (heap_at HX4.2.2.2).2.2; simp; omega)).trans ((alloc_old _ _ (heap_at HX4.2.2.2).2.2).trans HX4.2.2.2)⟩, (hr4.below (al_belowV w4 _)).below h, (h.block _ (by simp)).trans (alloc_top w4 _)⟩
  clear hr4 hb4 HFr HX4 HR3 HB3
  have hX := HR4.out _ (Below.refl _ _)
  obtain ⟨z0, z1, -, -⟩ := two_V hX.2.1.2
  have HLv : Hid (Calls Tryd.prog 13 #[.agg #[.int .i64 ep, .slice a2 l.length c2]] (w4.alloc (.cells #[.int .i64 E1, .slice a4 L1.length c4] 30)) fun e w' => LvPost (lvL ep l) (w4.alloc (.cells #[.int .i64 E1, .slice a4 L1.length c4] 30)) e w') := refLive_any ep _ l _ hX.2.1.1 (by omega)
  clear hX
  go_wp2_with fail
  refine HLv.out.mono ?_
  rintro e w5 ⟨v5, rfl, hr5, -, hb5⟩
  obtain ⟨a5, c5, rfl⟩ := hr5.form
  have hbw : Below w.heap.size w w5 := HB4.out.trans (hb5.mono HB4.out.size)
  have HX5 := HR4.out _ hb5
  have hRows : ∀ w', Below w5.heap.size w5 w' → IsRow w' 3 (.slice a2 l.length c2) l.length (mCells l) ∧ IsRow w' 3 (.slice a3 L1.length c3) L1.length (mCells L1) ∧ IsRow w' 3 (.slice a4 L1.length c4) L1.length (mCells L1) ∧ IsRow w' 1 (.slice a5 (lvL ep l).length c5) (lvL ep l).length (iCells (lvL ep l)) := fun w' h => ⟨HX5.2.1.1.below h, HX5.2.2.1.1.below h, HX5.2.2.2.1.below h, hr5.below h⟩
  have t1 := two_V HX5.1
  have t2 := two_V HX5.2.1.2
  have t3 := two_V HX5.2.2.1.2
  have t4 := two_V HX5.2.2.2.2
  have k1 := (heap_at HX5.1).2.2
  have k2 := (heap_at HX5.2.1.2).2.2
  have k3 := (heap_at HX5.2.2.1.2).2.2
  have k4 := (heap_at HX5.2.2.2.2).2.2
  have hlv : (lvL ep l).length ≤ 1000000 := by
    have h1 : (lvL ep l).length ≤ l.length := by
      unfold lvL
      split
      · exact upN_len l
      · simp
    omega
  clear hr5 hb5 HX5 HR4 HB4 HLv p0 p1 HB1 HH1 z0 z1
  go_wp2_with fail
  have hS : VT w5 w.heap.size w2.heap.size w3.heap.size w4.heap.size (.int .i64 ep) (.slice a0 l.length cap0) (.int .i64 ep) (.slice a2 l.length c2) (.int .i64 E1) (.slice a3 L1.length c3) (.int .i64 E1) (.slice a4 L1.length c4) w5 := ⟨t1.1, t1.2.1, t2.1, t2.2.1, t3.1, t3.2.1, t4.1, t4.2.1, Below.refl _ _⟩
  have HVc : Hid (∀ W w', Below W.heap.size W w' → VT w5 w.heap.size w2.heap.size w3.heap.size w4.heap.size (.int .i64 ep) (.slice a0 l.length cap0) (.int .i64 ep) (.slice a2 l.length c2) (.int .i64 E1) (.slice a3 L1.length c3) (.int .i64 E1) (.slice a4 L1.length c4) W → VT w5 w.heap.size w2.heap.size w3.heap.size w4.heap.size (.int .i64 ep) (.slice a0 l.length cap0) (.int .i64 ep) (.slice a2 l.length c2) (.int .i64 E1) (.slice a3 L1.length c3) (.int .i64 E1) (.slice a4 L1.length c4) w') := fun W w' hb h => VT_call k1 k2 k3 k4 hb h
  have HU : Hid (∀ W, Below w5.heap.size w5 W → Below w.heap.size w W) := fun W h => hbw.trans (h.mono hbw.size)
  have HA2 : Hid (∀ W, Below w5.heap.size w5 W → Calls Tryd.prog 9 #[] W fun e w' => e = .returned (.bool true) ∧ Below W.heap.size W w') := fun W h => HAw.out W (HU.out W h)
  have HCk : Hid (∀ W, Below w5.heap.size w5 W → Calls Tryd.prog 14 #[.agg #[.int .i64 ep, .slice a0 l.length cap0]] W fun e w' => e = .returned (.bool (vB ep l)) ∧ Below W.heap.size W w') := fun W h => check_any ep _ l W (HR.out W (HU.out W h)) hl
  have HCr : Hid (∀ W, Below w5.heap.size w5 W → Calls Tryd.prog 15 #[.agg #[.int .i64 ep, .slice a2 l.length c2]] W fun e w' => e = .returned (.bool (vB ep l)) ∧ Below W.heap.size W w') := fun W h => refCheck_any ep _ l W (hRows W h).1 (by omega)
  have HRg : Hid (∀ W, Below w5.heap.size w5 W → Calls Tryd.prog 10 #[.agg #[.int .i64 E1, .slice a3 L1.length c3]] W fun e w' => ∃ ra rc, e = .returned (.agg #[.int .i64 E1, .slice ra L1.length rc]) ∧ IsRow w' 3 (.slice ra L1.length rc) L1.length (mCells L1) ∧ Below W.heap.size W w') := fun W h => by
    refine (ref_any E1 _ L1 W (hRows W h).2.1 (by omega)).mono ?_
    rintro e w' ⟨v', rfl, h1, -, h2⟩
    obtain ⟨ra, rc, rfl⟩ := h1.form
    exact ⟨ra, rc, rfl, h1, h2⟩
  have HSg : Hid (∀ ra rc W, IsRow W 3 (.slice ra L1.length rc) L1.length (mCells L1) → Below w5.heap.size w5 W → Calls Tryd.prog 16 #[.agg #[.int .i64 E1, .slice ra L1.length rc], .agg #[.int .i64 E1, .slice a4 L1.length c4]] W fun e w' => e = .returned (.bool true) ∧ Below W.heap.size W w') := fun ra rc W hr h => refSame_eq E1 _ _ L1 W hr (hRows W h).2.2.1 (by omega)
  have HLg : Hid (∀ W, Below w5.heap.size w5 W → Calls Tryd.prog 18 #[.agg #[.int .i64 ep, .slice a0 l.length cap0]] W fun e w' => ∃ ra rc, e = .returned (.slice ra (lvL ep l).length rc) ∧ IsRow w' 1 (.slice ra (lvL ep l).length rc) (lvL ep l).length (iCells (lvL ep l)) ∧ Below W.heap.size W w') := fun W h => by
    refine (live_any ep _ l W (HR.out W (HU.out W h)) (by omega)).mono ?_
    rintro e w' ⟨v', rfl, h1, -, h2⟩
    obtain ⟨ra, rc, rfl⟩ := h1.form
    exact ⟨ra, rc, rfl, h1, h2⟩
  have HSl : Hid (∀ ra rc W, IsRow W 1 (.slice ra (lvL ep l).length rc) (lvL ep l).length (iCells (lvL ep l)) → Below w5.heap.size w5 W → Calls Tryd.prog 17 #[.slice ra (lvL ep l).length rc, .slice a5 (lvL ep l).length c5] W fun e w' => e = .returned (.bool true) ∧ Below W.heap.size W w') := fun ra rc W hr h => same_eq _ _ (lvL ep l) W hr (hRows W h).2.2.2 hlv
  have HLi : Hid (∀ W, Below w5.heap.size w5 W → Calls Tryd.prog 19 #[.agg #[.int .i64 ep, .slice a0 l.length cap0], .int .i64 node] W fun e w' => e = .returned (.int .i64 (lfL ep l node)) ∧ Below W.heap.size W w') := fun W h => life_any ep _ l node W (HR.out W (HU.out W h)) hl
  have HLr : Hid (∀ W, Below w5.heap.size w5 W → Calls Tryd.prog 20 #[.agg #[.int .i64 ep, .slice a2 l.length c2], .int .i64 node] W fun e w' => e = .returned (.int .i64 (lfL ep l node)) ∧ Below W.heap.size W w') := fun W h => refLife_any ep _ l node W (hRows W h).1 (by omega)
  have HUp : Hid (∀ W, Below w5.heap.size w5 W → Calls Tryd.prog 21 #[.agg #[.int .i64 ep, .slice a0 l.length cap0], .int .i64 node] W fun e w' => e = .returned (.bool (decide (node ∈ lvL ep l))) ∧ Below W.heap.size W w') := fun W h => isUp_any ep _ l node W (HR.out W (HU.out W h)) (by omega)
  have HHs : Hid (∀ W, Below w5.heap.size w5 W → Calls Tryd.prog 22 #[.slice a5 (lvL ep l).length c5, .int .i64 node] W fun e w' => e = .returned (.bool (decide (node ∈ lvL ep l))) ∧ Below W.heap.size W w') := fun W h => (has_any _ (lvL ep l) node W (hRows W h).2.2.2 hlv).mono fun e w' ⟨h1, h2⟩ => ⟨h1, by first | exact h2 | (subst h2; exact Below.refl _ _)⟩
  have HBw : Hid (Below w.heap.size w w5) := hbw
  clear t1 t2 t3 t4 hRows hbw HAw HR HU k1 k2 k3 k4
  generalize vB ep l = B at *
  generalize decide (node ∈ lvL ep l) = D at *
  generalize lfL ep l node = LF at *
  generalize lvL ep l = LV at *
  generalize w2.heap.size = N2 at *
  generalize w3.heap.size = N3 at *
  generalize w4.heap.size = N4 at *
  go_region_held3 (fun w' => VT w5 w.heap.size N2 N3 N4 (.int .i64 ep) (.slice a0 l.length cap0) (.int .i64 ep) (.slice a2 l.length c2) (.int .i64 E1) (.slice a3 L1.length c3) (.int .i64 E1) (.slice a4 L1.length c4) w')
    (first | with_reducible assumption | with_reducible exact VT_drew (by with_reducible assumption) | exact HVc.out _ _ hb (by with_reducible assumption))
    (first
      | (go_at_call 9; refine (HA2.out _ (VT_b (by with_reducible assumption))).mono ?_; rintro e w'' ⟨rfl, hb⟩)
      | (go_at_call 14; refine (HCk.out _ (VT_b (by with_reducible assumption))).mono ?_; rintro e w'' ⟨rfl, hb⟩)
      | (go_at_call 15; refine (HCr.out _ (VT_b (by with_reducible assumption))).mono ?_; rintro e w'' ⟨rfl, hb⟩)
      | (go_at_call 10; refine (HRg.out _ (VT_b (by with_reducible assumption))).mono ?_; rintro e w'' ⟨ra, rc, rfl, hrow, hb⟩)
      | (go_at_call 16; refine (HSg.out _ _ _ hrow (VT_b (by with_reducible assumption))).mono ?_; rintro e w'' ⟨rfl, hb⟩)
      | (go_at_call 18; refine (HLg.out _ (VT_b (by with_reducible assumption))).mono ?_; rintro e w'' ⟨rb, rd, rfl, hrow2, hb⟩)
      | (go_at_call 17; refine (HSl.out _ _ _ hrow2 (VT_b (by with_reducible assumption))).mono ?_; rintro e w'' ⟨rfl, hb⟩)
      | (go_at_call 19; refine (HLi.out _ (VT_b (by with_reducible assumption))).mono ?_; rintro e w'' ⟨rfl, hb⟩)
      | (go_at_call 20; refine (HLr.out _ (VT_b (by with_reducible assumption))).mono ?_; rintro e w'' ⟨rfl, hb⟩)
      | (go_at_call 21; refine (HUp.out _ (VT_b (by with_reducible assumption))).mono ?_; rintro e w'' ⟨rfl, hb⟩)
      | (go_at_call 22; refine (HHs.out _ (VT_b (by with_reducible assumption))).mono ?_; rintro e w'' ⟨rfl, hb⟩))
  rename_i hS9
  have HB9 : Hid (Below w.heap.size w _) := HBw.out.trans ((VT_b hS9).mono HBw.out.size)
  clear hS9 hS
  go_wp2
  go_ret
  exact ⟨rfl, HB9.out⟩
end Go.Proofs.YtpepdcbhimjddaaDoor
