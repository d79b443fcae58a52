/- The law ViewReads: its walk. -/
import Derived.Test.YtciibeldmcakeaaDoorVxE
import Derived.Test.YtciibeldmcakeaaDoorVwO
namespace Go.Proofs.YtciibeldmcakeaaDoor
open Go.RowKit

theorem vB_iff {ep : Int} {l : List Mb} : vB ep l = true ↔ VwP ep l := ⟨fun h => Classical.byContradiction fun hn => (by rw [vB_false hn] at h; exact absurd h (by simp)), vB_true⟩
theorem rrO_eq (s : ByteArray) : rrO s = rdO s := by
  cases h : rdO s with
  | some x =>
    obtain ⟨ep, l⟩ := x
    have ht := (tx_of_rd h).2
    have hs : ¬ s.size = 0 := fun h0 => by
      have e : s = e0 := by
        apply ByteArray.ext
        exact Array.eq_empty_of_size_eq_zero h0
      rw [e, rd_nil] at h
      cases h
    unfold rdO at h
    by_cases hc : hdE s = 0 ∧ hdC s ≤ 15
    · rw [if_pos hc] at h
      unfold rrO
      rw [if_pos hc.1, show min (hdC s).toNat 16 = (hdC s).toNat by omega]
      cases hr : rdL (hdC s).toNat (hdR s) with
      | none => rw [hr] at h; cases h
      | some r =>
        rw [hr] at h
        simp only [Option.bind_some] at h ⊢
        split at h
        · cases h
          rw [if_pos ⟨hs, ht⟩]
        · cases h
    · rw [if_neg hc] at h
      cases h
  | none =>
    unfold rrO
    split
    · cases hr : rdL (min (hdC s).toNat 16) (hdR s) with
      | none => rfl
      | some r =>
        simp only [Option.bind_some]
        split
        · rename_i hc
          exfalso
          by_cases hv : vB (hdN s) r.1 = true
          · have := rd_of_tx (vB_iff.1 hv)
            rw [hc.2, h] at this
            cases this
          · have e : txV (hdN s) r.1 = e0 := if_neg hv
            rw [e] at hc
            exact hc.1 (by rw [← hc.2]; rfl)
        · rfl
    · rfl
/-- Bytes as the law takes them: what view they say. -/
theorem rd_form (s : ByteArray) : ∃ (E : Int) (L : List Mb) (R : Int), (∀ w e w', RdPost (rdO s) w e w' → VwPost E L R w e w') ∧ L.length ≤ 15 ∧ ((R = 0 ∧ txV E L = s) ∨ R = 3) := by
  cases h : rdO s with
  | none => exact ⟨0, [], 3, fun _ _ _ h => h, by simp, .inr rfl⟩
  | some x =>
    obtain ⟨hv, ht⟩ := tx_of_rd h
    exact ⟨x.1, x.2, 0, fun _ _ _ h => h, hv.len, .inl ⟨rfl, ht⟩⟩
theorem rd_back (ep : Int) (l : List Mb) : (vB ep l = true ∧ ∀ w e w', RdPost (rdO (txV ep l)) w e w' → VwPost ep l 0 w e w') ∨ (vB ep l = false ∧ ∀ w e w', RdPost (rdO (txV ep l)) w e w' → VwPost 0 [] 3 w e w') := by
  by_cases hv : vB ep l = true
  · refine .inl ⟨hv, ?_⟩
    rw [rd_of_tx (vB_iff.1 hv)]
    exact fun _ _ _ h => h
  · refine .inr ⟨by simpa using hv, ?_⟩
    have e : txV ep l = e0 := if_neg hv
    rw [e, rd_nil]
    exact fun _ _ _ h => h
theorem numL_le (n : Int) : (Q.numL n).length ≤ 8 := by
  have h := Q.num_size_le n
  have e := congrArg List.length (num_list n)
  have e2 : (strOfNums (Q.numI n)).data.toList.length = (strOfNums (Q.numI n)).size := by simp
  omega
theorem itB_len : ∀ l : List Mb, ((l.flatMap itM).flatMap Q.itB).length ≤ 17 * l.length
  | [] => by simp
  | m :: l => by
    have h := itB_len l
    have h1 := numL_le m.nd
    have h2 := numL_le m.lf
    simp only [List.flatMap_cons, List.flatMap_append, List.length_append, List.length_cons]
    have e : ((itM m).flatMap Q.itB).length ≤ 17 := by
      simp [itM, Q.itB]
      omega
    omega
theorem txV_size (ep : Int) (l : List Mb) : (txV ep l).size ≤ 1000 := by
  unfold txV
  split
  · rename_i hv
    have h15 := (vB_iff.1 hv).len
    have h := itB_len l
    have h1 := numL_le ep
    have h2 := numL_le (l.length : Int)
    show (((itsV ep l.length l).flatMap Q.itB).toArray).size ≤ 1000
    simp [itsV, Q.itB] at h ⊢
    omega
  · exact Nat.zero_le _
/-- Three views in their boxes, and nothing else turned. -/
abbrev VX (W0 : World) (b1 b2 b3 : Nat) (x1 y1 x2 y2 x3 y3 : Value) (w : World) : Prop :=
  w.cell? ⟨b1, 0, none⟩ = some x1 ∧ w.cell? ⟨b1, 1, none⟩ = some y1 ∧ w.cell? ⟨b2, 0, none⟩ = some x2 ∧ w.cell? ⟨b2, 1, none⟩ = some y2 ∧ w.cell? ⟨b3, 0, none⟩ = some x3 ∧ w.cell? ⟨b3, 1, none⟩ = some y3 ∧ Below W0.heap.size W0 w
theorem VX_drew {W0 : World} {b1 b2 b3 : Nat} {x1 y1 x2 y2 x3 y3 : Value} {w : World} (h : VX W0 b1 b2 b3 x1 y1 x2 y2 x3 y3 w) : VX W0 b1 b2 b3 x1 y1 x2 y2 x3 y3 w.drew :=
  ⟨h.1, h.2.1, h.2.2.1, h.2.2.2.1, h.2.2.2.2.1, h.2.2.2.2.2.1, h.2.2.2.2.2.2.drew⟩
theorem VX_b {W0 : World} {b1 b2 b3 : Nat} {x1 y1 x2 y2 x3 y3 : Value} {w : World} (h : VX W0 b1 b2 b3 x1 y1 x2 y2 x3 y3 w) : Below W0.heap.size W0 w := h.2.2.2.2.2.2
theorem VX_call {W0 : World} {b1 b2 b3 : Nat} {x1 y1 x2 y2 x3 y3 : Value} {w w' : World} (k1 : b1 < W0.heap.size) (k2 : b2 < W0.heap.size) (k3 : b3 < W0.heap.size) (hb : Below w.heap.size w w') (h : VX W0 b1 b2 b3 x1 y1 x2 y2 x3 y3 w) : VX W0 b1 b2 b3 x1 y1 x2 y2 x3 y3 w' := by
  have hs := (VX_b h).size
  refine ⟨(hb.cell (p := ⟨b1, 0, none⟩) (by show b1 < _; omega)).trans h.1, (hb.cell (p := ⟨b1, 1, none⟩) (by show b1 < _; omega)).trans h.2.1, (hb.cell (p := ⟨b2, 0, none⟩) (by show b2 < _; omega)).trans h.2.2.1, (hb.cell (p := ⟨b2, 1, none⟩) (by show b2 < _; omega)).trans h.2.2.2.1, (hb.cell (p := ⟨b3, 0, none⟩) (by show b3 < _; omega)).trans h.2.2.2.2.1, (hb.cell (p := ⟨b3, 1, none⟩) (by show b3 < _; omega)).trans h.2.2.2.2.2.1, (VX_b h).trans (hb.mono hs)⟩
set_option maxRecDepth 100000 in
set_option maxHeartbeats 4000000 in
theorem viewReads_walk (ep : Int) (v : Value) (l : List Mb) (s : ByteArray) (w : World) (hr : IsRow w 3 v l.length (mCells l)) (hl : l.length ≤ 140737488355328) (hs : s.size ≤ 140737488355328) (hT : Q.Tab w) :
    Calls Tryd.prog 3 #[vwV ep v, .string s] w fun e w' => e = .returned (.bool true) ∧ Below w.heap.size w w' := by
  obtain ⟨a0, cap0, rfl⟩ := hr.form
  have HR : Hid (∀ w', Below w.heap.size w w' → IsRow w' 3 (.slice a0 l.length cap0) l.length (mCells l)) := fun w' h => hr.below h
  have HT : Hid (∀ w', Below w.heap.size w w' → Q.Tab w') := fun w' h => hT.below h hT.size
  have HAw : Hid (∀ W, Below w.heap.size w W → Calls Tryd.prog 5 #[] W fun e w' => e = .returned (.bool true) ∧ Below W.heap.size W w') := fun W h => awake14_any W (HT.out W h)
  have HB0 : Hid (Below w.heap.size w (w.alloc (.cells #[.int .i64 ep, .slice a0 l.length cap0] 24))) := al_belowV w _
  have HFw : Hid (∀ W, Calls Tryd.prog 4 #[.agg #[.int .i64 ep, .slice a0 l.length cap0]] W fun e w' => e = .returned (.bool (decide (l.length ≤ 40))) ∧ Below W.heap.size W w') := fun W => few_anyV ep a0 l.length cap0 W hl
  clear hr hT
  go_enter Tryd.func3, Tryd.ntmps3
  go_wp2_with fail
  refine (HFw.out _).mono ?_
  rintro e w1 ⟨rfl, hb1⟩
  have HB1 : Hid (Below w.heap.size w w1) := HB0.out.trans (hb1.mono HB0.out.size)
  have HH1 : Hid (w1.heap[w.heap.size]? = some (.cells #[.int .i64 ep, .slice a0 l.length cap0] 24 (0, 0))) := (hb1.block _ (by simp)).trans (alloc_top w _)
  have hs1 := HB1.out.size
  obtain ⟨p0, p1, -, -⟩ := two_V HH1.out
  have hg1 := (heap_at HH1.out).2.2
  clear hb1 HB0 HFw
  by_cases h40 : l.length ≤ 40
  case neg =>
    rw [decide_eq_false h40]
    go_wp2_with fail
    refine (HAw.out _ HB1.out).mono ?_
    rintro e w2 ⟨rfl, hb2⟩
    have HB2 : Hid (Below w.heap.size w w2) := HB1.out.trans (hb2.mono hs1)
    clear hb2
    go_wp2
    go_ret
    exact ⟨rfl, HB2.out⟩
  rw [decide_eq_true h40]
  by_cases h5 : s.size ≤ 500
  case neg =>
    have d5 : decide ((500 : Int) < (s.size : Int)) = true := by simp; omega
    go_wp2_with fail
    refine (HAw.out _ HB1.out).mono ?_
    rintro e w2 ⟨rfl, hb2⟩
    have HB2 : Hid (Below w.heap.size w w2) := HB1.out.trans (hb2.mono hs1)
    clear hb2
    go_wp2
    go_ret
    exact ⟨rfl, HB2.out⟩
  have d5 : decide ((500 : Int) < (s.size : Int)) = false := by simp; omega
  obtain ⟨E1, L1, R1, hRd, hL15, hR1⟩ := rd_form s
  have HRd : Hid (∀ W, Calls Tryd.prog 6 #[.string s] W fun e w' => VwPost E1 L1 R1 W e w') := fun W => (read_any s W hs).mono fun e w' h => hRd _ _ _ h
  have HRr : Hid (∀ W, Calls Tryd.prog 7 #[.string s] W fun e w' => VwPost E1 L1 R1 W e w') := fun W => (refRead_any s W hs).mono fun e w' h => hRd _ _ _ (by rw [← rrO_eq]; exact h)
  have HCs : Hid ((R1 = 0 ∧ txV E1 L1 = s) ∨ R1 = 3) := hR1
  clear hRd hR1
  go_wp2_with fail
  refine (HRd.out _).mono ?_
  rintro e w2 ⟨v2, rfl, hr2, -, hb2⟩
  obtain ⟨a2, c2, rfl⟩ := hr2.form
  have HB2a : Hid (Below w1.heap.size w1 (w2.alloc (.cells #[.int .i64 E1, .slice a2 L1.length c2] 24))) := hb2.trans ((al_belowV w2 _).mono hb2.size)
  have HR2 : Hid (∀ w', Below (w2.alloc (.cells #[.int .i64 E1, .slice a2 L1.length c2] 24)).heap.size (w2.alloc (.cells #[.int .i64 E1, .slice a2 L1.length c2] 24)) w' → IsRow w' 3 (.slice a2 L1.length c2) L1.length (mCells L1) ∧ w'.heap[w2.heap.size]? = some (.cells #[.int .i64 E1, .slice a2 L1.length c2] 24 (0, 0))) := fun w' h => ⟨(hr2.below (al_belowV w2 _)).below h, (h.block _ (by simp)).trans (alloc_top w2 _)⟩
  have hz2 : w.heap.size < w2.heap.size := Nat.lt_of_lt_of_le hg1 hb2.size
  clear hr2 hb2 HRd
  go_wp2_with fail
  refine (HRr.out _).mono ?_
  rintro e w4 ⟨v4, rfl, hr4, -, hb4⟩
  obtain ⟨a4, c4, rfl⟩ := hr4.form
  have HX2 := HR2.out _ hb4
  have hb24 : Below w1.heap.size w1 w4 := HB2a.out.trans (hb4.mono HB2a.out.size)
  have k1' : w2.heap.size < w4.heap.size := (heap_at HX2.2).2.2
  have HH4 := (hb24.block _ hg1).trans HH1.out
  have hbw : Below w.heap.size w (w4.alloc (.cells #[.int .i64 E1, .slice a4 L1.length c4] 32)) := (HB1.out.trans (hb24.mono hs1)).alloc (by have := hb24.size; omega) _
  have hRows : ∀ w', Below (w4.alloc (.cells #[.int .i64 E1, .slice a4 L1.length c4] 32)).heap.size (w4.alloc (.cells #[.int .i64 E1, .slice a4 L1.length c4] 32)) w' → IsRow w' 3 (.slice a2 L1.length c2) L1.length (mCells L1) ∧ IsRow w' 3 (.slice a4 L1.length c4) L1.length (mCells L1) := fun w' h => ⟨(HX2.1.below (al_belowV w4 _)).below h, (hr4.below (al_belowV w4 _)).below h⟩
  have t1 := two_V ((alloc_old w4 (.cells #[.int .i64 E1, .slice a4 L1.length c4] 32) (heap_at HH4).2.2).trans HH4)
  have t2 := two_V ((alloc_old w4 (.cells #[.int .i64 E1, .slice a4 L1.length c4] 32) k1').trans HX2.2)
  have t3 := two_V (alloc_top w4 (.cells #[.int .i64 E1, .slice a4 L1.length c4] 32))
  have k1 : w.heap.size < (w4.alloc (.cells #[.int .i64 E1, .slice a4 L1.length c4] 32)).heap.size := by simp; omega
  have k2 : w2.heap.size < (w4.alloc (.cells #[.int .i64 E1, .slice a4 L1.length c4] 32)).heap.size := by simp; omega
  have k3 : w4.heap.size < (w4.alloc (.cells #[.int .i64 E1, .slice a4 L1.length c4] 32)).heap.size := by simp
  clear hr4 hb4 hb24 HX2 HR2 HB2a HH4 p0 p1 HB1 HH1 HRr
  go_wp2_with fail
  generalize w4.heap.size = N4 at *
  generalize w4.alloc (.cells #[.int .i64 E1, .slice a4 L1.length c4] 32) = W4 at *
  generalize w2.heap.size = N2 at *
  have hS : VX W4 w.heap.size N2 N4 (.int .i64 ep) (.slice a0 l.length cap0) (.int .i64 E1) (.slice a2 L1.length c2) (.int .i64 E1) (.slice a4 L1.length c4) W4 := ⟨t1.1, t1.2.1, t2.1, t2.2.1, t3.1, t3.2.1, Below.refl _ _⟩
  have HVc : Hid (∀ W w', Below W.heap.size W w' → VX W4 w.heap.size N2 N4 (.int .i64 ep) (.slice a0 l.length cap0) (.int .i64 E1) (.slice a2 L1.length c2) (.int .i64 E1) (.slice a4 L1.length c4) W → VX W4 w.heap.size N2 N4 (.int .i64 ep) (.slice a0 l.length cap0) (.int .i64 E1) (.slice a2 L1.length c2) (.int .i64 E1) (.slice a4 L1.length c4) w') := fun W w' hb h => VX_call k1 k2 k3 hb h
  have HA2 : Hid (∀ W, Below W4.heap.size W4 W → Calls Tryd.prog 5 #[] W fun e w' => e = .returned (.bool true) ∧ Below W.heap.size W w') := fun W h => HAw.out W (hbw.trans (h.mono hbw.size))
  have HRg : Hid (∀ x vv (L : List Mb), (x = ep ∧ vv = .slice a0 l.length cap0 ∧ L = l) ∨ (x = E1 ∧ vv = .slice a2 L1.length c2 ∧ L = L1) → ∀ W, Below W4.heap.size W4 W → Calls Tryd.prog 10 #[.agg #[.int .i64 x, vv]] W fun e w' => ∃ ra rc, e = .returned (.agg #[.int .i64 x, .slice ra L.length rc]) ∧ IsRow w' 3 (.slice ra L.length rc) L.length (mCells L) ∧ Below W.heap.size W w') := fun x vv L hx W h => by
    have hrow : IsRow W 3 vv L.length (mCells L) ∧ L.length ≤ 1000000 := by
      rcases hx with ⟨-, rfl, rfl⟩ | ⟨-, rfl, rfl⟩
      · exact ⟨HR.out W (hbw.trans (h.mono hbw.size)), by omega⟩
      · exact ⟨(hRows W h).1, by omega⟩
    refine (ref_any x vv L W hrow.1 hrow.2).mono ?_
    rintro e w' ⟨v', rfl, h1, -, h2⟩
    obtain ⟨ra, rc, rfl⟩ := h1.form
    exact ⟨ra, rc, rfl, h1, h2⟩
  have HSg : Hid (∀ ra rc W, IsRow W 3 (.slice ra L1.length rc) L1.length (mCells L1) → Below W4.heap.size W4 W → Calls Tryd.prog 11 #[.agg #[.int .i64 E1, .slice ra L1.length rc], .agg #[.int .i64 E1, .slice a4 L1.length c4]] W fun e w' => e = .returned (.bool true) ∧ Below W.heap.size W w') := fun ra rc W hr h => refSame_eq E1 _ _ L1 W hr (hRows W h).2 (by omega)
  have HTx : Hid (∀ x vv Z, (x = ep ∧ vv = .slice a0 l.length cap0 ∧ Z = txV ep l) ∨ (x = E1 ∧ vv = .slice a2 L1.length c2 ∧ Z = txV E1 L1) → ∀ W, Below W4.heap.size W4 W → Calls Tryd.prog 8 #[.agg #[.int .i64 x, vv]] W fun e w' => e = .returned (.string Z) ∧ Below W.heap.size W w') := fun x vv Z hx W h => by
    have hb := hbw.trans (h.mono hbw.size)
    rcases hx with ⟨rfl, rfl, rfl⟩ | ⟨rfl, rfl, rfl⟩
    · exact text_any _ _ l W (HR.out W hb) hl (HT.out W hb)
    · exact text_any _ _ L1 W (hRows W h).1 (by omega) (HT.out W hb)
  have HTr : Hid (∀ ra rc W, IsRow W 3 (.slice ra l.length rc) l.length (mCells l) → Calls Tryd.prog 9 #[.agg #[.int .i64 ep, .slice ra l.length rc]] W fun e w' => e = .returned (.string (txV ep l)) ∧ Below W.heap.size W w') := fun ra rc W h => refVText_any ep _ l W h (by omega)
  have HBw : Hid (Below w.heap.size w W4) := hbw
  have HC8 : Hid (∀ W, Below W4.heap.size W4 W → Calls Tryd.prog 12 #[.agg #[.int .i64 ep, .slice a0 l.length cap0]] W fun e w' => e = .returned (.bool (vB ep l)) ∧ Below W.heap.size W w') := fun W h => check_any ep _ l W (HR.out W (hbw.trans (h.mono hbw.size))) hl
  have HRw : Hid (∀ W, Below W4.heap.size W4 W → IsRow W 3 (.slice a0 l.length cap0) l.length (mCells l)) := fun W h => HR.out W (hbw.trans (h.mono hbw.size))
  clear t1 t2 t3 hRows hbw HAw HT HR
  go_cut [57] (fun b wx => b = .bool false ∧ Hid (VX W4 w.heap.size N2 N4 (.int .i64 ep) (.slice a0 l.length cap0) (.int .i64 E1) (.slice a2 L1.length c2) (.int .i64 E1) (.slice a4 L1.length c4) wx))
  case first =>
    rcases HCs.out with ⟨rfl, hts⟩ | rfl
    · as_aux_lemma =>
      rw [hts] at HTx
      clear hts HCs
      have sq : (s.toList == s.toList) = true := beq_self_eq_true _
      generalize txV ep l = TX at *
      have tq : (TX.toList == TX.toList) = true := beq_self_eq_true _
      go_region_held3 (fun w' => VX W4 w.heap.size N2 N4 (.int .i64 ep) (.slice a0 l.length cap0) (.int .i64 E1) (.slice a2 L1.length c2) (.int .i64 E1) (.slice a4 L1.length c4) w')
        (first | with_reducible assumption | with_reducible exact VX_drew (by with_reducible assumption) | exact HVc.out _ _ hb (by with_reducible assumption))
        (first
          | (go_at_call 8; refine (HTx.out _ _ _ (by first | exact .inl ⟨rfl, rfl, rfl⟩ | exact .inr ⟨rfl, rfl, rfl⟩) _ (VX_b (by with_reducible assumption))).mono ?_; rintro e w'' ⟨rfl, hb⟩)
          | (go_at_call 10; refine (HRg.out _ _ _ (by first | exact .inl ⟨rfl, rfl, rfl⟩ | exact .inr ⟨rfl, rfl, rfl⟩) _ (VX_b (by with_reducible assumption))).mono ?_; rintro e w'' ⟨ra, rc, rfl, hrow, hb⟩)
          | (go_at_call 9; refine (HTr.out _ _ _ hrow).mono ?_; rintro e w'' ⟨rfl, hb⟩)
          | (go_at_call 11; refine (HSg.out _ _ _ hrow (VX_b (by with_reducible assumption))).mono ?_; rintro e w'' ⟨rfl, hb⟩))
      rename_i hS9
      have HS9 : Hid (VX W4 w.heap.size N2 N4 (.int .i64 ep) (.slice a0 l.length cap0) (.int .i64 E1) (.slice a2 L1.length c2) (.int .i64 E1) (.slice a4 L1.length c4) _) := hS9
      clear hS9 hS
      go_wp2_with fail
      go_meet
      exact ⟨rfl, HS9⟩
    · as_aux_lemma =>
      clear HCs
      generalize txV ep l = TX at *
      have tq : (TX.toList == TX.toList) = true := beq_self_eq_true _
      refine wp_region_held_drew (S := VX W4 w.heap.size N2 N4 (.int .i64 ep) (.slice a0 l.length cap0) (.int .i64 E1) (.slice a2 L1.length c2) (.int .i64 E1) (.slice a4 L1.length c4)) (by kernel_rfl) (VX_drew hS) (fun hHeld => ?_)
      refine wpAnyH_take (i := 0) (v := ?_) rfl (by kernel_rfl) (by kernel_rfl) (by kernel_rfl) (fun _ _ _ h => h) (Or.inl ⟨by rfl, ?_⟩) hHeld ?_
      rotate_left 1
      · intro w9 hSw; obtain ⟨g0, g1, g2, g3, g4, g5, -⟩ := hSw; go_simp; try with_reducible rfl
      change wpAnyH _ _ _ _ _ _ _ (Act.put _ (some 30) _) _
      simp only [Act.put, List.setIfInBounds_toArray, List.set_cons_zero, List.set_cons_succ]
      refine wpAnyH_take (i := 2) (v := ?_) rfl (by kernel_rfl) (by kernel_rfl) (by kernel_rfl) (fun _ _ _ h => h) (Or.inl ⟨by rfl, ?_⟩) hHeld ?_
      rotate_left 1
      · intro w9 hSw; obtain ⟨g0, g1, g2, g3, g4, g5, -⟩ := hSw; go_simp; try with_reducible rfl
      change wpAnyH _ _ _ _ _ _ _ (Act.put _ (some 32) _) _
      simp only [Act.put, List.setIfInBounds_toArray, List.set_cons_zero, List.set_cons_succ]
      refine wpAnyH_ready (rs := [1]) (by kernel_rfl) (by simp) ?_
      refine AllReadyH.cons rfl (fun K hK => ?_) AllReadyH.nil
      go_simp
      refine (HTx.out _ _ _ (.inl ⟨rfl, rfl, rfl⟩) _ (VX_b hHeld)).mono ?_
      rintro e w5 ⟨rfl, hb⟩
      go_simp
      refine hK.out _ _ (HVc.out _ _ hb hHeld) (fun hHeld => ?_)
      clear hK K
      refine wpAnyH_ready (rs := [3]) (by kernel_rfl) (by simp) ?_
      refine AllReadyH.cons rfl (fun K hK => ?_) AllReadyH.nil
      go_simp
      refine (HRg.out _ _ _ (.inl ⟨rfl, rfl, rfl⟩) _ (VX_b hHeld)).mono ?_
      rintro e w6 ⟨ra, rc, rfl, hrow, hb⟩
      go_simp
      refine hK.out _ _ (HVc.out _ _ hb hHeld) (fun hHeld => ?_)
      clear hK K
      refine wpAnyH_ready (rs := [4]) (by kernel_rfl) (by simp) ?_
      refine AllReadyH.cons rfl (fun K hK => ?_) AllReadyH.nil
      go_simp
      refine (HTr.out _ _ _ hrow).mono ?_
      rintro e w7 ⟨rfl, hb⟩
      go_simp
      refine hK.out _ _ (HVc.out _ _ hb hHeld) (fun hHeld => ?_)
      clear hK K
      refine wpAnyH_take (i := 5) (v := ?_) rfl (by kernel_rfl) (by kernel_rfl) (by kernel_rfl) (fun _ _ _ h => h) (Or.inl ⟨by rfl, ?_⟩) hHeld ?_
      rotate_left 1
      · intro w9 hSw; obtain ⟨g0, g1, g2, g3, g4, g5, -⟩ := hSw; go_simp; try with_reducible rfl
      change wpAnyH _ _ _ _ _ _ _ (Act.put _ (some 35) _) _
      simp only [Act.put, List.setIfInBounds_toArray, List.set_cons_zero, List.set_cons_succ]
      refine wpAnyH_take (i := 6) (v := ?_) rfl (by kernel_rfl) (by kernel_rfl) (by kernel_rfl) (fun _ _ _ h => h) (Or.inl ⟨by rfl, ?_⟩) hHeld ?_
      rotate_left 1
      · intro w9 hSw; obtain ⟨g0, g1, g2, g3, g4, g5, -⟩ := hSw; go_simp; try with_reducible rfl
      change wpAnyH _ _ _ _ _ _ _ (Act.put _ (some 36) _) _
      simp only [Act.put, List.setIfInBounds_toArray, List.set_cons_zero, List.set_cons_succ]
      refine wpAnyH_take (i := 7) (v := ?_) rfl (by kernel_rfl) (by kernel_rfl) (by kernel_rfl) (fun _ _ _ h => h) (Or.inl ⟨by rfl, ?_⟩) hHeld ?_
      rotate_left 1
      · intro w9 hSw; obtain ⟨g0, g1, g2, g3, g4, g5, -⟩ := hSw; go_simp; try with_reducible rfl
      change wpAnyH _ _ _ _ _ _ _ (Act.put _ (some 37) _) _
      simp only [Act.put, List.setIfInBounds_toArray, List.set_cons_zero, List.set_cons_succ]
      refine wpAnyH_take (i := 9) (v := ?_) rfl (by kernel_rfl) (by kernel_rfl) (by kernel_rfl) (fun _ _ _ h => h) (Or.inl ⟨by rfl, ?_⟩) hHeld ?_
      rotate_left 1
      · intro w9 hSw; obtain ⟨g0, g1, g2, g3, g4, g5, -⟩ := hSw; go_simp; try with_reducible rfl
      change wpAnyH _ _ _ _ _ _ _ (Act.put _ (some 39) _) _
      simp only [Act.put, List.setIfInBounds_toArray, List.set_cons_zero, List.set_cons_succ]
      refine wpAnyH_ready (rs := [8]) (by kernel_rfl) (by simp) ?_
      refine AllReadyH.cons rfl (fun K hK => ?_) AllReadyH.nil
      go_simp
      refine (HRg.out _ _ _ (.inr ⟨rfl, rfl, rfl⟩) _ (VX_b hHeld)).mono ?_
      rintro e w8 ⟨rb, rd, rfl, hrow2, hb⟩
      go_simp
      refine hK.out _ _ (HVc.out _ _ hb hHeld) (fun hHeld => ?_)
      clear hK K
      refine wpAnyH_ready (rs := [10]) (by kernel_rfl) (by simp) ?_
      refine AllReadyH.cons rfl (fun K hK => ?_) AllReadyH.nil
      go_simp
      refine (HSg.out _ _ _ hrow2 (VX_b hHeld)).mono ?_
      rintro e w10 ⟨rfl, hb⟩
      go_simp
      refine hK.out _ _ (HVc.out _ _ hb hHeld) (fun hHeld => ?_)
      clear hK K
      refine wpAnyH_take (i := 11) (v := ?_) rfl (by kernel_rfl) (by kernel_rfl) (by kernel_rfl) (fun _ _ _ h => h) (Or.inl ⟨by rfl, ?_⟩) hHeld ?_
      rotate_left 1
      · intro w9 hSw; obtain ⟨g0, g1, g2, g3, g4, g5, -⟩ := hSw; go_simp; try with_reducible rfl
      change wpAnyH _ _ _ _ _ _ _ (Act.put _ (some 41) _) _
      simp only [Act.put, List.setIfInBounds_toArray, List.set_cons_zero, List.set_cons_succ]
      refine wpAnyH_take (i := 12) (v := ?_) rfl (by kernel_rfl) (by kernel_rfl) (by kernel_rfl) (fun _ _ _ h => h) (Or.inl ⟨by rfl, ?_⟩) hHeld ?_
      rotate_left 1
      · intro w9 hSw; obtain ⟨g0, g1, g2, g3, g4, g5, -⟩ := hSw; go_simp; try with_reducible rfl
      change wpAnyH _ _ _ _ _ _ _ (Act.put _ (some 42) _) _
      simp only [Act.put, List.setIfInBounds_toArray, List.set_cons_zero, List.set_cons_succ]
      refine wpAnyH_take (i := 13) (v := ?_) rfl (by kernel_rfl) (by kernel_rfl) (by kernel_rfl) (fun _ _ _ h => h) (Or.inl ⟨by rfl, ?_⟩) hHeld ?_
      rotate_left 1
      · intro w9 hSw; obtain ⟨g0, g1, g2, g3, g4, g5, -⟩ := hSw; go_simp; try with_reducible rfl
      change wpAnyH _ _ _ _ _ _ _ (Act.put _ (some 43) _) _
      simp only [Act.put, List.setIfInBounds_toArray, List.set_cons_zero, List.set_cons_succ]
      refine wpAnyH_take (i := 14) (v := ?_) rfl (by kernel_rfl) (by kernel_rfl) (by kernel_rfl) (fun _ _ _ h => h) (Or.inl ⟨by rfl, ?_⟩) hHeld ?_
      rotate_left 1
      · intro w9 hSw; obtain ⟨g0, g1, g2, g3, g4, g5, -⟩ := hSw; go_simp; try with_reducible rfl
      change wpAnyH _ _ _ _ _ _ _ (Act.put _ (some 44) _) _
      simp only [Act.put, List.setIfInBounds_toArray, List.set_cons_zero, List.set_cons_succ]
      refine wpAnyH_take (i := 15) (v := ?_) rfl (by kernel_rfl) (by kernel_rfl) (by kernel_rfl) (fun _ _ _ h => h) (Or.inl ⟨by rfl, ?_⟩) hHeld ?_
      rotate_left 1
      · intro w9 hSw; obtain ⟨g0, g1, g2, g3, g4, g5, -⟩ := hSw; go_simp; try with_reducible rfl
      change wpAnyH _ _ _ _ _ _ _ (Act.put _ (some 45) _) _
      simp only [Act.put, List.setIfInBounds_toArray, List.set_cons_zero, List.set_cons_succ]
      refine wpAnyH_take (i := 16) (v := ?_) rfl (by kernel_rfl) (by kernel_rfl) (by kernel_rfl) (fun _ _ _ h => h) (Or.inl ⟨by rfl, ?_⟩) hHeld ?_
      rotate_left 1
      · intro w9 hSw; obtain ⟨g0, g1, g2, g3, g4, g5, -⟩ := hSw; go_simp; try with_reducible rfl
      change wpAnyH _ _ _ _ _ _ _ (Act.put _ (some 46) _) _
      simp only [Act.put, List.setIfInBounds_toArray, List.set_cons_zero, List.set_cons_succ]
      refine wpAnyH_take (i := 17) (v := ?_) rfl (by kernel_rfl) (by kernel_rfl) (by kernel_rfl) (fun _ _ _ h => h) (Or.inl ⟨by rfl, ?_⟩) hHeld ?_
      rotate_left 1
      · intro w9 hSw; obtain ⟨g0, g1, g2, g3, g4, g5, -⟩ := hSw; go_simp; try with_reducible rfl
      change wpAnyH _ _ _ _ _ _ _ (Act.put _ (some 47) _) _
      simp only [Act.put, List.setIfInBounds_toArray, List.set_cons_zero, List.set_cons_succ]
      refine wpAnyH_take (i := 18) (v := ?_) rfl (by kernel_rfl) (by kernel_rfl) (by kernel_rfl) (fun _ _ _ h => h) (Or.inl ⟨by rfl, ?_⟩) hHeld ?_
      rotate_left 1
      · intro w9 hSw; obtain ⟨g0, g1, g2, g3, g4, g5, -⟩ := hSw; go_simp; try with_reducible rfl
      change wpAnyH _ _ _ _ _ _ _ (Act.put _ (some 48) _) _
      simp only [Act.put, List.setIfInBounds_toArray, List.set_cons_zero, List.set_cons_succ]
      refine wpAnyH_take (i := 19) (v := ?_) rfl (by kernel_rfl) (by kernel_rfl) (by kernel_rfl) (fun _ _ _ h => h) (Or.inl ⟨by rfl, ?_⟩) hHeld ?_
      rotate_left 1
      · intro w9 hSw; obtain ⟨g0, g1, g2, g3, g4, g5, -⟩ := hSw; go_simp; try with_reducible rfl
      change wpAnyH _ _ _ _ _ _ _ (Act.put _ (some 49) _) _
      simp only [Act.put, List.setIfInBounds_toArray, List.set_cons_zero, List.set_cons_succ]
      refine wpAnyH_take (i := 20) (v := ?_) rfl (by kernel_rfl) (by kernel_rfl) (by kernel_rfl) (fun _ _ _ h => h) (Or.inl ⟨by rfl, ?_⟩) hHeld ?_
      rotate_left 1
      · intro w9 hSw; obtain ⟨g0, g1, g2, g3, g4, g5, -⟩ := hSw; go_simp; try with_reducible rfl
      change wpAnyH _ _ _ _ _ _ _ (Act.put _ (some 50) _) _
      simp only [Act.put, List.setIfInBounds_toArray, List.set_cons_zero, List.set_cons_succ]
      refine wpAnyH_take (i := 21) (v := ?_) rfl (by kernel_rfl) (by kernel_rfl) (by kernel_rfl) (fun _ _ _ h => h) (Or.inl ⟨by rfl, ?_⟩) hHeld ?_
      rotate_left 1
      · intro w9 hSw; obtain ⟨g0, g1, g2, g3, g4, g5, -⟩ := hSw; go_simp; try with_reducible rfl
      change wpAnyH _ _ _ _ _ _ _ (Act.put _ (some 51) _) _
      simp only [Act.put, List.setIfInBounds_toArray, List.set_cons_zero, List.set_cons_succ]
      refine wpAnyH_take (i := 22) (v := undef) rfl (by kernel_rfl) (by kernel_rfl) (by kernel_rfl) (fun _ _ _ h => h) (Or.inr ⟨by rfl, rfl⟩) hHeld ?_
      change wpAnyH _ _ _ _ _ _ _ (Act.put _ (some 52) _) _
      simp only [Act.put, List.setIfInBounds_toArray, List.set_cons_zero, List.set_cons_succ]
      refine wpAnyH_take (i := 23) (v := undef) rfl (by kernel_rfl) (by kernel_rfl) (by kernel_rfl) (fun _ _ _ h => h) (Or.inr ⟨by rfl, rfl⟩) hHeld ?_
      change wpAnyH _ _ _ _ _ _ _ (Act.put _ (some 53) _) _
      simp only [Act.put, List.setIfInBounds_toArray, List.set_cons_zero, List.set_cons_succ]
      refine wpAnyH_take (i := 24) (v := undef) rfl (by kernel_rfl) (by kernel_rfl) (by kernel_rfl) (fun _ _ _ h => h) (Or.inr ⟨by rfl, rfl⟩) hHeld ?_
      change wpAnyH _ _ _ _ _ _ _ (Act.put _ (some 54) _) _
      simp only [Act.put, List.setIfInBounds_toArray, List.set_cons_zero, List.set_cons_succ]
      refine wpAnyH_take (i := 25) (v := undef) rfl (by kernel_rfl) (by kernel_rfl) (by kernel_rfl) (fun _ _ _ h => h) (Or.inr ⟨by rfl, rfl⟩) hHeld ?_
      change wpAnyH _ _ _ _ _ _ _ (Act.put _ (some 55) _) _
      simp only [Act.put, List.setIfInBounds_toArray, List.set_cons_zero, List.set_cons_succ]
      refine wpAnyH_take (i := 26) (v := ?_) rfl (by kernel_rfl) (by kernel_rfl) (by kernel_rfl) (fun _ _ _ h => h) (Or.inl ⟨by rfl, ?_⟩) hHeld ?_
      rotate_left 1
      · intro w9 hSw; obtain ⟨g0, g1, g2, g3, g4, g5, -⟩ := hSw; go_simp; try with_reducible rfl
      change wpAnyH _ _ _ _ _ _ _ (Act.put _ (some 56) _) _
      simp only [Act.put, List.setIfInBounds_toArray, List.set_cons_zero, List.set_cons_succ]
      refine wpAnyH_take (i := 27) (v := ?_) rfl (by kernel_rfl) (by kernel_rfl) (by kernel_rfl) (fun _ _ _ h => h) (Or.inl ⟨by rfl, ?_⟩) hHeld ?_
      rotate_left 1
      · intro w9 hSw; obtain ⟨g0, g1, g2, g3, g4, g5, -⟩ := hSw; go_simp; try with_reducible rfl
      change wpAnyH _ _ _ _ _ _ _ (Act.put _ (some 57) _) _
      simp only [Act.put, List.setIfInBounds_toArray, List.set_cons_zero, List.set_cons_succ]
      refine wpAnyH_done (by kernel_rfl) ?_ _
      have HS9 : Hid (VX W4 w.heap.size N2 N4 (.int .i64 ep) (.slice a0 l.length cap0) (.int .i64 E1) (.slice a2 L1.length c2) (.int .i64 E1) (.slice a4 L1.length c4) _) := hHeld
      clear hHeld hS
      go_wp2_with fail
      go_meet
      exact ⟨rfl, HS9⟩
  case rest =>
    obtain ⟨rfl, HS5⟩ := hcut
    obtain ⟨wr, hwr⟩ : ∃ wr, wr = wc := ⟨_, rfl⟩
    subst hwr
    have HTz := txV_size ep l
    have HT7 : Hid (∀ W, Below W4.heap.size W4 W → Calls Tryd.prog 8 #[.agg #[.int .i64 ep, .slice a0 l.length cap0]] W fun e w' => e = .returned (.string (txV ep l)) ∧ Below W.heap.size W w') := fun W h => HTx.out _ _ _ (.inl ⟨rfl, rfl, rfl⟩) W h
    have hb5 := VX_b HS5.out
    obtain ⟨g0, g1, -, -, -, -, -⟩ := HS5.out
    obtain ⟨E9, L9, R9, hq, hR9⟩ : ∃ (E9 : Int) (L9 : List Mb) (R9 : Int), (∀ w e w', RdPost (rdO (txV ep l)) w e w' → VwPost E9 L9 R9 w e w') ∧ ((vB ep l = true ∧ E9 = ep ∧ L9 = l ∧ R9 = 0) ∨ (vB ep l = false ∧ R9 = 3)) := by
      rcases rd_back ep l with ⟨h1, h2⟩ | ⟨h1, h2⟩
      · exact ⟨_, _, _, h2, .inl ⟨h1, rfl, rfl, rfl⟩⟩
      · exact ⟨_, _, _, h2, .inr ⟨h1, rfl⟩⟩
    have HRd : Hid (∀ W, Calls Tryd.prog 6 #[.string (txV ep l)] W fun e w' => VwPost E9 L9 R9 W e w') := fun W => (read_any _ W (by omega)).mono fun e w' h => hq _ _ _ h
    have HCs2 : Hid ((vB ep l = true ∧ E9 = ep ∧ L9 = l ∧ R9 = 0) ∨ (vB ep l = false ∧ R9 = 3)) := hR9
    clear hq hR9 HTx HSg HTr HCs hS HTz
    generalize txV ep l = TX at *
    go_wp2_with fail
    refine (HT7.out _ hb5).mono ?_
    rintro e w6 ⟨rfl, hb6⟩
    have hb46 : Below W4.heap.size W4 w6 := hb5.trans (hb6.mono hb5.size)
    clear HT7
    go_wp2_with fail
    refine (HRd.out _).mono ?_
    rintro e w7 ⟨v9, rfl, hr9, -, hb7⟩
    obtain ⟨a9, c9, rfl⟩ := hr9.form
    have hb47 : Below W4.heap.size W4 w7 := hb46.trans (hb7.mono hb46.size)
    have hbA : Below W4.heap.size W4 (w7.alloc (.cells #[.int .i64 E9, .slice a9 L9.length c9] 24)) := hb47.alloc hb47.size _
    have hr9' := hr9.below (al_belowV w7 (.cells #[.int .i64 E9, .slice a9 L9.length c9] 24))
    have g5 : Below wr.heap.size wr (w7.alloc (.cells #[.int .i64 E9, .slice a9 L9.length c9] 24)) := (hb6.trans (hb7.mono hb6.size)).alloc (by have := hb6.size; have := hb7.size; omega) _
    have u0 := (g5.cell (p := ⟨w.heap.size, 0, none⟩) (by have := hb5.size; show w.heap.size < _; omega)).trans g0
    have u1 := (g5.cell (p := ⟨w.heap.size, 1, none⟩) (by have := hb5.size; show w.heap.size < _; omega)).trans g1
    have t9 := two_V (alloc_top w7 (.cells #[.int .i64 E9, .slice a9 L9.length c9] 24))
    have m1 : w.heap.size < (w7.alloc (.cells #[.int .i64 E9, .slice a9 L9.length c9] 24)).heap.size := by have := hbA.size; omega
    have m2 : w7.heap.size < (w7.alloc (.cells #[.int .i64 E9, .slice a9 L9.length c9] 24)).heap.size := by simp
    clear g0 g1 hb6 hb7 hb46 hb47 HRd g5 HS5 hr9 hb5
    go_wp2_with fail
    generalize w7.heap.size = N9 at *
    generalize w7.alloc (.cells #[.int .i64 E9, .slice a9 L9.length c9] 24) = W9 at *
    have hS : VX W9 w.heap.size N9 w.heap.size (.int .i64 ep) (.slice a0 l.length cap0) (.int .i64 E9) (.slice a9 L9.length c9) (.int .i64 ep) (.slice a0 l.length cap0) W9 := ⟨u0, u1, t9.1, t9.2.1, u0, u1, Below.refl _ _⟩
    have HV9 : Hid (∀ W w', Below W.heap.size W w' → VX W9 w.heap.size N9 w.heap.size (.int .i64 ep) (.slice a0 l.length cap0) (.int .i64 E9) (.slice a9 L9.length c9) (.int .i64 ep) (.slice a0 l.length cap0) W → VX W9 w.heap.size N9 w.heap.size (.int .i64 ep) (.slice a0 l.length cap0) (.int .i64 E9) (.slice a9 L9.length c9) (.int .i64 ep) (.slice a0 l.length cap0) w') := fun W w' hb h => VX_call m1 m2 m1 hb h
    have HA9 : Hid (∀ W, Below W9.heap.size W9 W → Calls Tryd.prog 5 #[] W fun e w' => e = .returned (.bool true) ∧ Below W.heap.size W w') := fun W h => HA2.out W (hbA.trans (h.mono hbA.size))
    have HC9 : Hid (∀ W, Below W9.heap.size W9 W → Calls Tryd.prog 12 #[.agg #[.int .i64 ep, .slice a0 l.length cap0]] W fun e w' => e = .returned (.bool (vB ep l)) ∧ Below W.heap.size W w') := fun W h => HC8.out W (hbA.trans (h.mono hbA.size))
    have HB9 : Hid (∀ W, Below W9.heap.size W9 W → Below w.heap.size w W) := fun W h => HBw.out.trans ((hbA.trans (h.mono hbA.size)).mono HBw.out.size)
    have HR9 : Hid (∀ W, Below W9.heap.size W9 W → IsRow W 3 (.slice a0 l.length cap0) l.length (mCells l) ∧ IsRow W 3 (.slice a9 L9.length c9) L9.length (mCells L9)) := fun W h => ⟨HRw.out W (hbA.trans (h.mono hbA.size)), hr9'.below h⟩
    clear t9 u0 u1 HA2 HC8 HRw hr9' hbA HRg HVc HBw
    rcases HCs2.out with ⟨hvb, rfl, rfl, rfl⟩ | ⟨hvb, rfl⟩
    · as_aux_lemma =>
      rw [hvb] at HC9
      clear HCs2 hvb
      have HG9 : Hid (∀ va vc, (va = a0 ∧ vc = cap0) ∨ (va = a9 ∧ vc = c9) → ∀ W, Below W9.heap.size W9 W → Calls Tryd.prog 10 #[.agg #[.int .i64 E9, .slice va L9.length vc]] W fun e w' => ∃ ra rc, e = .returned (.agg #[.int .i64 E9, .slice ra L9.length rc]) ∧ IsRow w' 3 (.slice ra L9.length rc) L9.length (mCells L9) ∧ Below W.heap.size W w') := fun va vc hx W h => by
        have hrow : IsRow W 3 (.slice va L9.length vc) L9.length (mCells L9) := by
          rcases hx with ⟨rfl, rfl⟩ | ⟨rfl, rfl⟩
          · exact (HR9.out W h).1
          · exact (HR9.out W h).2
        refine (ref_any E9 _ L9 W hrow (by omega)).mono ?_
        rintro e w' ⟨v', rfl, h1, -, h2⟩
        obtain ⟨ra, rc, rfl⟩ := h1.form
        exact ⟨ra, rc, rfl, h1, h2⟩
      have HSm : Hid (∀ ra rc rb rd W, IsRow W 3 (.slice ra L9.length rc) L9.length (mCells L9) → IsRow W 3 (.slice rb L9.length rd) L9.length (mCells L9) → Calls Tryd.prog 11 #[.agg #[.int .i64 E9, .slice ra L9.length rc], .agg #[.int .i64 E9, .slice rb L9.length rd]] W fun e w' => e = .returned (.bool true) ∧ Below W.heap.size W w') := fun ra rc rb rd W h1 h2 => refSame_eq E9 _ _ L9 W h1 h2 (by omega)
      clear HR9
      refine wp_region_held_drew (S := VX W9 w.heap.size N9 w.heap.size (.int .i64 E9) (.slice a0 L9.length cap0) (.int .i64 E9) (.slice a9 L9.length c9) (.int .i64 E9) (.slice a0 L9.length cap0)) (by kernel_rfl) (VX_drew hS) (fun hHeld => ?_)
      refine wpAnyH_ready (rs := [0]) (by kernel_rfl) (by simp) ?_
      refine AllReadyH.cons rfl (fun K hK => ?_) AllReadyH.nil
      go_simp
      refine (HA9.out _ (VX_b hHeld)).mono ?_
      rintro e x1 ⟨rfl, hb⟩
      go_simp
      refine hK.out _ _ (HV9.out _ _ hb hHeld) (fun hHeld => ?_)
      clear hK K
      refine wpAnyH_take (i := 1) (v := ?_) rfl (by kernel_rfl) (by kernel_rfl) (by kernel_rfl) (fun _ _ _ h => h) (Or.inl ⟨by rfl, ?_⟩) hHeld ?_
      rotate_left 1
      · intro w9 hSw; obtain ⟨g0, g1, g2, g3, g4, g5, -⟩ := hSw; go_simp; try with_reducible rfl
      change wpAnyH _ _ _ _ _ _ _ (Act.put _ (some 65) _) _
      simp only [Act.put, List.setIfInBounds_toArray, List.set_cons_zero, List.set_cons_succ]
      refine wpAnyH_take (i := 2) (v := ?_) rfl (by kernel_rfl) (by kernel_rfl) (by kernel_rfl) (fun _ _ _ h => h) (Or.inl ⟨by rfl, ?_⟩) hHeld ?_
      rotate_left 1
      · intro w9 hSw; obtain ⟨g0, g1, g2, g3, g4, g5, -⟩ := hSw; go_simp; try with_reducible rfl
      change wpAnyH _ _ _ _ _ _ _ (Act.put _ (some 66) _) _
      simp only [Act.put, List.setIfInBounds_toArray, List.set_cons_zero, List.set_cons_succ]
      refine wpAnyH_ready (rs := [3]) (by kernel_rfl) (by simp) ?_
      refine AllReadyH.cons rfl (fun K hK => ?_) AllReadyH.nil
      go_simp
      refine (HC9.out _ (VX_b hHeld)).mono ?_
      rintro e x2 ⟨rfl, hb⟩
      go_simp
      refine hK.out _ _ (HV9.out _ _ hb hHeld) (fun hHeld => ?_)
      clear hK K
      refine wpAnyH_take (i := 4) (v := ?_) rfl (by kernel_rfl) (by kernel_rfl) (by kernel_rfl) (fun _ _ _ h => h) (Or.inl ⟨by rfl, ?_⟩) hHeld ?_
      rotate_left 1
      · intro w9 hSw; obtain ⟨g0, g1, g2, g3, g4, g5, -⟩ := hSw; go_simp; try with_reducible rfl
      change wpAnyH _ _ _ _ _ _ _ (Act.put _ (some 68) _) _
      simp only [Act.put, List.setIfInBounds_toArray, List.set_cons_zero, List.set_cons_succ]
      refine wpAnyH_take (i := 5) (v := ?_) rfl (by kernel_rfl) (by kernel_rfl) (by kernel_rfl) (fun _ _ _ h => h) (Or.inl ⟨by rfl, ?_⟩) hHeld ?_
      rotate_left 1
      · intro w9 hSw; obtain ⟨g0, g1, g2, g3, g4, g5, -⟩ := hSw; go_simp; try with_reducible rfl
      change wpAnyH _ _ _ _ _ _ _ (Act.put _ (some 69) _) _
      simp only [Act.put, List.setIfInBounds_toArray, List.set_cons_zero, List.set_cons_succ]
      refine wpAnyH_take (i := 6) (v := undef) rfl (by kernel_rfl) (by kernel_rfl) (by kernel_rfl) (fun _ _ _ h => h) (Or.inr ⟨by rfl, rfl⟩) hHeld ?_
      change wpAnyH _ _ _ _ _ _ _ (Act.put _ (some 70) _) _
      simp only [Act.put, List.setIfInBounds_toArray, List.set_cons_zero, List.set_cons_succ]
      refine wpAnyH_take (i := 7) (v := undef) rfl (by kernel_rfl) (by kernel_rfl) (by kernel_rfl) (fun _ _ _ h => h) (Or.inr ⟨by rfl, rfl⟩) hHeld ?_
      change wpAnyH _ _ _ _ _ _ _ (Act.put _ (some 71) _) _
      simp only [Act.put, List.setIfInBounds_toArray, List.set_cons_zero, List.set_cons_succ]
      refine wpAnyH_take (i := 8) (v := ?_) rfl (by kernel_rfl) (by kernel_rfl) (by kernel_rfl) (fun _ _ _ h => h) (Or.inl ⟨by rfl, ?_⟩) hHeld ?_
      rotate_left 1
      · intro w9 hSw; obtain ⟨g0, g1, g2, g3, g4, g5, -⟩ := hSw; go_simp; try with_reducible rfl
      change wpAnyH _ _ _ _ _ _ _ (Act.put _ (some 72) _) _
      simp only [Act.put, List.setIfInBounds_toArray, List.set_cons_zero, List.set_cons_succ]
      refine wpAnyH_take (i := 9) (v := ?_) rfl (by kernel_rfl) (by kernel_rfl) (by kernel_rfl) (fun _ _ _ h => h) (Or.inl ⟨by rfl, ?_⟩) hHeld ?_
      rotate_left 1
      · intro w9 hSw; obtain ⟨g0, g1, g2, g3, g4, g5, -⟩ := hSw; go_simp; try with_reducible rfl
      change wpAnyH _ _ _ _ _ _ _ (Act.put _ (some 73) _) _
      simp only [Act.put, List.setIfInBounds_toArray, List.set_cons_zero, List.set_cons_succ]
      refine wpAnyH_take (i := 10) (v := ?_) rfl (by kernel_rfl) (by kernel_rfl) (by kernel_rfl) (fun _ _ _ h => h) (Or.inl ⟨by rfl, ?_⟩) hHeld ?_
      rotate_left 1
      · intro w9 hSw; obtain ⟨g0, g1, g2, g3, g4, g5, -⟩ := hSw; go_simp; try with_reducible rfl
      change wpAnyH _ _ _ _ _ _ _ (Act.put _ (some 74) _) _
      simp only [Act.put, List.setIfInBounds_toArray, List.set_cons_zero, List.set_cons_succ]
      refine wpAnyH_take (i := 11) (v := ?_) rfl (by kernel_rfl) (by kernel_rfl) (by kernel_rfl) (fun _ _ _ h => h) (Or.inl ⟨by rfl, ?_⟩) hHeld ?_
      rotate_left 1
      · intro w9 hSw; obtain ⟨g0, g1, g2, g3, g4, g5, -⟩ := hSw; go_simp; try with_reducible rfl
      change wpAnyH _ _ _ _ _ _ _ (Act.put _ (some 75) _) _
      simp only [Act.put, List.setIfInBounds_toArray, List.set_cons_zero, List.set_cons_succ]
      refine wpAnyH_take (i := 12) (v := ?_) rfl (by kernel_rfl) (by kernel_rfl) (by kernel_rfl) (fun _ _ _ h => h) (Or.inl ⟨by rfl, ?_⟩) hHeld ?_
      rotate_left 1
      · intro w9 hSw; obtain ⟨g0, g1, g2, g3, g4, g5, -⟩ := hSw; go_simp; try with_reducible rfl
      change wpAnyH _ _ _ _ _ _ _ (Act.put _ (some 76) _) _
      simp only [Act.put, List.setIfInBounds_toArray, List.set_cons_zero, List.set_cons_succ]
      refine wpAnyH_take (i := 13) (v := ?_) rfl (by kernel_rfl) (by kernel_rfl) (by kernel_rfl) (fun _ _ _ h => h) (Or.inl ⟨by rfl, ?_⟩) hHeld ?_
      rotate_left 1
      · intro w9 hSw; obtain ⟨g0, g1, g2, g3, g4, g5, -⟩ := hSw; go_simp; try with_reducible rfl
      change wpAnyH _ _ _ _ _ _ _ (Act.put _ (some 77) _) _
      simp only [Act.put, List.setIfInBounds_toArray, List.set_cons_zero, List.set_cons_succ]
      refine wpAnyH_take (i := 15) (v := ?_) rfl (by kernel_rfl) (by kernel_rfl) (by kernel_rfl) (fun _ _ _ h => h) (Or.inl ⟨by rfl, ?_⟩) hHeld ?_
      rotate_left 1
      · intro w9 hSw; obtain ⟨g0, g1, g2, g3, g4, g5, -⟩ := hSw; go_simp; try with_reducible rfl
      change wpAnyH _ _ _ _ _ _ _ (Act.put _ (some 79) _) _
      simp only [Act.put, List.setIfInBounds_toArray, List.set_cons_zero, List.set_cons_succ]
      refine wpAnyH_ready (rs := [14]) (by kernel_rfl) (by simp) ?_
      refine AllReadyH.cons rfl (fun K hK => ?_) AllReadyH.nil
      go_simp
      refine (HG9.out _ _ (.inr ⟨rfl, rfl⟩) _ (VX_b hHeld)).mono ?_
      rintro e x3 ⟨ra, rc, rfl, hrow, hb⟩
      go_simp
      refine hK.out _ _ (HV9.out _ _ hb hHeld) (fun hHeld => ?_)
      clear hK K
      refine wpAnyH_ready (rs := [16]) (by kernel_rfl) (by simp) ?_
      refine AllReadyH.cons rfl (fun K hK => ?_) AllReadyH.nil
      go_simp
      refine (HG9.out _ _ (.inl ⟨rfl, rfl⟩) _ (VX_b hHeld)).mono ?_
      rintro e x4 ⟨rb, rd, rfl, hrow2, hb⟩
      have hrow1 := hrow.below hb
      go_simp
      refine hK.out _ _ (HV9.out _ _ hb hHeld) (fun hHeld => ?_)
      clear hK K
      refine wpAnyH_ready (rs := [17]) (by kernel_rfl) (by simp) ?_
      refine AllReadyH.cons rfl (fun K hK => ?_) AllReadyH.nil
      go_simp
      refine (HSm.out _ _ _ _ _ hrow1 hrow2).mono ?_
      rintro e x5 ⟨rfl, hb⟩
      go_simp
      refine hK.out _ _ (HV9.out _ _ hb hHeld) (fun hHeld => ?_)
      clear hK K
      refine wpAnyH_take (i := 18) (v := ?_) rfl (by kernel_rfl) (by kernel_rfl) (by kernel_rfl) (fun _ _ _ h => h) (Or.inl ⟨by rfl, ?_⟩) hHeld ?_
      rotate_left 1
      · intro w9 hSw; obtain ⟨g0, g1, g2, g3, g4, g5, -⟩ := hSw; go_simp; try with_reducible rfl
      change wpAnyH _ _ _ _ _ _ _ (Act.put _ (some 82) _) _
      simp only [Act.put, List.setIfInBounds_toArray, List.set_cons_zero, List.set_cons_succ]
      refine wpAnyH_take (i := 19) (v := ?_) rfl (by kernel_rfl) (by kernel_rfl) (by kernel_rfl) (fun _ _ _ h => h) (Or.inl ⟨by rfl, ?_⟩) hHeld ?_
      rotate_left 1
      · intro w9 hSw; obtain ⟨g0, g1, g2, g3, g4, g5, -⟩ := hSw; go_simp; try with_reducible rfl
      change wpAnyH _ _ _ _ _ _ _ (Act.put _ (some 83) _) _
      simp only [Act.put, List.setIfInBounds_toArray, List.set_cons_zero, List.set_cons_succ]
      refine wpAnyH_take (i := 20) (v := ?_) rfl (by kernel_rfl) (by kernel_rfl) (by kernel_rfl) (fun _ _ _ h => h) (Or.inl ⟨by rfl, ?_⟩) hHeld ?_
      rotate_left 1
      · intro w9 hSw; obtain ⟨g0, g1, g2, g3, g4, g5, -⟩ := hSw; go_simp; try with_reducible rfl
      change wpAnyH _ _ _ _ _ _ _ (Act.put _ (some 84) _) _
      simp only [Act.put, List.setIfInBounds_toArray, List.set_cons_zero, List.set_cons_succ]
      refine wpAnyH_take (i := 21) (v := ?_) rfl (by kernel_rfl) (by kernel_rfl) (by kernel_rfl) (fun _ _ _ h => h) (Or.inl ⟨by rfl, ?_⟩) hHeld ?_
      rotate_left 1
      · intro w9 hSw; obtain ⟨g0, g1, g2, g3, g4, g5, -⟩ := hSw; go_simp; try with_reducible rfl
      change wpAnyH _ _ _ _ _ _ _ (Act.put _ (some 4) _) _
      simp only [Act.put, List.setIfInBounds_toArray, List.set_cons_zero, List.set_cons_succ]
      refine wpAnyH_done (by kernel_rfl) ?_ _
      have HZ := HB9.out _ (VX_b hHeld)
      clear hHeld hS
      go_wp2
      go_ret
      exact ⟨rfl, HZ⟩
    · as_aux_lemma =>
      rw [hvb] at HC9
      clear HCs2 hvb HR9
      refine wp_region_held_drew (S := VX W9 w.heap.size N9 w.heap.size (.int .i64 ep) (.slice a0 l.length cap0) (.int .i64 E9) (.slice a9 L9.length c9) (.int .i64 ep) (.slice a0 l.length cap0)) (by kernel_rfl) (VX_drew hS) (fun hHeld => ?_)
      refine wpAnyH_ready (rs := [0]) (by kernel_rfl) (by simp) ?_
      refine AllReadyH.cons rfl (fun K hK => ?_) AllReadyH.nil
      go_simp
      refine (HA9.out _ (VX_b hHeld)).mono ?_
      rintro e x1 ⟨rfl, hb⟩
      go_simp
      refine hK.out _ _ (HV9.out _ _ hb hHeld) (fun hHeld => ?_)
      clear hK K
      refine wpAnyH_take (i := 1) (v := ?_) rfl (by kernel_rfl) (by kernel_rfl) (by kernel_rfl) (fun _ _ _ h => h) (Or.inl ⟨by rfl, ?_⟩) hHeld ?_
      rotate_left 1
      · intro w9 hSw; obtain ⟨g0, g1, g2, g3, g4, g5, -⟩ := hSw; go_simp; try with_reducible rfl
      change wpAnyH _ _ _ _ _ _ _ (Act.put _ (some 65) _) _
      simp only [Act.put, List.setIfInBounds_toArray, List.set_cons_zero, List.set_cons_succ]
      refine wpAnyH_take (i := 2) (v := ?_) rfl (by kernel_rfl) (by kernel_rfl) (by kernel_rfl) (fun _ _ _ h => h) (Or.inl ⟨by rfl, ?_⟩) hHeld ?_
      rotate_left 1
      · intro w9 hSw; obtain ⟨g0, g1, g2, g3, g4, g5, -⟩ := hSw; go_simp; try with_reducible rfl
      change wpAnyH _ _ _ _ _ _ _ (Act.put _ (some 66) _) _
      simp only [Act.put, List.setIfInBounds_toArray, List.set_cons_zero, List.set_cons_succ]
      refine wpAnyH_ready (rs := [3]) (by kernel_rfl) (by simp) ?_
      refine AllReadyH.cons rfl (fun K hK => ?_) AllReadyH.nil
      go_simp
      refine (HC9.out _ (VX_b hHeld)).mono ?_
      rintro e x2 ⟨rfl, hb⟩
      go_simp
      refine hK.out _ _ (HV9.out _ _ hb hHeld) (fun hHeld => ?_)
      clear hK K
      refine wpAnyH_take (i := 4) (v := ?_) rfl (by kernel_rfl) (by kernel_rfl) (by kernel_rfl) (fun _ _ _ h => h) (Or.inl ⟨by rfl, ?_⟩) hHeld ?_
      rotate_left 1
      · intro w9 hSw; obtain ⟨g0, g1, g2, g3, g4, g5, -⟩ := hSw; go_simp; try with_reducible rfl
      change wpAnyH _ _ _ _ _ _ _ (Act.put _ (some 68) _) _
      simp only [Act.put, List.setIfInBounds_toArray, List.set_cons_zero, List.set_cons_succ]
      refine wpAnyH_take (i := 5) (v := ?_) rfl (by kernel_rfl) (by kernel_rfl) (by kernel_rfl) (fun _ _ _ h => h) (Or.inl ⟨by rfl, ?_⟩) hHeld ?_
      rotate_left 1
      · intro w9 hSw; obtain ⟨g0, g1, g2, g3, g4, g5, -⟩ := hSw; go_simp; try with_reducible rfl
      change wpAnyH _ _ _ _ _ _ _ (Act.put _ (some 69) _) _
      simp only [Act.put, List.setIfInBounds_toArray, List.set_cons_zero, List.set_cons_succ]
      refine wpAnyH_take (i := 6) (v := ?_) rfl (by kernel_rfl) (by kernel_rfl) (by kernel_rfl) (fun _ _ _ h => h) (Or.inl ⟨by rfl, ?_⟩) hHeld ?_
      rotate_left 1
      · intro w9 hSw; obtain ⟨g0, g1, g2, g3, g4, g5, -⟩ := hSw; go_simp; try with_reducible rfl
      change wpAnyH _ _ _ _ _ _ _ (Act.put _ (some 70) _) _
      simp only [Act.put, List.setIfInBounds_toArray, List.set_cons_zero, List.set_cons_succ]
      refine wpAnyH_take (i := 7) (v := ?_) rfl (by kernel_rfl) (by kernel_rfl) (by kernel_rfl) (fun _ _ _ h => h) (Or.inl ⟨by rfl, ?_⟩) hHeld ?_
      rotate_left 1
      · intro w9 hSw; obtain ⟨g0, g1, g2, g3, g4, g5, -⟩ := hSw; go_simp; try with_reducible rfl
      change wpAnyH _ _ _ _ _ _ _ (Act.put _ (some 71) _) _
      simp only [Act.put, List.setIfInBounds_toArray, List.set_cons_zero, List.set_cons_succ]
      refine wpAnyH_take (i := 8) (v := ?_) rfl (by kernel_rfl) (by kernel_rfl) (by kernel_rfl) (fun _ _ _ h => h) (Or.inl ⟨by rfl, ?_⟩) hHeld ?_
      rotate_left 1
      · intro w9 hSw; obtain ⟨g0, g1, g2, g3, g4, g5, -⟩ := hSw; go_simp; try with_reducible rfl
      change wpAnyH _ _ _ _ _ _ _ (Act.put _ (some 72) _) _
      simp only [Act.put, List.setIfInBounds_toArray, List.set_cons_zero, List.set_cons_succ]
      refine wpAnyH_take (i := 9) (v := ?_) rfl (by kernel_rfl) (by kernel_rfl) (by kernel_rfl) (fun _ _ _ h => h) (Or.inl ⟨by rfl, ?_⟩) hHeld ?_
      rotate_left 1
      · intro w9 hSw; obtain ⟨g0, g1, g2, g3, g4, g5, -⟩ := hSw; go_simp; try with_reducible rfl
      change wpAnyH _ _ _ _ _ _ _ (Act.put _ (some 73) _) _
      simp only [Act.put, List.setIfInBounds_toArray, List.set_cons_zero, List.set_cons_succ]
      refine wpAnyH_take (i := 10) (v := undef) rfl (by kernel_rfl) (by kernel_rfl) (by kernel_rfl) (fun _ _ _ h => h) (Or.inr ⟨by rfl, rfl⟩) hHeld ?_
      change wpAnyH _ _ _ _ _ _ _ (Act.put _ (some 74) _) _
      simp only [Act.put, List.setIfInBounds_toArray, List.set_cons_zero, List.set_cons_succ]
      refine wpAnyH_take (i := 11) (v := undef) rfl (by kernel_rfl) (by kernel_rfl) (by kernel_rfl) (fun _ _ _ h => h) (Or.inr ⟨by rfl, rfl⟩) hHeld ?_
      change wpAnyH _ _ _ _ _ _ _ (Act.put _ (some 75) _) _
      simp only [Act.put, List.setIfInBounds_toArray, List.set_cons_zero, List.set_cons_succ]
      refine wpAnyH_take (i := 12) (v := undef) rfl (by kernel_rfl) (by kernel_rfl) (by kernel_rfl) (fun _ _ _ h => h) (Or.inr ⟨by rfl, rfl⟩) hHeld ?_
      change wpAnyH _ _ _ _ _ _ _ (Act.put _ (some 76) _) _
      simp only [Act.put, List.setIfInBounds_toArray, List.set_cons_zero, List.set_cons_succ]
      refine wpAnyH_take (i := 13) (v := undef) rfl (by kernel_rfl) (by kernel_rfl) (by kernel_rfl) (fun _ _ _ h => h) (Or.inr ⟨by rfl, rfl⟩) hHeld ?_
      change wpAnyH _ _ _ _ _ _ _ (Act.put _ (some 77) _) _
      simp only [Act.put, List.setIfInBounds_toArray, List.set_cons_zero, List.set_cons_succ]
      refine wpAnyH_take (i := 14) (v := undef) rfl (by kernel_rfl) (by kernel_rfl) (by kernel_rfl) (fun _ _ _ h => h) (Or.inr ⟨by rfl, rfl⟩) hHeld ?_
      change wpAnyH _ _ _ _ _ _ _ (Act.put _ (some 78) _) _
      simp only [Act.put, List.setIfInBounds_toArray, List.set_cons_zero, List.set_cons_succ]
      refine wpAnyH_take (i := 15) (v := undef) rfl (by kernel_rfl) (by kernel_rfl) (by kernel_rfl) (fun _ _ _ h => h) (Or.inr ⟨by rfl, rfl⟩) hHeld ?_
      change wpAnyH _ _ _ _ _ _ _ (Act.put _ (some 79) _) _
      simp only [Act.put, List.setIfInBounds_toArray, List.set_cons_zero, List.set_cons_succ]
      refine wpAnyH_take (i := 16) (v := undef) rfl (by kernel_rfl) (by kernel_rfl) (by kernel_rfl) (fun _ _ _ h => h) (Or.inr ⟨by rfl, rfl⟩) hHeld ?_
      change wpAnyH _ _ _ _ _ _ _ (Act.put _ (some 80) _) _
      simp only [Act.put, List.setIfInBounds_toArray, List.set_cons_zero, List.set_cons_succ]
      refine wpAnyH_take (i := 17) (v := undef) rfl (by kernel_rfl) (by kernel_rfl) (by kernel_rfl) (fun _ _ _ h => h) (Or.inr ⟨by rfl, rfl⟩) hHeld ?_
      change wpAnyH _ _ _ _ _ _ _ (Act.put _ (some 81) _) _
      simp only [Act.put, List.setIfInBounds_toArray, List.set_cons_zero, List.set_cons_succ]
      refine wpAnyH_take (i := 18) (v := undef) rfl (by kernel_rfl) (by kernel_rfl) (by kernel_rfl) (fun _ _ _ h => h) (Or.inr ⟨by rfl, rfl⟩) hHeld ?_
      change wpAnyH _ _ _ _ _ _ _ (Act.put _ (some 82) _) _
      simp only [Act.put, List.setIfInBounds_toArray, List.set_cons_zero, List.set_cons_succ]
      refine wpAnyH_take (i := 19) (v := ?_) rfl (by kernel_rfl) (by kernel_rfl) (by kernel_rfl) (fun _ _ _ h => h) (Or.inl ⟨by rfl, ?_⟩) hHeld ?_
      rotate_left 1
      · intro w9 hSw; obtain ⟨g0, g1, g2, g3, g4, g5, -⟩ := hSw; go_simp; try with_reducible rfl
      change wpAnyH _ _ _ _ _ _ _ (Act.put _ (some 83) _) _
      simp only [Act.put, List.setIfInBounds_toArray, List.set_cons_zero, List.set_cons_succ]
      refine wpAnyH_take (i := 20) (v := ?_) rfl (by kernel_rfl) (by kernel_rfl) (by kernel_rfl) (fun _ _ _ h => h) (Or.inl ⟨by rfl, ?_⟩) hHeld ?_
      rotate_left 1
      · intro w9 hSw; obtain ⟨g0, g1, g2, g3, g4, g5, -⟩ := hSw; go_simp; try with_reducible rfl
      change wpAnyH _ _ _ _ _ _ _ (Act.put _ (some 84) _) _
      simp only [Act.put, List.setIfInBounds_toArray, List.set_cons_zero, List.set_cons_succ]
      refine wpAnyH_take (i := 21) (v := ?_) rfl (by kernel_rfl) (by kernel_rfl) (by kernel_rfl) (fun _ _ _ h => h) (Or.inl ⟨by rfl, ?_⟩) hHeld ?_
      rotate_left 1
      · intro w9 hSw; obtain ⟨g0, g1, g2, g3, g4, g5, -⟩ := hSw; go_simp; try with_reducible rfl
      change wpAnyH _ _ _ _ _ _ _ (Act.put _ (some 4) _) _
      simp only [Act.put, List.setIfInBounds_toArray, List.set_cons_zero, List.set_cons_succ]
      refine wpAnyH_done (by kernel_rfl) ?_ _
      have HZ := HB9.out _ (VX_b hHeld)
      clear hHeld hS
      go_wp2
      go_ret
      exact ⟨rfl, HZ⟩
end Go.Proofs.YtciibeldmcakeaaDoor
