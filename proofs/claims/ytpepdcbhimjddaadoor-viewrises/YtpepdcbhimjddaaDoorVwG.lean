/- view.Up, Life: walks. -/
import Derived.Test.YtpepdcbhimjddaaDoorVwF
namespace Go.Proofs.YtpepdcbhimjddaaDoor
open Go.RowKit

set_option maxRecDepth 100000 in
set_option maxHeartbeats 2000000 in
theorem up_any (ep : Int) (v : Value) (l : List Mb) (node : Int) (w : World) (hr : IsRow w 3 v l.length (mCells l)) (hl : l.length ≤ 140737488355328) :
    Calls Tryd.prog 25 #[vwV ep v, .int .i64 node] w fun e w' => TnPost ep true node l w e w' := by
  obtain ⟨a0, cap0, rfl⟩ := hr.form
  obtain ⟨f1, f2⟩ := dnW_facts w ep (.slice a0 l.length cap0)
  have HFd : Hid (Calls Tryd.prog 38 #[.agg #[.int .i64 ep, .slice a0 l.length cap0], .int .i64 node] (dnW w ep (.slice a0 l.length cap0)) fun e w' => FdPost ep l node (dnW w ep (.slice a0 l.length cap0)) e w') := find_any ep _ l node _ (hr.below f1) hl
  have HF2 : Hid _ := f2
  have HNx : Hid (∀ (k : Nat) (hk : k < l.length) (mn ml : Int) (mu : Bool) (W : World), VwP ep l → Below w.heap.size w W → Calls Tryd.prog 39 #[.agg #[.int .i64 ep, .slice a0 l.length cap0], .int .i64 (k : Int), .agg #[.int .i64 mn, .int .i64 ml, .bool mu]] W fun e w' => VwPost (if ep = 1099511627775 then 0 else ep + 1) (if ep = 1099511627775 then [] else l.set k ⟨mn, ml, mu⟩) (if ep = 1099511627775 then 13 else 0) W e w') := fun k hk mn ml mu W hv hb => next_any ep _ l k ⟨mn, ml, mu⟩ W (hr.below hb) hk (by have := hv.len; omega) hv.ep.1 hv.ep.2
  clear hr f1 f2
  go_enter Tryd.func25, Tryd.ntmps25
  go_wp2_with fail
  refine HFd.out.mono ?_
  rintro e w1 ⟨m, at', er, rfl, hb1, hcase⟩
  obtain ⟨B1, hs1, h0, h1⟩ := HF2.out _ hb1
  have HB1 : Hid (Below w.heap.size w w1) := B1
  have HH0 : Hid (w1.heap[w.heap.size]? = _) := h0
  have HH1 : Hid (w1.heap[w.heap.size + 1]? = _) := h1
  obtain ⟨p0, p1, -, -⟩ := two_V h0
  obtain ⟨q0, q1, q2, q3⟩ := two_V h1
  clear HFd HF2 hb1 h0 h1 B1
  obtain ⟨mn, ml, mu⟩ := m
  dsimp only at *
  have HBa : Hid (Below w.heap.size w (w1.alloc (.cells #[.int .i64 mn, .int .i64 ml, .bool mu] 58))) := HB1.out.alloc HB1.out.size _
  rcases hcase with ⟨rfl, hno, hm⟩ | ⟨rfl, hv, hno, hm⟩ | ⟨rfl, hv, k, hk, rfl, hm, hkn⟩
  · have HE : Hid (tE ep true node l = 1) := tE_no hno
    clear hno hm HNx
    go_wp2
    refine bodyPost_ret (v := .tuple #[vwV 0 (.slice none 0 0), .int .i64 1]) ?_ rfl (TnPost.bad HE.out (by decide) (set2a_V HB1.out (by omega) _ _ _))
    rw [results_csV rfl]; go_simp
  · have HE : Hid (tE ep true node l = 4) := tE_none hv hno
    clear hno hm HNx hv
    go_wp2
    refine bodyPost_ret (v := .tuple #[vwV 0 (.slice none 0 0), .int .i64 4]) ?_ rfl (TnPost.bad HE.out (by decide) (set2a_V HB1.out (by omega) _ _ _))
    rw [results_csV rfl]; go_simp
  · cases mu
    · by_cases hlm : ml = 1099511627775
      · have nb : (ml == 1099511627775) = true := by simpa using hlm
        have HE : Hid (tE ep true node l = 13) := by
          show _ = _
          rw [tE_at hv k hk hkn, ← hm]
          unfold eOf
          simp [hlm]
        clear hm HNx hv hkn hlm
        go_wp2
        refine bodyPost_ret (v := .tuple #[vwV 0 (.slice none 0 0), .int .i64 13]) ?_ rfl (TnPost.bad HE.out (by decide) (set2a_V HB1.out (by omega) _ _ _))
        rw [results_csV rfl]; go_simp
      · have nb : (ml == 1099511627775) = false := by simpa using hlm
        have hml := cntB_iff.1 (hv.2.2.1 l[k] (List.getElem_mem hk))
        rw [← hm] at hml
        dsimp only at hml
        have wl : IntKind.i64.wrap (ml + 1) = ml + 1 := wrapI (by omega) (by omega)
        have HBb : Hid (Below w.heap.size w (w1.alloc (.cells #[.int .i64 mn, .int .i64 (ml + 1), .bool true] 58))) := HB1.out.alloc HB1.out.size _
        have HC : Hid (Calls Tryd.prog 39 #[.agg #[.int .i64 ep, .slice a0 l.length cap0], .int .i64 (k : Int), .agg #[.int .i64 mn, .int .i64 (ml + 1), .bool true]] (w1.alloc (.cells #[.int .i64 mn, .int .i64 (ml + 1), .bool true] 58)) fun e w' => VwPost (tEp ep true node l) (tLs ep true node l) (tE ep true node l) (w1.alloc (.cells #[.int .i64 mn, .int .i64 (ml + 1), .bool true] 58)) e w') := by
          have := HNx.out k hk mn (ml + 1) true _ hv HBb.out
          by_cases he : ep = 1099511627775
          · have h13 : tE ep true node l = 13 := by rw [tE_at hv k hk hkn, ← hm]; unfold eOf; simp [he]
            obtain ⟨t1, t2⟩ := tE_bad h13 (by decide)
            rw [t1, t2, h13]
            rw [if_pos he, if_pos he, if_pos he] at this
            exact this
          · have h00 : eOf ep true l[k] = 0 := by rw [← hm]; unfold eOf; simp [he, hlm]
            obtain ⟨t0, t1, t2⟩ := tE_ok hv k hk hkn h00
            rw [t0, t1, t2]
            rw [if_neg he, if_neg he, if_neg he] at this
            rw [← hm]
            exact this
        have p0' := ((al_belowV w1 (.cells #[.int .i64 mn, .int .i64 (ml + 1), .bool true] 58)).cell (p := ⟨w.heap.size, 0, none⟩) (show w.heap.size < _ by omega)).trans p0
        have p1' := ((al_belowV w1 (.cells #[.int .i64 mn, .int .i64 (ml + 1), .bool true] 58)).cell (p := ⟨w.heap.size, 1, none⟩) (show w.heap.size < _ by omega)).trans p1
        have hl1 : w.heap.size < w1.heap.size := by omega
        clear hm HNx hv hkn hlm hml
        go_wp2_with fail
        refine HC.out.mono ?_
        rintro e w2 ⟨v2, rfl, hrow, hnew, hb2⟩
        obtain ⟨a2, cap2, rfl⟩ := hrow.form
        have hs2 : w.heap.size + 1 < (w1.alloc (.cells #[.int .i64 mn, .int .i64 (ml + 1), .bool true] 58)).heap.size := by simp; omega
        have HQ : w2.heap[w.heap.size + 1]? = _ := (hb2.block _ hs2).trans ((alloc_old _ _ hs1).trans HH1.out)
        obtain ⟨r0, r1, r2, r3⟩ := two_V HQ
        have HF : Hid (∀ x y, TnPost ep true node l w (.returned (.tuple #[vwV (tEp ep true node l) (.slice a2 (tLs ep true node l).length cap2), .int .i64 (tE ep true node l)])) ((w2.setCell ⟨w.heap.size + 1, 0, none⟩ x).setCell ⟨w.heap.size + 1, 1, none⟩ y)) := fun x y => ⟨_, rfl, (hrow.far hnew (by omega) _).far hnew (by omega) _, hnew.mono (by have := HBb.out.size; omega), set2_V (HBb.out.trans (hb2.mono HBb.out.size)) (by omega) _ _⟩
        clear HC hrow hnew hb2 HQ p0 p1 p0' p1' q0 q1 q2 q3
        generalize tEp ep true node l = TEP at *
        generalize tE ep true node l = TE at *
        generalize (tLs ep true node l).length = TN at *
        go_wp2
        refine bodyPost_ret (v := .tuple #[vwV TEP (.slice a2 TN cap2), .int .i64 TE]) ?_ rfl (HF.out _ _)
        rw [results_csV rfl]; go_simp
    · have HE : Hid (tE ep true node l = 5) := by
        show _ = _
        rw [tE_at hv k hk hkn, ← hm]
        unfold eOf
        simp
      clear hm HNx hv hkn
      go_wp2
      refine bodyPost_ret (v := .tuple #[vwV 0 (.slice none 0 0), .int .i64 5]) ?_ rfl (TnPost.bad HE.out (by decide) (set2a_V HB1.out (by omega) _ _ _))
      rw [results_csV rfl]; go_simp
theorem find_at {l : List Mb} (hn : NodesP (nds l)) {node : Int} (k : Nat) (hk : k < l.length) (e : l[k].nd = node) : l.find? (fun m => m.nd == node) = some l[k] := by
  rw [List.find?_eq_some_iff_getElem]
  refine ⟨by simpa using e, k, hk, rfl, fun j hj => ?_⟩
  simp only [Bool.not_eq_true', beq_eq_false_iff_ne]
  intro e2
  have := nds_nodup hn j k (by omega) hk (e2.trans e.symm)
  omega
set_option maxRecDepth 100000 in
set_option maxHeartbeats 1000000 in
theorem life_any (ep : Int) (v : Value) (l : List Mb) (node : Int) (w : World) (hr : IsRow w 3 v l.length (mCells l)) (hl : l.length ≤ 140737488355328) :
    Calls Tryd.prog 19 #[vwV ep v, .int .i64 node] w fun e w' => e = .returned (.int .i64 (lfL ep l node)) ∧ Below w.heap.size w w' := by
  obtain ⟨a0, cap0, rfl⟩ := hr.form
  have HB0 : Hid (Below w.heap.size w (w.alloc (.cells #[.int .i64 ep, .slice a0 l.length cap0] 24))) := al_belowV w _
  have HFd : Hid (Calls Tryd.prog 38 #[.agg #[.int .i64 ep, .slice a0 l.length cap0], .int .i64 node] (w.alloc (.cells #[.int .i64 ep, .slice a0 l.length cap0] 24)) fun e w' => FdPost ep l node (w.alloc (.cells #[.int .i64 ep, .slice a0 l.length cap0] 24)) e w') := find_any ep _ l node _ (hr.below HB0.out) hl
  clear hr
  go_enter Tryd.func19, Tryd.ntmps19
  go_wp2_with fail
  refine HFd.out.mono ?_
  rintro e w1 ⟨m, at', er, rfl, hb1, hcase⟩
  have hB1 := HB0.out.trans (hb1.mono HB0.out.size)
  obtain ⟨mn, ml, mu⟩ := m
  dsimp only at *
  have HBa : Hid (Below w.heap.size w (w1.alloc (.cells #[.int .i64 mn, .int .i64 ml, .bool mu] 58))) := hB1.alloc hB1.size _
  have HE : Hid (lfL ep l node = ml) := by
    show _ = _
    unfold lfL
    rcases hcase with ⟨rfl, hno, hm⟩ | ⟨rfl, hv, hno, hm⟩ | ⟨rfl, hv, k, hk, rfl, hm, hkn⟩
    · rw [if_neg (by rw [vB_false hno]; decide)]
      exact (congrArg Mb.lf hm).symm
    · rw [if_pos (vB_true hv), List.find?_eq_none.2 (fun x hx => by simpa using hno x hx)]
      exact (congrArg Mb.lf hm).symm
    · rw [if_pos (vB_true hv), find_at hv.2.2.2 k hk hkn]
      exact (congrArg Mb.lf hm).symm
  clear hcase hb1 hB1 HFd
  go_wp2
  go_ret
  exact ⟨by rw [HE.out]; rfl, HBa.out⟩
end Go.Proofs.YtpepdcbhimjddaaDoor
