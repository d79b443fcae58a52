/- view.Down: its walk. -/
import Derived.Test.YtpepdcbhimjddaaDoorVwE
namespace Go.Proofs.YtpepdcbhimjddaaDoor
open Go.RowKit

theorem VwP.ep {ep : Int} {l : List Mb} (h : VwP ep l) : 1 ≤ ep ∧ ep ≤ 1099511627775 := cntB_iff.1 h.1
theorem tE_no {ep : Int} {up : Bool} {node : Int} {l : List Mb} (h : ¬ VwP ep l) : tE ep up node l = 1 := by unfold tE; rw [if_neg (by rw [vB_false h]; decide)]
theorem tE_none {ep : Int} {up : Bool} {node : Int} {l : List Mb} (h : VwP ep l) (hn : ∀ x ∈ l, x.nd ≠ node) : tE ep up node l = 4 := by unfold tE; rw [if_pos (vB_true h), eL_none hn]
theorem tE_at {ep : Int} {up : Bool} {node : Int} {l : List Mb} (h : VwP ep l) (k : Nat) (hk : k < l.length) (e : l[k].nd = node) : tE ep up node l = eOf ep up l[k] := by unfold tE; rw [if_pos (vB_true h), eL_at h.2.2.2 k hk e]
theorem tE_bad {ep : Int} {up : Bool} {node : Int} {l : List Mb} {x : Int} (h : tE ep up node l = x) (hx : x ≠ 0) : tEp ep up node l = 0 ∧ tLs ep up node l = [] := by
  unfold tEp tLs
  rw [h, if_neg hx, if_neg hx]
  exact ⟨rfl, rfl⟩
theorem tE_ok {ep : Int} {up : Bool} {node : Int} {l : List Mb} (h : VwP ep l) (k : Nat) (hk : k < l.length) (e : l[k].nd = node) (h0 : eOf ep up l[k] = 0) : tE ep up node l = 0 ∧ tEp ep up node l = ep + 1 ∧ tLs ep up node l = l.set k ⟨l[k].nd, if up = true then l[k].lf + 1 else l[k].lf, up⟩ := by
  have h1 := (tE_at (up := up) h k hk e).trans h0
  refine ⟨h1, ?_, ?_⟩
  · unfold tEp; rw [if_pos h1]
  · unfold tLs; rw [if_pos h1, ← set_map h.2.2.2 k hk e, tM_at e h0]
/-- What Down and Up answer. -/
def TnPost (ep : Int) (up : Bool) (node : Int) (l : List Mb) (w : World) (e : Ending) (w' : World) : Prop := VwPost (tEp ep up node l) (tLs ep up node l) (tE ep up node l) w e w'
theorem TnPost.bad {ep : Int} {up : Bool} {node : Int} {l : List Mb} {x : Int} (h : tE ep up node l = x) (hx : x ≠ 0) {w w' : World} (hb : Below w.heap.size w w') : TnPost ep up node l w (.returned (.tuple #[vwV 0 (.slice none 0 0), .int .i64 x])) w' := by
  obtain ⟨h1, h2⟩ := tE_bad h hx
  unfold TnPost
  rw [h1, h2, h]
  exact VwPost.none x hb
abbrev dnW (w : World) (ep : Int) (v : Value) : World := (w.alloc (.cells #[.int .i64 ep, v] 24)).alloc (.cells #[.int .i64 0, .slice none 0 0] 24)
theorem dnW_facts (w : World) (ep : Int) (v : Value) : Below w.heap.size w (dnW w ep v) ∧ ∀ w', Below (dnW w ep v).heap.size (dnW w ep v) w' → Below w.heap.size w w' ∧ w.heap.size + 1 < w'.heap.size ∧ w'.heap[w.heap.size]? = some (.cells #[.int .i64 ep, v] 24 (0, 0)) ∧ w'.heap[w.heap.size + 1]? = some (.cells #[.int .i64 0, .slice none 0 0] 24 (0, 0)) := by
  have b0 : Below w.heap.size w (dnW w ep v) := (al_belowV w _).trans ((al_belowV _ _).mono (al_belowV w _).size)
  have hn : w.heap.size + 1 < (dnW w ep v).heap.size := by simp [dnW]
  refine ⟨b0, fun w' h => ⟨b0.trans (h.mono b0.size), Nat.lt_of_lt_of_le hn h.size, ?_, ?_⟩⟩
  · rw [h.block _ (by omega)]
    show ((w.heap.push _).push _)[w.heap.size]? = _
    rw [Array.getElem?_push, if_neg (by first | (simp; done) | (simp; omega)), Array.getElem?_push, if_pos rfl]
  · rw [h.block _ hn]
    show ((w.heap.push _).push _)[w.heap.size + 1]? = _
    rw [Array.getElem?_push, if_pos (by simp)]
theorem two_V {w : World} {b : Nat} {x y : Value} {t : TypeId} (h : w.heap[b]? = some (.cells #[x, y] t (0, 0))) : w.cell? ⟨b, 0, none⟩ = some x ∧ w.cell? ⟨b, 1, none⟩ = some y ∧ w.frozen? ⟨b, 0, none⟩ = false ∧ w.frozen? ⟨b, 1, none⟩ = false := ⟨(heap_at h).1 0, (heap_at h).1 1, (heap_at h).2.1 0, (heap_at h).2.1 1⟩
theorem set2_V {w0 w : World} {b : Nat} (h : Below w0.heap.size w0 w) (hb : w0.heap.size ≤ b) (x y : Value) : Below w0.heap.size w0 ((w.setCell ⟨b, 0, none⟩ x).setCell ⟨b, 1, none⟩ y) :=
  (h.setCell (p := ⟨b, 0, none⟩) hb _).setCell (p := ⟨b, 1, none⟩) hb _
theorem set2a_V {w0 w : World} {b : Nat} (h : Below w0.heap.size w0 w) (hb : w0.heap.size ≤ b) (x y : Value) (o : Obj) : Below w0.heap.size w0 (((w.setCell ⟨b, 0, none⟩ x).setCell ⟨b, 1, none⟩ y).alloc o) := (set2_V h hb x y).alloc (set2_V h hb x y).size o
set_option maxRecDepth 100000 in
set_option maxHeartbeats 2000000 in
theorem down_any (ep : Int) (v : Value) (l : List Mb) (node : Int) (w : World) (hr : IsRow w 3 v l.length (mCells l)) (hl : l.length ≤ 140737488355328) :
    Calls Tryd.prog 23 #[vwV ep v, .int .i64 node] w fun e w' => TnPost ep false node l w e w' := by
  obtain ⟨a0, cap0, rfl⟩ := hr.form
  obtain ⟨f1, f2⟩ := dnW_facts w ep (.slice a0 l.length cap0)
  have HFd : Hid (Calls Tryd.prog 38 #[.agg #[.int .i64 ep, .slice a0 l.length cap0], .int .i64 node] (dnW w ep (.slice a0 l.length cap0)) fun e w' => FdPost ep l node (dnW w ep (.slice a0 l.length cap0)) e w') := find_any ep _ l node _ (hr.below f1) hl
  have HF2 : Hid _ := f2
  have HNx : Hid (∀ (k : Nat) (hk : k < l.length) (mn ml : Int) (mu : Bool) (W : World), VwP ep l → Below w.heap.size w W → Calls Tryd.prog 39 #[.agg #[.int .i64 ep, .slice a0 l.length cap0], .int .i64 (k : Int), .agg #[.int .i64 mn, .int .i64 ml, .bool mu]] W fun e w' => VwPost (if ep = 1099511627775 then 0 else ep + 1) (if ep = 1099511627775 then [] else l.set k ⟨mn, ml, mu⟩) (if ep = 1099511627775 then 13 else 0) W e w') := fun k hk mn ml mu W hv hb => next_any ep _ l k ⟨mn, ml, mu⟩ W (hr.below hb) hk (by have := hv.len; omega) hv.ep.1 hv.ep.2
  clear hr f1 f2
  go_enter Tryd.func23, Tryd.ntmps23
  go_wp2_with fail
  refine HFd.out.mono ?_
  rintro e w1 ⟨m, at', er, rfl, hb1, hcase⟩
  obtain ⟨B1, hs1, h0, h1⟩ := HF2.out _ hb1
  have HB1 : Hid (Below w.heap.size w w1) := B1
  have HH0 : Hid (w1.heap[w.heap.size]? = _) := h0
  have HH1 : Hid (w1.heap[w.heap.size + 1]? = _) := h1
  obtain ⟨p0, p1, -, -⟩ := two_V h0
  obtain ⟨q0, q1, q2, q3⟩ := two_V h1
  clear HFd HF2 hb1 h0 h1 B1
  obtain ⟨mn, ml, mu⟩ := m
  dsimp only at *
  have HBa : Hid (Below w.heap.size w (w1.alloc (.cells #[.int .i64 mn, .int .i64 ml, .bool mu] 58))) := HB1.out.alloc HB1.out.size _
  rcases hcase with ⟨rfl, hno, hm⟩ | ⟨rfl, hv, hno, hm⟩ | ⟨rfl, hv, k, hk, rfl, hm, hkn⟩
  · have HE : Hid (tE ep false node l = 1) := tE_no hno
    clear hno hm HNx
    go_wp2
    refine bodyPost_ret (v := .tuple #[vwV 0 (.slice none 0 0), .int .i64 1]) ?_ rfl (TnPost.bad HE.out (by decide) (set2a_V HB1.out (by omega) _ _ _))
    rw [results_csV rfl]; go_simp
  · have HE : Hid (tE ep false node l = 4) := tE_none hv hno
    clear hno hm HNx hv
    go_wp2
    refine bodyPost_ret (v := .tuple #[vwV 0 (.slice none 0 0), .int .i64 4]) ?_ rfl (TnPost.bad HE.out (by decide) (set2a_V HB1.out (by omega) _ _ _))
    rw [results_csV rfl]; go_simp
  · cases mu
    · have HE : Hid (tE ep false node l = 12) := by
        show _ = _
        rw [tE_at hv k hk hkn, ← hm]
        unfold eOf
        simp
      clear hm HNx hv hkn
      go_wp2
      refine bodyPost_ret (v := .tuple #[vwV 0 (.slice none 0 0), .int .i64 12]) ?_ rfl (TnPost.bad HE.out (by decide) (set2a_V HB1.out (by omega) _ _ _))
      rw [results_csV rfl]; go_simp
    · have HBb : Hid (Below w.heap.size w (w1.alloc (.cells #[.int .i64 mn, .int .i64 ml, .bool false] 58))) := HB1.out.alloc HB1.out.size _
      have HC : Hid (Calls Tryd.prog 39 #[.agg #[.int .i64 ep, .slice a0 l.length cap0], .int .i64 (k : Int), .agg #[.int .i64 mn, .int .i64 ml, .bool false]] (w1.alloc (.cells #[.int .i64 mn, .int .i64 ml, .bool false] 58)) fun e w' => VwPost (tEp ep false node l) (tLs ep false node l) (tE ep false node l) (w1.alloc (.cells #[.int .i64 mn, .int .i64 ml, .bool false] 58)) e w') := by
        have := HNx.out k hk mn ml false _ hv HBb.out
        by_cases he : ep = 1099511627775
        · have h13 : tE ep false node l = 13 := by rw [tE_at hv k hk hkn, ← hm]; unfold eOf; simp [he]
          obtain ⟨t1, t2⟩ := tE_bad h13 (by decide)
          rw [t1, t2, h13]
          rw [if_pos he, if_pos he, if_pos he] at this
          exact this
        · have h00 : eOf ep false l[k] = 0 := by rw [← hm]; unfold eOf; simp [he]
          obtain ⟨t0, t1, t2⟩ := tE_ok hv k hk hkn h00
          rw [t0, t1, t2]
          rw [if_neg he, if_neg he, if_neg he] at this
          rw [← hm]
          exact this
      have p0' := ((al_belowV w1 (.cells #[.int .i64 mn, .int .i64 ml, .bool false] 58)).cell (p := ⟨w.heap.size, 0, none⟩) (show w.heap.size < _ by omega)).trans p0
      have p1' := ((al_belowV w1 (.cells #[.int .i64 mn, .int .i64 ml, .bool false] 58)).cell (p := ⟨w.heap.size, 1, none⟩) (show w.heap.size < _ by omega)).trans p1
      have hl1 : w.heap.size < w1.heap.size := by omega
      clear hm HNx hv hkn
      go_wp2_with fail
      refine HC.out.mono ?_
      rintro e w2 ⟨v2, rfl, hrow, hnew, hb2⟩
      obtain ⟨a2, cap2, rfl⟩ := hrow.form
      have hs2 : w.heap.size + 1 < (w1.alloc (.cells #[.int .i64 mn, .int .i64 ml, .bool false] 58)).heap.size := by simp; omega
      have HQ : w2.heap[w.heap.size + 1]? = _ := (hb2.block _ hs2).trans ((alloc_old _ _ hs1).trans HH1.out)
      obtain ⟨r0, r1, r2, r3⟩ := two_V HQ
      have HF : Hid (∀ x y, TnPost ep false node l w (.returned (.tuple #[vwV (tEp ep false node l) (.slice a2 (tLs ep false node l).length cap2), .int .i64 (tE ep false node l)])) ((w2.setCell ⟨w.heap.size + 1, 0, none⟩ x).setCell ⟨w.heap.size + 1, 1, none⟩ y)) := fun x y => ⟨_, rfl, (hrow.far hnew (by omega) _).far hnew (by omega) _, hnew.mono (by have := HBb.out.size; omega), set2_V (HBb.out.trans (hb2.mono HBb.out.size)) (by omega) _ _⟩
      clear HC hrow hnew hb2 HQ p0 p1 p0' p1' q0 q1 q2 q3
      generalize tEp ep false node l = TEP at *
      generalize tE ep false node l = TE at *
      generalize (tLs ep false node l).length = TN at *
      go_wp2
      refine bodyPost_ret (v := .tuple #[vwV TEP (.slice a2 TN cap2), .int .i64 TE]) ?_ rfl (HF.out _ _)
      rw [results_csV rfl]; go_simp
end Go.Proofs.YtpepdcbhimjddaaDoor
