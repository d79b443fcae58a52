/- The reference's Turn: its walk. -/
import Derived.Test.YtpepdcbhimjddaaDoorVwL
namespace Go.Proofs.YtpepdcbhimjddaaDoor
open Go.RowKit

theorem eL_take (ep : Int) (up : Bool) (node : Int) (l : List Mb) (k : Nat) (hk : k < l.length) : eL ep up node (l.take (k + 1)) = if l[k].nd = node then eOf ep up l[k] else eL ep up node (l.take k) := by
  rw [List.take_succ_eq_append_getElem hk, eL_snoc]
theorem tM_take (ep : Int) (up : Bool) (node : Int) (l : List Mb) (k : Nat) (hk : k < l.length) : mCells ((l.take (k + 1)).map (tM ep up node)) = mCells ((l.take k).map (tM ep up node)) ++ enM (tM ep up node l[k]) := by
  rw [List.take_succ_eq_append_getElem hk, List.map_append, List.map_cons, List.map_nil, mCells_snoc]
theorem tE_of {ep : Int} {up : Bool} {node : Int} {l : List Mb} (h : VwP ep l) : tE ep up node l = eL ep up node l := by unfold tE; rw [if_pos (vB_true h)]
theorem fromTnPost {ep : Int} {up : Bool} {node : Int} {l : List Mb} {w w' : World} {v : Value} (h : VwP ep l) (h0 : eL ep up node l = 0) (hr : IsRow w' 3 v (l.map (tM ep up node)).length (mCells (l.map (tM ep up node)))) (hn : NewB w.heap.size v) (hb : Below w.heap.size w w') : TnPost ep up node l w (.returned (.tuple #[vwV (ep + 1) v, .int .i64 0])) w' := by
  have h1 := (tE_of (up := up) (node := node) h).trans h0
  unfold TnPost
  have h2 : tEp ep up node l = ep + 1 := by unfold tEp; rw [if_pos h1]
  have h3 : tLs ep up node l = l.map (tM ep up node) := by unfold tLs; rw [if_pos h1]
  rw [h1, h2, h3]
  exact ⟨v, rfl, hr, hn, hb⟩
set_option maxRecDepth 100000 in
set_option maxHeartbeats 4000000 in
theorem refTurn_up (ep : Int) (v : Value) (l : List Mb) (node : Int) (w : World) (hr : IsRow w 3 v l.length (mCells l)) (hl : l.length ≤ 1000000) :
    Calls Tryd.prog 24 #[vwV ep v, .int .i64 node, .bool true] w fun e w' => TnPost ep true node l w e w' := by
  obtain ⟨a0, cap0, rfl⟩ := hr.form
  obtain ⟨i0, hi0, hz0, hz1, hz2⟩ := info_parts info_rm
  have HR : Hid (∀ w', Below w.heap.size w w' → IsRow w' 3 (.slice a0 l.length cap0) l.length (mCells l)) := fun w' h => hr.below h
  have b0 : Below w.heap.size w ((w.alloc (.cells #[.int .i64 ep, .slice a0 l.length cap0] 30)).alloc (.cells #[.int .i64 0, .slice none 0 0] 30)) := (al_belowV w _).trans ((al_belowV _ _).mono (al_belowV w _).size)
  have HK0 : Hid (∀ w', Below ((w.alloc (.cells #[.int .i64 ep, .slice a0 l.length cap0] 30)).alloc (.cells #[.int .i64 0, .slice none 0 0] 30)).heap.size ((w.alloc (.cells #[.int .i64 ep, .slice a0 l.length cap0] 30)).alloc (.cells #[.int .i64 0, .slice none 0 0] 30)) w' → Below w.heap.size w w' ∧ w'.heap[w.heap.size]? = some (.cells #[.int .i64 ep, .slice a0 l.length cap0] 30 (0, 0)) ∧ w'.heap[w.heap.size + 1]? = some (.cells #[.int .i64 0, .slice none 0 0] 30 (0, 0))) := fun w' h => by
    refine ⟨b0.trans (h.mono b0.size), ?_, ?_⟩
    · rw [h.block _ (by first | (simp; done) | (simp; omega))]
      show ((w.heap.push _).push _)[w.heap.size]? = _
      rw [Array.getElem?_push, if_neg (by first | (simp; done) | (simp; omega)), Array.getElem?_push, if_pos rfl]
    · rw [h.block _ (by first | (simp; done) | (simp; omega))]
      show ((w.heap.push _).push _)[w.heap.size + 1]? = _
      rw [Array.getElem?_push, if_pos (by simp)]
  have HC : Hid (Calls Tryd.prog 15 #[.agg #[.int .i64 ep, .slice a0 l.length cap0]] ((w.alloc (.cells #[.int .i64 ep, .slice a0 l.length cap0] 30)).alloc (.cells #[.int .i64 0, .slice none 0 0] 30)) fun e w' => e = .returned (.bool (vB ep l)) ∧ Below ((w.alloc (.cells #[.int .i64 ep, .slice a0 l.length cap0] 30)).alloc (.cells #[.int .i64 0, .slice none 0 0] 30)).heap.size ((w.alloc (.cells #[.int .i64 ep, .slice a0 l.length cap0] 30)).alloc (.cells #[.int .i64 0, .slice none 0 0] 30)) w') := refCheck_any ep _ l _ (hr.below b0) hl
  clear hr b0
  go_enter Tryd.func24, Tryd.ntmps24
  go_wp2_with fail
  refine HC.out.mono ?_
  rintro e w1 ⟨rfl, hb1⟩
  obtain ⟨B1, h0, h1⟩ := HK0.out _ hb1
  have HB1 : Hid (Below w.heap.size w w1) := B1
  have HH0 : Hid (w1.heap[w.heap.size]? = _) := h0
  have HH1 : Hid (w1.heap[w.heap.size + 1]? = _) := h1
  have hs1 := B1.size
  have hg1 : w.heap.size + 1 < w1.heap.size := (heap_at h1).2.2
  obtain ⟨p0, p1, -, -⟩ := two_V h0
  obtain ⟨q0, q1, qf0, qf1⟩ := two_V h1
  clear HC HK0 hb1 B1 h0 h1
  by_cases hv : VwP ep l
  · have hvb : vB ep l = true := vB_true hv
    rw [hvb]
    have HV : Hid (VwP ep l) := hv
    have hep := hv.ep
    have HLf : Hid (∀ (k : Nat) (hk : k < l.length), 1 ≤ l[k].lf ∧ l[k].lf ≤ 1099511627775) := fun k hk => cntB_iff.1 (hv.2.2.1 _ (List.getElem_mem hk))
    have HA : Hid ((w1.alloc (.cells #[.int .i64 ep, .slice none 0 0] 30)).heap[w.heap.size]? = some (.cells #[.int .i64 ep, .slice a0 l.length cap0] 30 (0, 0)) ∧ (w1.alloc (.cells #[.int .i64 ep, .slice none 0 0] 30)).heap[w.heap.size + 1]? = some (.cells #[.int .i64 0, .slice none 0 0] 30 (0, 0)) ∧ (w1.alloc (.cells #[.int .i64 ep, .slice none 0 0] 30)).heap[w1.heap.size]? = some (.cells #[.int .i64 ep, .slice none 0 0] 30 (0, 0)) ∧ Below w.heap.size w (w1.alloc (.cells #[.int .i64 ep, .slice none 0 0] 30))) := ⟨(alloc_old _ _ (by omega)).trans HH0.out, (alloc_old _ _ hg1).trans HH1.out, alloc_top _ _, HB1.out.alloc hs1 _⟩
    clear hvb hv
    go_wp2_with fail
    generalize hH : w1.heap.size = H at *
    go_loopw [9, 10] (fun e i wr => ∃ (k : Nat) (va : Option Addr) (vc : Nat), k ≤ l.length ∧ e = .int .i64 (eL ep true node (l.take k)) ∧ i = .int .i64 (k : Int) ∧ Hid (wr.ownsRow (H + 1) 65 3 (.slice va k vc) k (mCells ((l.take k).map (tM ep true node)))) ∧ Hid (wr.heap[w.heap.size]? = some (.cells #[.int .i64 ep, .slice a0 l.length cap0] 30 (0, 0))) ∧ Hid (wr.heap[w.heap.size + 1]? = some (.cells #[.int .i64 0, .slice none 0 0] 30 (0, 0))) ∧ Hid (wr.heap[H]? = some (.cells #[.int .i64 ep, .slice va k vc] 30 (0, 0))) ∧ Hid (Below w.heap.size w wr)) (fun _ i _ => l.length - (intOf i).toNat)
    case atStart => exact ⟨0, none, 0, Nat.zero_le _, rfl, rfl, World.ownsRow_nil _ _ _ _, HA.out.1, HA.out.2.1, HA.out.2.2.1, HA.out.2.2.2⟩
    case round =>
      clear HA HH0 HH1 HB1 p0 p1 q0 q1 qf0 qf1
      obtain ⟨k, va, vc, hk, rfl, rfl, HO, HH0, HH1, HH2, HB⟩ := hrel
      have hsz := HB.out.size
      have hwH : H < wr.heap.size := (heap_at HH2.out).2.2
      have hw1 : w.heap.size < wr.heap.size := by omega
      have hw2 : w.heap.size + 1 < wr.heap.size := by omega
      obtain ⟨p0, p1, -, -⟩ := two_V HH0.out
      obtain ⟨q0, q1, qf0, qf1⟩ := two_V HH1.out
      obtain ⟨r0, r1, rf0, rf1⟩ := two_V HH2.out
      by_cases hlk : k < l.length
      · have dk : decide ((k : Int) < l.length) = true := by simp; omega
        obtain ⟨b, off, cap, hvv, hlt, hc1, hc2, c0, c1, c2⟩ := mb_at (HR.out _ HB.out) hlk
        obtain ⟨rfl, -, rfl⟩ := Value.slice.inj hvv
        have hlf := HLf.out k hlk
        have i1 : (0 : Int) ≤ (k : Int) := by omega
        have i2 : (k : Int) < (l.length : Int) := by omega
        have HTe : Hid _ := eL_take ep true node l k hlk
        have HTm : Hid _ := tM_take ep true node l k hlk
        generalize l[k]'hlk = m at *
        obtain ⟨mn, ml, mu⟩ := m
        dsimp only at *
        have HNx : Hid (∀ (lf' : Int) (up' : Bool), tM ep true node ⟨mn, ml, mu⟩ = ⟨mn, lf', up'⟩ → ∀ w3 va3 vc3, w3.ownsRow (H + 1) 65 3 (.slice va3 (k + 1) vc3) (k + 1) (mCells ((l.take k).map (tM ep true node)) ++ [.int .i64 mn, .int .i64 lf', .bool up']) → Below (H + 1) (wr.alloc (.cells #[.int .i64 mn, .int .i64 lf', .bool up'] 65)) w3 → (w3.cell? ⟨H, 1, none⟩ = some (.slice va k vc) ∧ w3.frozen? ⟨H, 1, none⟩ = false) ∧ Hid ((w3.setCell ⟨H, 1, none⟩ (.slice va3 (k + 1) vc3)).ownsRow (H + 1) 65 3 (.slice va3 (k + 1) vc3) (k + 1) (mCells ((l.take (k + 1)).map (tM ep true node)))) ∧ Hid ((w3.setCell ⟨H, 1, none⟩ (.slice va3 (k + 1) vc3)).heap[w.heap.size]? = some (.cells #[.int .i64 ep, .slice (some ⟨b, off, none⟩) l.length cap0] 30 (0, 0))) ∧ Hid ((w3.setCell ⟨H, 1, none⟩ (.slice va3 (k + 1) vc3)).heap[w.heap.size + 1]? = some (.cells #[.int .i64 0, .slice none 0 0] 30 (0, 0))) ∧ Hid ((w3.setCell ⟨H, 1, none⟩ (.slice va3 (k + 1) vc3)).heap[H]? = some (.cells #[.int .i64 ep, .slice va3 (k + 1) vc3] 30 (0, 0))) ∧ Hid (Below w.heap.size w (w3.setCell ⟨H, 1, none⟩ (.slice va3 (k + 1) vc3)))) := fun lf' up' htm w3 va3 vc3 hown hb => by
          have hb2 : Below (H + 1) wr w3 := ((Below.refl _ wr).alloc (by omega) _).trans hb
          have k0 := (hb2.block _ (by omega)).trans HH0.out
          have k1 := (hb2.block _ (by omega)).trans HH1.out
          have k2 := (hb2.block _ (by omega)).trans HH2.out
          have s1 := setCell_atV w3 1 k2 (.slice va3 (k + 1) vc3)
          refine ⟨⟨(two_V k2).2.1, (two_V k2).2.2.2⟩, ?_, (s1.2 _ (by omega)).trans k0, (s1.2 _ (by omega)).trans k1, s1.1, (HB.out.trans (hb2.mono (by omega))).setCell (p := ⟨H, 1, none⟩) (by show w.heap.size ≤ H; omega) _⟩
          show World.ownsRow _ _ _ _ _ _ _
          rw [HTm.out, htm]
          refine hown.kept (row := some H) ⟨rfl, rfl, rfl, by simp, fun j _ hj => s1.2 j (fun e => hj (by rw [e]))⟩ (.inr ?_)
          intro e
          have := (hown.lt _ e).1
          omega
        have hb1 : (k + 1) * 24 ≤ 140737488355328 := by omega
        have hb2 : k + 1 ≤ maxLen := by unfold maxLen; omega
        clear hvv HR HTm HH0 HH1 HH2 HLf
        by_cases hn : mn = node
        · subst hn
          cases mu
          · by_cases he : ep = 1099511627775
            · have ne : (ep == 1099511627775) = true := by simpa using he
              have HM : Hid (tM ep true mn ⟨mn, ml, false⟩ = ⟨mn, ml, true⟩) := by show _ = _; unfold tM eOf; simp [he]
              have HE : Hid (eL ep true mn (l.take (k + 1)) = 13) := by show _ = _; rw [HTe.out, if_pos rfl]; unfold eOf; simp [he]
              have HOa : Hid ((wr.alloc (.cells #[.int .i64 mn, .int .i64 (ml), .bool true] 65)).ownsRow (H + 1) 65 3 (.slice va k vc) k (mCells ((l.take k).map (tM ep true mn)))) := own_belowV HO.out (al_belowV wr _)
              have hsa : H + 1 ≤ (wr.alloc (.cells #[.int .i64 mn, .int .i64 (ml), .bool true] 65)).heap.size := by simp; omega
              clear HO HTe he
              go_wp2_with (at_builtin; go_loud (refine wpl_appV (wr.alloc (.cells #[.int .i64 mn, .int .i64 (ml), .bool true] 65)) rfl (.tmp 69) (.tmp 71) 28 65 rfl i0 _ 3 24 Tryd.underlying28 hi0 hz0 hz1 hz2 rfl (by decide) (H + 1) (.slice va k vc) k (mCells ((l.take k).map (tM ep true mn))) rfl HOa.out [.int .i64 mn, .int .i64 (ml), .bool true] rfl _ rfl (wr.heap.size + 1) (by simp) rfl (by simp [Value.oneCell']) hb1 hb2 hsa ?_; intro v4 w4 hown4 hb4 hne4; obtain ⟨va4, vc4, rfl⟩ := (IsRow.own hown4).form; obtain ⟨⟨x0, x1⟩, n0, n1, n2, n3, n4⟩ := HNx.out _ _ HM.out _ _ _ hown4 hb4))
              clear hown4 hb4 hne4 HNx HOa
              go_wp2
              go_roundw
              case rel => exact ⟨k + 1, va4, vc4, by omega, by first | (rw [HE.out]; done) | (rw [HE.out]; rfl), by simp, n0, n1, n2, n3, n4⟩
              case measure => simp [intOf]; omega
            · have ne : (ep == 1099511627775) = false := by simpa using he
              by_cases hm : ml = 1099511627775
              · have nm : (ml == 1099511627775) = true := by simpa using hm
                have HM : Hid (tM ep true mn ⟨mn, ml, false⟩ = ⟨mn, ml, true⟩) := by show _ = _; unfold tM eOf; simp [he, hm]
                have HE : Hid (eL ep true mn (l.take (k + 1)) = 13) := by show _ = _; rw [HTe.out, if_pos rfl]; unfold eOf; simp [he, hm]
                have HOa : Hid ((wr.alloc (.cells #[.int .i64 mn, .int .i64 (ml), .bool true] 65)).ownsRow (H + 1) 65 3 (.slice va k vc) k (mCells ((l.take k).map (tM ep true mn)))) := own_belowV HO.out (al_belowV wr _)
                have hsa : H + 1 ≤ (wr.alloc (.cells #[.int .i64 mn, .int .i64 (ml), .bool true] 65)).heap.size := by simp; omega
                clear HO HTe he hm
                go_wp2_with (at_builtin; go_loud (refine wpl_appV (wr.alloc (.cells #[.int .i64 mn, .int .i64 (ml), .bool true] 65)) rfl (.tmp 69) (.tmp 71) 28 65 rfl i0 _ 3 24 Tryd.underlying28 hi0 hz0 hz1 hz2 rfl (by decide) (H + 1) (.slice va k vc) k (mCells ((l.take k).map (tM ep true mn))) rfl HOa.out [.int .i64 mn, .int .i64 (ml), .bool true] rfl _ rfl (wr.heap.size + 1) (by simp) rfl (by simp [Value.oneCell']) hb1 hb2 hsa ?_; intro v4 w4 hown4 hb4 hne4; obtain ⟨va4, vc4, rfl⟩ := (IsRow.own hown4).form; obtain ⟨⟨x0, x1⟩, n0, n1, n2, n3, n4⟩ := HNx.out _ _ HM.out _ _ _ hown4 hb4))
                clear hown4 hb4 hne4 HNx HOa
                go_wp2
                go_roundw
                case rel => exact ⟨k + 1, va4, vc4, by omega, by first | (rw [HE.out]; done) | (rw [HE.out]; rfl), by simp, n0, n1, n2, n3, n4⟩
                case measure => simp [intOf]; omega
              · have nm : (ml == 1099511627775) = false := by simpa using hm
                have wl : IntKind.i64.wrap (ml + 1) = ml + 1 := wrapI (by omega) (by omega)
                have HM : Hid (tM ep true mn ⟨mn, ml, false⟩ = ⟨mn, ml + 1, true⟩) := by show _ = _; unfold tM eOf; simp [he, hm]
                have HE : Hid (eL ep true mn (l.take (k + 1)) = 0) := by show _ = _; rw [HTe.out, if_pos rfl]; unfold eOf; simp [he, hm]
                have HOa : Hid ((wr.alloc (.cells #[.int .i64 mn, .int .i64 (ml + 1), .bool true] 65)).ownsRow (H + 1) 65 3 (.slice va k vc) k (mCells ((l.take k).map (tM ep true mn)))) := own_belowV HO.out (al_belowV wr _)
                have hsa : H + 1 ≤ (wr.alloc (.cells #[.int .i64 mn, .int .i64 (ml + 1), .bool true] 65)).heap.size := by simp; omega
                clear HO HTe he hm
                go_wp2_with (at_builtin; go_loud (refine wpl_appV (wr.alloc (.cells #[.int .i64 mn, .int .i64 (ml + 1), .bool true] 65)) rfl (.tmp 69) (.tmp 71) 28 65 rfl i0 _ 3 24 Tryd.underlying28 hi0 hz0 hz1 hz2 rfl (by decide) (H + 1) (.slice va k vc) k (mCells ((l.take k).map (tM ep true mn))) rfl HOa.out [.int .i64 mn, .int .i64 (ml + 1), .bool true] rfl _ rfl (wr.heap.size + 1) (by simp) rfl (by simp [Value.oneCell']) hb1 hb2 hsa ?_; intro v4 w4 hown4 hb4 hne4; obtain ⟨va4, vc4, rfl⟩ := (IsRow.own hown4).form; obtain ⟨⟨x0, x1⟩, n0, n1, n2, n3, n4⟩ := HNx.out _ _ HM.out _ _ _ hown4 hb4))
                clear hown4 hb4 hne4 HNx HOa
                go_wp2
                go_roundw
                case rel => exact ⟨k + 1, va4, vc4, by omega, by first | (rw [HE.out]; done) | (rw [HE.out]; rfl), by simp, n0, n1, n2, n3, n4⟩
                case measure => simp [intOf]; omega
          · skip
            have HM : Hid (tM ep true mn ⟨mn, ml, true⟩ = ⟨mn, ml, true⟩) := by show _ = _; unfold tM eOf; simp
            have HE : Hid (eL ep true mn (l.take (k + 1)) = 5) := by show _ = _; rw [HTe.out, if_pos rfl]; unfold eOf; simp
            have HOa : Hid ((wr.alloc (.cells #[.int .i64 mn, .int .i64 (ml), .bool true] 65)).ownsRow (H + 1) 65 3 (.slice va k vc) k (mCells ((l.take k).map (tM ep true mn)))) := own_belowV HO.out (al_belowV wr _)
            have hsa : H + 1 ≤ (wr.alloc (.cells #[.int .i64 mn, .int .i64 (ml), .bool true] 65)).heap.size := by simp; omega
            clear HO HTe 
            go_wp2_with (at_builtin; go_loud (refine wpl_appV (wr.alloc (.cells #[.int .i64 mn, .int .i64 (ml), .bool true] 65)) rfl (.tmp 69) (.tmp 71) 28 65 rfl i0 _ 3 24 Tryd.underlying28 hi0 hz0 hz1 hz2 rfl (by decide) (H + 1) (.slice va k vc) k (mCells ((l.take k).map (tM ep true mn))) rfl HOa.out [.int .i64 mn, .int .i64 (ml), .bool true] rfl _ rfl (wr.heap.size + 1) (by simp) rfl (by simp [Value.oneCell']) hb1 hb2 hsa ?_; intro v4 w4 hown4 hb4 hne4; obtain ⟨va4, vc4, rfl⟩ := (IsRow.own hown4).form; obtain ⟨⟨x0, x1⟩, n0, n1, n2, n3, n4⟩ := HNx.out _ _ HM.out _ _ _ hown4 hb4))
            clear hown4 hb4 hne4 HNx HOa
            go_wp2
            go_roundw
            case rel => exact ⟨k + 1, va4, vc4, by omega, by first | (rw [HE.out]; done) | (rw [HE.out]; rfl), by simp, n0, n1, n2, n3, n4⟩
            case measure => simp [intOf]; omega
        · have nb : (mn == node) = false := by simpa using hn
          have HM : Hid (tM ep true node ⟨mn, ml, mu⟩ = ⟨mn, ml, mu⟩) := by show _ = _; unfold tM; exact if_neg hn
          have HE : Hid (eL ep true node (l.take (k + 1)) = eL ep true node (l.take k)) := by show _ = _; rw [HTe.out, if_neg hn]
          have HOa : Hid ((wr.alloc (.cells #[.int .i64 mn, .int .i64 (ml), .bool mu] 65)).ownsRow (H + 1) 65 3 (.slice va k vc) k (mCells ((l.take k).map (tM ep true node)))) := own_belowV HO.out (al_belowV wr _)
          have hsa : H + 1 ≤ (wr.alloc (.cells #[.int .i64 mn, .int .i64 (ml), .bool mu] 65)).heap.size := by simp; omega
          clear HO HTe hn
          go_wp2_with (at_builtin; go_loud (refine wpl_appV (wr.alloc (.cells #[.int .i64 mn, .int .i64 (ml), .bool mu] 65)) rfl (.tmp 69) (.tmp 71) 28 65 rfl i0 _ 3 24 Tryd.underlying28 hi0 hz0 hz1 hz2 rfl (by decide) (H + 1) (.slice va k vc) k (mCells ((l.take k).map (tM ep true node))) rfl HOa.out [.int .i64 mn, .int .i64 (ml), .bool mu] rfl _ rfl (wr.heap.size + 1) (by simp) rfl (by simp [Value.oneCell']) hb1 hb2 hsa ?_; intro v4 w4 hown4 hb4 hne4; obtain ⟨va4, vc4, rfl⟩ := (IsRow.own hown4).form; obtain ⟨⟨x0, x1⟩, n0, n1, n2, n3, n4⟩ := HNx.out _ _ HM.out _ _ _ hown4 hb4))
          clear hown4 hb4 hne4 HNx HOa
          go_wp2
          go_roundw
          case rel => exact ⟨k + 1, va4, vc4, by omega, by first | (rw [HE.out]; done) | (rw [HE.out]; rfl), by simp, n0, n1, n2, n3, n4⟩
          case measure => simp [intOf]; omega
      · have hk' : k = l.length := by omega
        subst hk'
        have dk : decide ((l.length : Int) < l.length) = false := by simp
        have hown := HO.out
        rw [List.take_of_length_le (Nat.le_refl _)] at hown ⊢
        have HNw : Hid (NewB (H + 1) (.slice va l.length vc)) := NewB.own hown
        have HRw : Hid (IsRow wr 3 (.slice va l.length vc) (l.map (tM ep true node)).length (mCells (l.map (tM ep true node)))) := by rw [List.length_map]; exact IsRow.own hown
        clear hown HO HR HLf
        by_cases he : eL ep true node l = 0
        · have HP : Hid (∀ a x y, TnPost ep true node l w (.returned (.tuple #[vwV (ep + 1) (.slice va l.length vc), .int .i64 0])) (((wr.setCell ⟨H, 0, none⟩ a).setCell ⟨w.heap.size + 1, 0, none⟩ x).setCell ⟨w.heap.size + 1, 1, none⟩ y)) := fun a x y => fromTnPost HV.out he (((HRw.out.far HNw.out (by omega) _).far HNw.out (by omega) _).far HNw.out (by omega) _) (HNw.out.mono (by omega)) (set2_V (HB.out.setCell (p := ⟨H, 0, none⟩) (by show w.heap.size ≤ H; omega) _) (by omega) _ _)
          have we : ep ≠ 1099511627775 → IntKind.i64.wrap (ep + 1) = ep + 1 := fun _ => wrapI (by omega) (by omega)
          have we2 : IntKind.i64.wrap (ep + 1) = ep + 1 := wrapI (by omega) (by omega)
          have hne : H ≠ w.heap.size + 1 := by omega
          have hne' : w.heap.size + 1 ≠ H := by omega
          have s1 := setCell_atV wr 0 HH2.out (.int .i64 (ep + 1))
          have t1 := (two_V (x := .int .i64 (ep + 1)) (y := .slice va l.length vc) s1.1)
          have t2 := two_V ((s1.2 _ hne').trans HH1.out)
          obtain ⟨t10, t11, -, -⟩ := t1
          obtain ⟨t20, t21, t22, t23⟩ := t2
          rw [he]
          clear s1 HRw HNw he HH0 HH1 HH2 we
          go_wp2
          refine bodyPost_ret (v := .tuple #[vwV (ep + 1) (.slice va l.length vc), .int .i64 0]) ?_ rfl (HP.out _ _ _)
          rw [results_csV rfl]; go_simp
        · have HP : Hid (∀ x y, TnPost ep true node l w (.returned (.tuple #[vwV 0 (.slice none 0 0), .int .i64 (eL ep true node l)])) ((wr.setCell ⟨w.heap.size + 1, 0, none⟩ x).setCell ⟨w.heap.size + 1, 1, none⟩ y)) := fun x y => TnPost.bad (tE_of HV.out) he (set2_V HB.out (by omega) _ _)
          have nb : (eL ep true node l != 0) = true := by simpa using he
          generalize eL ep true node l = E at *
          clear HRw HNw he HH0 HH1 HH2
          go_wp2
          refine bodyPost_ret (v := .tuple #[vwV 0 (.slice none 0 0), .int .i64 E]) ?_ rfl (HP.out _ _)
          rw [results_csV rfl]; go_simp
  · have hvb : vB ep l = false := vB_false hv
    rw [hvb]
    have HE : Hid (tE ep true node l = 1) := tE_no hv
    clear hvb hv HR
    go_wp2
    refine bodyPost_ret (v := .tuple #[vwV 0 (.slice none 0 0), .int .i64 1]) ?_ rfl (TnPost.bad HE.out (by decide) (set2_V HB1.out (by omega) _ _))
    rw [results_csV rfl]; go_simp
end Go.Proofs.YtpepdcbhimjddaaDoor
