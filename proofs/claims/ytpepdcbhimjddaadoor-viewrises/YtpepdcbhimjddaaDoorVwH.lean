/- view.up: what it yields. -/
import Derived.Test.YtpepdcbhimjddaaDoorVwG
import Derived.RangeFuncBox
import Derived.RangeFuncNested
import Derived.RangeFuncBound
import Derived.RangeFuncCalls
import Derived.RangeFuncLeaves
import Derived.Shelf.Abstract
import Derived.Shelf.RegionOpen
import Derived.OwnWalkIn
import Derived.TacticsInMore
import Derived.LoopNIn
import Derived.LoopIn
namespace Go.Proofs.YtpepdcbhimjddaaDoor
open Go.RowKit Go.Shelf
attribute [local go_sem] Oper.semAt_some

/-- The members that are up. -/
noncomputable def upM (ep : Int) (l : List Mb) : List Mb := if vB ep l = true then l.filter Mb.up else []
abbrev mbV (m : Mb) : Value := .agg #[.int .i64 m.nd, .int .i64 m.lf, .bool m.up]
theorem below_grown {w w' : World} (h : Below w.heap.size w w') : w.grownBy w' none := ⟨h.os, h.tape, h.output, h.size, fun k hk _ => h.block k hk⟩
theorem filt_take (l : List Mb) (k : Nat) (hk : k < l.length) : (l.take (k + 1)).filter Mb.up = (l.take k).filter Mb.up ++ (if l[k].up = true then [l[k]] else []) := by
  rw [List.take_succ_eq_append_getElem hk, List.filter_append]
  congr 1
  simp only [List.filter_cons, List.filter_nil]
theorem filt_pre (l : List Mb) (k : Nat) : (l.take k).filter Mb.up <+: l.filter Mb.up := by
  conv => rhs; rw [← List.take_append_drop k l, List.filter_append]
  exact List.prefix_append _ _
set_option maxRecDepth 100000 in
set_option maxHeartbeats 2000000 in
theorem upS_stops (ep : Int) (v : Value) (l : List Mb) (wL w : World) (hr : IsRow wL 3 v l.length (mCells l)) (hl : l.length ≤ 140737488355328) (hb : Below wL.heap.size wL w) (Bn : Nat) (hBn : Bn < w.heap.size) (hc : w.heap[Bn]? = some (.cells #[.int .i64 ep, v] 24 (0, 0))) (n : Nat) :
    SeqStopsK Fence.wide n Tryd.prog 50 #[.pointer (some ⟨Bn, 0, none⟩)] (fun m : Mb => #[mbV m]) (Below wL.heap.size) (fun ys => ys = upM ep l) (fun pre => pre <+: upM ep l) l.length w := fun ll J Jx W hW hJ hJx hY h0 => by
  obtain ⟨a0, cap0, rfl⟩ := hr.form
  have hW2 : Below wL.heap.size wL W := hb.trans (hW.mono hb.size)
  have hc' : W.heap[Bn]? = some (.cells #[.int .i64 ep, .slice a0 l.length cap0] 24 (0, 0)) := (hW.block Bn hBn).trans hc
  have hlt : Bn < W.heap.size := (heap_at hc').2.2
  obtain ⟨c0, c1, -, -⟩ := two_V hc'
  have HCk : Hid (Calls Tryd.prog 14 #[.agg #[.int .i64 ep, .slice a0 l.length cap0]] W fun e w' => e = .returned (.bool (vB ep l)) ∧ Below W.heap.size W w') := check_any ep _ l W (hr.below hW2) hl
  have HR : Hid (∀ w', Below wL.heap.size wL w' → IsRow w' 3 (.slice a0 l.length cap0) l.length (mCells l)) := fun w' h => hr.below h
  have HJ : Hid (∀ s A B, J s A → Below A.heap.size A B → J s B) := fun s A B h hb => hJ s A B none h (below_grown hb) (fun r e => by cases e)
  have HY : Hid _ := hY
  have H0 : Hid (J [] W) := h0
  have HB2 : Hid (Below wL.heap.size wL W) := hW2
  clear hr hb hc hJx hJ hY h0 hW hW2 hc' hBn
  show CallsIn Fence.wide n Tryd.prog 50 #[.func (.yield ll) #[] #[], .pointer (some ⟨Bn, 0, none⟩)] W _
  refine callsIn_of_wp Tryd.func50 rfl trivial ?_ rfl
  simp only [Tryd.ntmps50, List.size_toArray, List.length_cons, List.length_nil, Nat.reduceAdd, Nat.reduceSub, Array.replicate_succ, Array.replicate_zero, List.push_toArray, List.append_toArray, List.nil_append, List.cons_append]
  gi_wp2_with fail
  refine ⟨trivial, fun h => (by cases h), (callsIn_wide.2 HCk.out).mono ?_⟩
  rintro e w1 ⟨rfl, hb1⟩
  have H1 : Hid (J [] w1) := HJ.out _ _ _ H0.out hb1
  have HB1 : Hid (Below wL.heap.size wL w1) := HB2.out.trans (hb1.mono HB2.out.size)
  have c0' := (hb1.cell (p := ⟨Bn, 0, none⟩) hlt).trans c0
  have c1' := (hb1.cell (p := ⟨Bn, 1, none⟩) hlt).trans c1
  clear HCk H0 HB2 hb1 c0 c1 hlt
  cases hvb : vB ep l
  · have HE : Hid (upM ep l = []) := by show _ = _; unfold upM; rw [if_neg (by rw [hvb]; decide)]
    clear hvb HY HJ HR
    gi_wp2
    refine bodyPost_ret (results_none rfl _ _ _) rfl ?_
    exact ⟨⟨_, rfl⟩, .inl ⟨[], HE.out.symm, H1.out⟩⟩
  · have HE : Hid (upM ep l = l.filter Mb.up) := by show _ = _; unfold upM; rw [if_pos hvb]
    clear hvb
    gi_wp2_with fail
    gi_loopw [11] (fun i wr => ∃ k : Nat, k ≤ l.length ∧ i = .int .i64 (k : Int) ∧ Hid (J ((l.take k).filter Mb.up) wr) ∧ Hid (Below wL.heap.size wL wr)) (fun i _ => l.length - (intOf i).toNat)
    case atStart => exact ⟨0, Nat.zero_le _, rfl, H1, HB1⟩
    case round =>
      obtain ⟨k, hk, rfl, HJk, HB⟩ := hrel
      clear H1 HB1 c0' c1'
      by_cases hlk : k < l.length
      · have dk : decide ((k : Int) < l.length) = true := by simp; omega
        obtain ⟨b, off, cap, hv, hlt, hc1, hc2, c0, c1, c2⟩ := mb_at (HR.out _ HB.out) hlk
        obtain ⟨rfl, -, rfl⟩ := Value.slice.inj hv
        have HT : Hid ((l.take (k + 1)).filter Mb.up = (l.take k).filter Mb.up ++ (if l[k].up = true then [l[k]] else [])) := filt_take l k hlk
        have HP : Hid ((l.take (k + 1)).filter Mb.up <+: l.filter Mb.up) := filt_pre l (k + 1)
        have HJa : Hid (J ((l.take k).filter Mb.up) (wr.alloc (.cells #[.int .i64 l[k].nd, .int .i64 l[k].lf, .bool l[k].up] 58))) := HJ.out _ _ _ HJk.out (al_belowV wr _)
        have HBa : Hid (Below wL.heap.size wL (wr.alloc (.cells #[.int .i64 l[k].nd, .int .i64 l[k].lf, .bool l[k].up] 58))) := HB.out.trans ((al_belowV wr _).mono HB.out.size)
        have hlen : ((l.take k).filter Mb.up).length < l.length := Nat.lt_of_le_of_lt (List.length_filter_le _ _) (by simp; omega)
        generalize l[k]'hlk = m at *
        obtain ⟨mn, ml, mu⟩ := m
        dsimp only at *
        clear hv HJ HR
        cases mu
        · have HT2 : Hid ((l.take (k + 1)).filter Mb.up = (l.take k).filter Mb.up) := by show _ = _; have := HT.out; simpa using this
          clear HT HY HP hlen
          gi_wp2
          refine ⟨fun _ h => (by cases h), ?_⟩
          gi_wp2
          go_roundw
          case rel => exact ⟨k + 1, by omega, by simp, by rw [HT2.out]; exact HJa, HBa⟩
          case measure => simp [intOf]; omega
        · have HT2 : Hid ((l.take (k + 1)).filter Mb.up = (l.take k).filter Mb.up ++ [⟨mn, ml, true⟩]) := by show _ = _; have := HT.out; simpa using this
          obtain ⟨fn, tmps, assign, body, hy, hR⟩ := HY.out _ ⟨mn, ml, true⟩ _ HJa.out hlen
          try dsimp only [mbV] at hy
          clear HT HY
          gi_wp2
          refine ⟨fun h => (by cases h), hR.mono ?_⟩
          rintro e W3 (⟨rfl, hJ3, hk3⟩ | ⟨rfl, hJx3⟩)
          · have HJ3 : Hid (J ((l.take (k + 1)).filter Mb.up) W3) := by show J _ _; rw [HT2.out]; exact hJ3
            have HB3 : Hid (Below wL.heap.size wL W3) := HBa.out.trans hk3
            clear hJ3 hk3
            gi_wp2
            go_roundw
            case rel => exact ⟨k + 1, by omega, by simp, HJ3, HB3⟩
            case measure => simp [intOf]; omega
          · have HJ3 : Hid (Jx ((l.take (k + 1)).filter Mb.up) W3) := by show Jx _ _; rw [HT2.out]; exact hJx3
            clear hJx3
            gi_wp2
            refine bodyPost_ret (results_none rfl _ _ _) rfl ?_
            exact ⟨⟨_, rfl⟩, .inr ⟨_, by rw [HE.out]; exact HP.out, HJ3.out⟩⟩
      · have hk' : k = l.length := by omega
        subst hk'
        have dk : decide ((l.length : Int) < l.length) = false := by simp
        have HJ2 : Hid (J (l.filter Mb.up) wr) := by have := HJk.out; rwa [List.take_of_length_le (Nat.le_refl _)] at this
        clear HJk HJ HR HY
        gi_wp2
        go_end0
        exact ⟨⟨_, rfl⟩, .inl ⟨_, HE.out.symm, HJ2.out⟩⟩
end Go.Proofs.YtpepdcbhimjddaaDoor
