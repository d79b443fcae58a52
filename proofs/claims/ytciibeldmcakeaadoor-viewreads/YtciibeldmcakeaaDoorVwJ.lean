/- law14's few, Ref; the reference's Check: walks. -/
import Derived.Test.YtciibeldmcakeaaDoorZa
import Derived.Test.YtciibeldmcakeaaDoorST
import Derived.Deep.QuietTactic
import Derived.BigQuiet
namespace Go.Proofs.YtciibeldmcakeaaDoor
open Go.RowKit

theorem few_anyV (ep : Int) (a : Option Addr) (n cap : Nat) (w : World) (hn : n ≤ 140737488355328) : Calls Tryd.prog 4 #[vwV ep (.slice a n cap)] w fun e w' => e = .returned (.bool (decide (n ≤ 40))) ∧ Below w.heap.size w w' := by
  have HB : Hid (Below w.heap.size w (w.alloc (.cells #[.int .i64 ep, .slice a n cap] 24))) := al_belowV w _
  by_cases h : n ≤ 40
  · have d : decide (n ≤ 40) = true := decide_eq_true h
    have d' : decide ((n : Int) ≤ 40) = true := decide_eq_true (by omega)
    rw [d]
    go_enter Tryd.func4, Tryd.ntmps4
    go_wp2
    go_ret
    exact ⟨rfl, HB.out⟩
  · have d : decide (n ≤ 40) = false := decide_eq_false h
    have d' : decide ((n : Int) ≤ 40) = false := decide_eq_false (by omega)
    rw [d]
    go_enter Tryd.func4, Tryd.ntmps4
    go_wp2
    go_ret
    exact ⟨rfl, HB.out⟩
theorem info_rm : (Tryd.prog.info? 59).map (fun i => (i.zero, i.size, i.bytes)) = some (some (.agg #[.int .i64 0, .int .i64 0, .bool false]), 3, 24) := by kernel_rfl
/-- A view that comes back alone. -/
def RfPost (ep : Int) (l : List Mb) (w : World) (e : Ending) (w' : World) : Prop := ∃ v, e = .returned (vwV ep v) ∧ IsRow w' 3 v l.length (mCells l) ∧ NewB w.heap.size v ∧ Below w.heap.size w w'
theorem results_c1V {fn : Func} {p : Tmp} {ty : TypeId} (h : fn.results = #[.cell p ty]) (tmps : Array Value) (P : Program) (w : World) :
    (results fn tmps).run P w = ((asAddr (tmps.getD p undef)).run P w).andThen fun a w₁ => (loadVar ty a).run P w₁ := by
  simp only [results, h]
  simp [Sem.run_bind, Result.andThen]
abbrev rfW (w : World) (ep : Int) (v : Value) : World := ((w.alloc (.cells #[.int .i64 ep, v] 24)).alloc (.cells #[.int .i64 0, .slice none 0 0] 32)).alloc (.cells #[.int .i64 ep, .slice none 0 0] 32)
theorem rfW_facts (w : World) (ep : Int) (v : Value) : Below w.heap.size w (rfW w ep v) ∧ (rfW w ep v).heap[w.heap.size]? = some (.cells #[.int .i64 ep, v] 24 (0, 0)) ∧ (rfW w ep v).heap[w.heap.size + 1]? = some (.cells #[.int .i64 0, .slice none 0 0] 32 (0, 0)) ∧ (rfW w ep v).heap[w.heap.size + 2]? = some (.cells #[.int .i64 ep, .slice none 0 0] 32 (0, 0)) := by
  have b1 : Below w.heap.size w ((w.alloc (.cells #[.int .i64 ep, v] 24)).alloc (.cells #[.int .i64 0, .slice none 0 0] 32)) := (al_belowV w _).trans ((al_belowV _ _).mono (al_belowV w _).size)
  refine ⟨b1.trans ((al_belowV _ _).mono b1.size), ?_, ?_, ?_⟩
  · show (((w.heap.push _).push _).push _)[w.heap.size]? = _
    rw [Array.getElem?_push, if_neg (by first | (simp; done) | (simp; omega)), Array.getElem?_push, if_neg (by first | (simp; done) | (simp; omega)), Array.getElem?_push, if_pos rfl]
  · show (((w.heap.push _).push _).push _)[w.heap.size + 1]? = _
    rw [Array.getElem?_push, if_neg (by first | (simp; done) | (simp; omega)), Array.getElem?_push, if_pos (by simp)]
  · show (((w.heap.push _).push _).push _)[w.heap.size + 2]? = _
    rw [Array.getElem?_push, if_pos (by simp)]
theorem mCells_take (l : List Mb) (k : Nat) (hk : k < l.length) : mCells (l.take (k + 1)) = mCells (l.take k) ++ enM l[k] := by rw [List.take_succ_eq_append_getElem hk, mCells_snoc]
set_option maxRecDepth 100000 in
set_option maxHeartbeats 2000000 in
theorem ref_any (ep : Int) (v : Value) (l : List Mb) (w : World) (hr : IsRow w 3 v l.length (mCells l)) (hl : l.length ≤ 1000000) :
    Calls Tryd.prog 10 #[vwV ep v] w fun e w' => RfPost ep l w e w' := by
  obtain ⟨a0, cap0, rfl⟩ := hr.form
  obtain ⟨i0, hi0, hz0, hz1, hz2⟩ := info_parts info_rm
  obtain ⟨f1, f2, f3, f4⟩ := rfW_facts w ep (.slice a0 l.length cap0)
  have HR : Hid (∀ w', Below w.heap.size w w' → IsRow w' 3 (.slice a0 l.length cap0) l.length (mCells l)) := fun w' h => hr.below h
  have HB0 : Hid (Below w.heap.size w (rfW w ep (.slice a0 l.length cap0))) := f1
  have HH0 : Hid _ := f2
  have HH1 : Hid _ := f3
  have HH2 : Hid _ := f4
  clear hr f1 f2 f3 f4
  go_enter Tryd.func10, Tryd.ntmps10
  go_wp2_with fail
  go_loopw [4] (fun i wr => ∃ (k : Nat) (va : Option Addr) (vc : Nat), k ≤ l.length ∧ i = .int .i64 (k : Int) ∧ Hid (wr.ownsRow (w.heap.size + 3) 59 3 (.slice va k vc) k (mCells (l.take k))) ∧ Hid (wr.heap[w.heap.size]? = some (.cells #[.int .i64 ep, .slice a0 l.length cap0] 24 (0, 0))) ∧ Hid (wr.heap[w.heap.size + 1]? = some (.cells #[.int .i64 0, .slice none 0 0] 32 (0, 0))) ∧ Hid (wr.heap[w.heap.size + 2]? = some (.cells #[.int .i64 ep, .slice va k vc] 32 (0, 0))) ∧ Hid (Below w.heap.size w wr)) (fun i _ => l.length - (intOf i).toNat)
  case atStart => exact ⟨0, none, 0, Nat.zero_le _, rfl, World.ownsRow_nil _ _ _ _, HH0, HH1, HH2, HB0⟩
  case round =>
    clear HH0 HH1 HH2 HB0
    obtain ⟨k, va, vc, hk, rfl, HO, HH0, HH1, HH2, HB⟩ := hrel
    have hsz := HB.out.size
    obtain ⟨p0, p1, -, -⟩ := two_V HH0.out
    obtain ⟨q0, q1, qf0, qf1⟩ := two_V HH1.out
    obtain ⟨r0, r1, rf0, rf1⟩ := two_V HH2.out
    have hw2 : w.heap.size + 2 < wr.heap.size := (heap_at HH2.out).2.2
    by_cases hlk : k < l.length
    · have dk : decide ((k : Int) < l.length) = true := by simp; omega
      obtain ⟨b, off, cap, hvv, hlt, hc1, hc2, c0, c1, c2⟩ := mb_at (HR.out _ HB.out) hlk
      obtain ⟨rfl, -, rfl⟩ := Value.slice.inj hvv
      have HT : Hid (mCells (l.take (k + 1)) = mCells (l.take k) ++ enM l[k]) := mCells_take l k hlk
      have i1 : (0 : Int) ≤ (k : Int) := by omega
      have i2 : (k : Int) < (l.length : Int) := by omega
      generalize l[k]'hlk = m at *
      obtain ⟨mn, ml, mu⟩ := m
      dsimp only [enM] at *
      have hb1 : (k + 1) * 24 ≤ 140737488355328 := by omega
      have hb2 : k + 1 ≤ maxLen := by unfold maxLen; omega
      have hb3 : w.heap.size + 3 ≤ wr.heap.size := by omega
      have h1c : ∀ u ∈ [Value.int .i64 mn, .int .i64 ml, .bool mu], u.oneCell' = true := by simp [Value.oneCell']
      have hne2 : (Value.slice va k vc).ownBlock ≠ some (w.heap.size + 2) := fun e => by have := (HO.out.lt _ e).1; omega
      have HNx : Hid (∀ w3 va3 vc3, w3.ownsRow (w.heap.size + 3) 59 3 (.slice va3 (k + 1) vc3) (k + 1) (mCells (l.take k) ++ [.int .i64 mn, .int .i64 ml, .bool mu]) → Below (w.heap.size + 3) wr w3 → Hid ((w3.setCell ⟨w.heap.size + 2, 1, none⟩ (.slice va3 (k + 1) vc3)).ownsRow (w.heap.size + 3) 59 3 (.slice va3 (k + 1) vc3) (k + 1) (mCells (l.take (k + 1)))) ∧ Hid ((w3.setCell ⟨w.heap.size + 2, 1, none⟩ (.slice va3 (k + 1) vc3)).heap[w.heap.size]? = some (.cells #[.int .i64 ep, .slice (some ⟨b, off, none⟩) l.length cap0] 24 (0, 0))) ∧ Hid ((w3.setCell ⟨w.heap.size + 2, 1, none⟩ (.slice va3 (k + 1) vc3)).heap[w.heap.size + 1]? = some (.cells #[.int .i64 0, .slice none 0 0] 32 (0, 0))) ∧ Hid ((w3.setCell ⟨w.heap.size + 2, 1, none⟩ (.slice va3 (k + 1) vc3)).heap[w.heap.size + 2]? = some (.cells #[.int .i64 ep, .slice va3 (k + 1) vc3] 32 (0, 0))) ∧ Hid (Below w.heap.size w (w3.setCell ⟨w.heap.size + 2, 1, none⟩ (.slice va3 (k + 1) vc3)))) := fun w3 va3 vc3 hown hb => by
        have k0 := (hb.block _ (by omega)).trans HH0.out
        have k1 := (hb.block _ (by omega)).trans HH1.out
        have k2 := (hb.block _ (by omega)).trans HH2.out
        have s1 := setCell_atV w3 1 k2 (.slice va3 (k + 1) vc3)
        refine ⟨?_, (s1.2 _ (by omega)).trans k0, (s1.2 _ (by omega)).trans k1, s1.1, (HB.out.trans (hb.mono (by omega))).setCell (p := ⟨w.heap.size + 2, 1, none⟩) (by show w.heap.size ≤ w.heap.size + 2; omega) _⟩
        show World.ownsRow _ _ _ _ _ _ _
        rw [HT.out]
        refine hown.kept (row := some (w.heap.size + 2)) ⟨rfl, rfl, rfl, by simp, fun j _ hj => s1.2 j (fun e => hj (by rw [e]))⟩ (.inr ?_)
        intro e
        have := (hown.lt _ e).1
        omega
      have HQ : Hid (∀ w3, Below (w.heap.size + 3) wr w3 → w3.cell? ⟨w.heap.size + 2, 1, none⟩ = some (.slice va k vc) ∧ w3.frozen? ⟨w.heap.size + 2, 1, none⟩ = false) := fun w3 hb => by
        have := two_V ((hb.block _ (by omega)).trans HH2.out)
        exact ⟨this.2.1, this.2.2.2⟩
      clear hvv HR HT HH0 HH1 HH2
      go_wp2_with fail
      go_region_law (refine step_appd rfl (.tmp 16) (.tmp 22) 30 59 rfl i0 _ 3 24 Tryd.underlying30 hi0 hz0 hz1 hz2 rfl (by decide) (w.heap.size + 3) (.slice va k vc) k (mCells (l.take k)) rfl HO.out [.int .i64 mn, .int .i64 ml, .bool mu] rfl _ rfl rfl h1c hb1 hb2 hb3 ?_; intro v3 w3 hown3 hbw3 hst3 hform; obtain ⟨g3, c3, rfl⟩ := hform; obtain ⟨s0, sf⟩ := HQ.out _ hbw3)
      all_goals
        obtain ⟨n0, n1, n2, n3, n4⟩ := HNx.out _ _ _ hown3 hbw3
        clear hown3 hbw3 hst3 HO HNx HQ
        go_wp2
        go_roundw
        case rel => exact ⟨k + 1, _, _, by omega, by simp, n0, n1, n2, n3, n4⟩
        case measure => simp [intOf]; omega
    · have hk' : k = l.length := by omega
      subst hk'
      have dk : decide ((l.length : Int) < l.length) = false := by simp
      have hown := HO.out
      rw [List.take_of_length_le (Nat.le_refl _)] at hown
      have HNw : Hid (NewB w.heap.size (.slice va l.length vc)) := (NewB.own hown).mono (by omega)
      have HF : Hid (∀ x y, IsRow ((wr.setCell ⟨w.heap.size + 1, 0, none⟩ x).setCell ⟨w.heap.size + 1, 1, none⟩ y) 3 (.slice va l.length vc) l.length (mCells l) ∧ Below w.heap.size w ((wr.setCell ⟨w.heap.size + 1, 0, none⟩ x).setCell ⟨w.heap.size + 1, 1, none⟩ y)) := fun x y => ⟨((IsRow.own hown).far (NewB.own hown) (by omega) _).far (NewB.own hown) (by omega) _, set2_V HB.out (by omega) _ _⟩
      clear hown HO HR HH0 HH1 HH2
      go_wp2
      refine bodyPost_ret (v := vwV ep (.slice va l.length vc)) ?_ rfl ⟨_, rfl, (HF.out _ _).1, HNw.out, (HF.out _ _).2⟩
      rw [results_c1V rfl]; go_simp
end Go.Proofs.YtciibeldmcakeaaDoor
