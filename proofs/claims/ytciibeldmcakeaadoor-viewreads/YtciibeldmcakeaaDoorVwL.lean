/- The reference's Same, Live, Life of views: walks. -/
import Derived.Test.YtciibeldmcakeaaDoorVwK
namespace Go.Proofs.YtciibeldmcakeaaDoor
open Go.RowKit

theorem neq_mb (a b : Int) (c : Bool) (w : World) : (binOp BinOp.neq 59 (.agg #[.int .i64 a, .int .i64 b, .bool c]) (.agg #[.int .i64 a, .int .i64 b, .bool c])).run Tryd.prog w = .ok (.bool false) w := by
  go_simp
abbrev smW (w : World) (ep : Int) (v1 v2 : Value) : World := (w.alloc (.cells #[.int .i64 ep, v1] 32)).alloc (.cells #[.int .i64 ep, v2] 32)
theorem smW_facts (w : World) (ep : Int) (v1 v2 : Value) : Below w.heap.size w (smW w ep v1 v2) ∧ (smW w ep v1 v2).heap[w.heap.size]? = some (.cells #[.int .i64 ep, v1] 32 (0, 0)) ∧ (smW w ep v1 v2).heap[w.heap.size + 1]? = some (.cells #[.int .i64 ep, v2] 32 (0, 0)) := by
  refine ⟨(al_belowV w _).trans ((al_belowV _ _).mono (al_belowV w _).size), ?_, ?_⟩
  · show ((w.heap.push _).push _)[w.heap.size]? = _
    rw [Array.getElem?_push, if_neg (by first | (simp; done) | (simp; omega)), Array.getElem?_push, if_pos rfl]
  · show ((w.heap.push _).push _)[w.heap.size + 1]? = _
    rw [Array.getElem?_push, if_pos (by simp)]
set_option maxRecDepth 100000 in
set_option maxHeartbeats 2000000 in
theorem refSame_eq (ep : Int) (v1 v2 : Value) (l : List Mb) (w : World) (h1 : IsRow w 3 v1 l.length (mCells l)) (h2 : IsRow w 3 v2 l.length (mCells l)) (hl : l.length ≤ 1000000) :
    Calls Tryd.prog 11 #[vwV ep v1, vwV ep v2] w fun e w' => e = .returned (.bool true) ∧ Below w.heap.size w w' := by
  obtain ⟨a1, cap1, rfl⟩ := h1.form
  obtain ⟨a2, cap2, rfl⟩ := h2.form
  obtain ⟨f1, f2, f3⟩ := smW_facts w ep (.slice a1 l.length cap1) (.slice a2 l.length cap2)
  have HR1 : Hid (∀ w', Below w.heap.size w w' → IsRow w' 3 (.slice a1 l.length cap1) l.length (mCells l)) := fun w' h => h1.below h
  have HR2 : Hid (∀ w', Below w.heap.size w w' → IsRow w' 3 (.slice a2 l.length cap2) l.length (mCells l)) := fun w' h => h2.below h
  have HB0 : Hid (Below w.heap.size w (smW w ep (.slice a1 l.length cap1) (.slice a2 l.length cap2))) := f1
  have HH0 : Hid _ := f2
  have HH1 : Hid _ := f3
  clear h1 h2 f1 f2 f3
  go_enter Tryd.func11, Tryd.ntmps11
  go_wp2_with fail
  go_loopw [5] (fun i wr => ∃ k : Nat, k ≤ l.length ∧ i = .int .i64 (k : Int) ∧ Hid (wr.heap[w.heap.size]? = some (.cells #[.int .i64 ep, .slice a1 l.length cap1] 32 (0, 0))) ∧ Hid (wr.heap[w.heap.size + 1]? = some (.cells #[.int .i64 ep, .slice a2 l.length cap2] 32 (0, 0))) ∧ Hid (Below w.heap.size w wr)) (fun i _ => l.length - (intOf i).toNat)
  case atStart => exact ⟨0, Nat.zero_le _, rfl, HH0, HH1, HB0⟩
  case round =>
    clear HH0 HH1 HB0
    obtain ⟨k, hk, rfl, HH0, HH1, HB⟩ := hrel
    obtain ⟨p0, p1, -, -⟩ := two_V HH0.out
    obtain ⟨q0, q1, -, -⟩ := two_V HH1.out
    by_cases hlk : k < l.length
    · have dk : decide ((k : Int) < l.length) = true := by simp; omega
      obtain ⟨b, off, cap, hvv, hlt, hc1, hc2, c0, c1, c2⟩ := mb_at (HR1.out _ HB.out) hlk
      obtain ⟨rfl, -, rfl⟩ := Value.slice.inj hvv
      obtain ⟨b', off', cap', hvv', hlt', hc1', hc2', e0, e1, e2⟩ := mb_at (HR2.out _ HB.out) hlk
      obtain ⟨rfl, -, rfl⟩ := Value.slice.inj hvv'
      have i1 : (0 : Int) ≤ (k : Int) := by omega
      have i2 : (k : Int) < (l.length : Int) := by omega
      generalize l[k]'hlk = m at *
      obtain ⟨mn, ml, mu⟩ := m
      dsimp only at *
      have hnq := neq_mb mn ml mu
      clear hvv hvv' HR1 HR2
      go_wp2_with fail
      go_quiet (fail)
      go_wp2
      go_roundw
      case rel => exact ⟨k + 1, by omega, by simp, HH0, HH1, drewN_V HB.out _⟩
      case measure => simp [intOf]; omega
    · have hk' : k = l.length := by omega
      subst hk'
      have dk : decide ((l.length : Int) < l.length) = false := by simp
      clear HR1 HR2
      go_wp2
      go_ret
      exact ⟨rfl, HB.out⟩
theorem own_setV {w : World} {base : Nat} {e : TypeId} {sz : Nat} {v : Value} {n : Nat} {xs : List Value} (h : w.ownsRow base e sz v n xs) {w' : World} (hb : Below w.heap.size w w') : w'.ownsRow base e sz v n xs := own_belowV h hb
theorem upN_take (l : List Mb) (k : Nat) (hk : k < l.length) : upN (l.take (k + 1)) = upN (l.take k) ++ (if l[k].up = true then [l[k].nd] else []) := by
  unfold upN
  rw [filt_take l k hk, List.map_append]
  congr 1
  split <;> rfl
theorem upN_len (l : List Mb) : (upN l).length ≤ l.length := by
  unfold upN
  rw [List.length_map]
  exact List.length_filter_le _ _
end Go.Proofs.YtciibeldmcakeaaDoor
