/- view.find, next: walks. -/
import Derived.Test.YtpepdcbhimjddaaDoorVwC
namespace Go.Proofs.YtpepdcbhimjddaaDoor
open Go.RowKit

/-- Where a node's member stands. -/
def IxM (node : Int) (l : List Mb) (X : Int) : Prop := (X = -1 ∧ ∀ m ∈ l, m.nd ≠ node) ∨ ∃ (k : Nat) (h : k < l.length), X = (k : Int) ∧ l[k].nd = node
theorem find_fn (m : Mb) (node : Int) (B : Nat) (w : World) (hB : B < w.heap.size) (hk : w.cell? ⟨B, 0, none⟩ = some (.int .i64 node)) :
    Calls Tryd.prog 52 #[.agg #[.int .i64 m.nd, .int .i64 m.lf, .bool m.up], .pointer (some ⟨B, 0, none⟩)] w fun e w' => e = .returned (.bool (m.nd == node)) ∧ Below w.heap.size w w' := by
  obtain ⟨mn, ml, mu⟩ := m
  have HB : Hid (Below w.heap.size w (w.alloc (.cells #[.int .i64 mn, .int .i64 ml, .bool mu] 58))) := al_belowV w _
  dsimp only
  go_enter Tryd.func52, Tryd.ntmps52
  go_wp2
  go_ret
  exact ⟨rfl, HB.out⟩
set_option maxRecDepth 100000 in
set_option maxHeartbeats 1000000 in
theorem indexM_any (node : Int) (B : Nat) (v : Value) (l : List Mb) (w : World) (hr : IsRow w 3 v l.length (mCells l)) (hl : l.length ≤ 1000) (hB : B < w.heap.size) (hk : w.cell? ⟨B, 0, none⟩ = some (.int .i64 node)) :
    Calls Tryd.prog 51 #[v, .func (.func 52) #[] #[.pointer (some ⟨B, 0, none⟩)]] w fun e w' => ∃ X, e = .returned (.int .i64 X) ∧ IxM node l X ∧ Below w.heap.size w w' := by
  obtain ⟨a0, cap0, rfl⟩ := hr.form
  have HR : Hid (IsRow w 3 (.slice a0 l.length cap0) l.length (mCells l)) := hr
  have HK : Hid (∀ w', Below w.heap.size w w' → B < w'.heap.size ∧ w'.cell? ⟨B, 0, none⟩ = some (.int .i64 node)) := fun w' h => ⟨Nat.lt_of_lt_of_le hB h.size, (h.cell (p := ⟨B, 0, none⟩) hB).trans hk⟩
  clear hr hk
  go_enter Tryd.func51, Tryd.ntmps51
  go_wp2_with fail
  go_loopw [4, 5, 8] (fun r q i wr => r = .int .i64 0 ∧ q = q ∧ ∃ k : Nat, k ≤ l.length ∧ i = .int .i64 (k : Int) ∧ Hid (∀ m ∈ l.take k, m.nd ≠ node) ∧ Hid (Below w.heap.size w wr)) (fun _ _ i _ => l.length - (intOf i).toNat)
  case atStart => exact ⟨rfl, rfl, 0, Nat.zero_le _, rfl, fun m hm => by simp at hm, Below.refl _ _⟩
  case round =>
    obtain ⟨rfl, -, k, hk, rfl, HA, HB⟩ := hrel
    by_cases hlk : k < l.length
    · have dk : decide ((k : Int) < l.length) = true := by simp; omega
      obtain ⟨b, off, cap, hv, hlt, hc1, hc2, c0, c1, c2⟩ := mb_at (HR.out.below HB.out) hlk
      obtain ⟨rfl, -, rfl⟩ := Value.slice.inj hv
      have HF : Hid (Calls Tryd.prog 52 #[.agg #[.int .i64 l[k].nd, .int .i64 l[k].lf, .bool l[k].up], .pointer (some ⟨B, 0, none⟩)] wr fun e w' => e = .returned (.bool (l[k].nd == node)) ∧ Below wr.heap.size wr w') := find_fn l[k] node B wr (HK.out _ HB.out).1 (HK.out _ HB.out).2
      have HA2 : Hid (¬ l[k].nd = node → ∀ m ∈ l.take (k + 1), m.nd ≠ node) := fun h m hm => by
        rw [List.take_succ_eq_append_getElem hlk] at hm
        rcases List.mem_append.1 hm with h2 | h2
        · exact HA.out m h2
        · simp at h2; subst h2; exact h
      have HI : Hid (l[k].nd = node → IxM node l (k : Int)) := fun h => .inr ⟨k, hlk, rfl, h⟩
      have hsz := HB.out.size
      generalize l[k]'hlk = m at *
      obtain ⟨mn, ml, mu⟩ := m
      dsimp only at *
      clear hv HA HR HK
      go_wp2_with fail
      refine HF.out.mono ?_
      rintro e w4 ⟨rfl, hb4⟩
      have HB4 : Hid (Below w.heap.size w w4) := HB.out.trans (hb4.mono hsz)
      clear HF hb4
      by_cases hn : mn = node
      · have nb : (mn == node) = true := by simpa using hn
        have HI2 : Hid (IxM node l (k : Int)) := HI.out hn
        clear HI HA2 hn
        go_wp2
        go_ret
        exact ⟨_, rfl, HI2.out, HB4.out⟩
      · have nb : (mn == node) = false := by simpa using hn
        have HA3 : Hid (∀ m ∈ l.take (k + 1), m.nd ≠ node) := HA2.out hn
        clear HI HA2 hn
        go_wp2
        go_roundw
        case rel => exact ⟨rfl, trivial, k + 1, by omega, by simp, HA3, HB4⟩
        case measure => simp [intOf]; omega
    · have hk' : k = l.length := by omega
      subst hk'
      have dk : decide ((l.length : Int) < l.length) = false := by simp
      have HI : Hid (IxM node l (-1)) := .inl ⟨rfl, by have := HA.out; rwa [List.take_of_length_le (Nat.le_refl _)] at this⟩
      clear HA HR HK
      go_wp2
      go_ret
      exact ⟨_, rfl, HI.out, HB.out⟩
/-- What find answers. -/
def FdPost (ep : Int) (l : List Mb) (node : Int) (w : World) (e : Ending) (w' : World) : Prop :=
  ∃ (m : Mb) (at' er : Int), e = .returned (.tuple #[.agg #[.int .i64 m.nd, .int .i64 m.lf, .bool m.up], .int .i64 at', .int .i64 er]) ∧ Below w.heap.size w w' ∧
    ((er = 1 ∧ ¬ VwP ep l ∧ m = ⟨0, 0, false⟩) ∨ (er = 4 ∧ VwP ep l ∧ (∀ x ∈ l, x.nd ≠ node) ∧ m = ⟨0, 0, false⟩) ∨ (er = 0 ∧ VwP ep l ∧ ∃ (k : Nat) (h : k < l.length), at' = (k : Int) ∧ m = l[k] ∧ l[k].nd = node))
abbrev fdW (w : World) (ep : Int) (v : Value) (node : Int) : World := ((w.alloc (.cells #[.int .i64 ep, v] 24)).alloc (.cells #[.int .i64 node] 3)).alloc (.cells #[.int .i64 0, .int .i64 0, .bool false] 58)
theorem fdW_facts (w : World) (ep : Int) (v : Value) (node : Int) : Below w.heap.size w (fdW w ep v node) ∧ w.heap.size + 2 < (fdW w ep v node).heap.size ∧ ∀ w', Below (fdW w ep v node).heap.size (fdW w ep v node) w' → Below w.heap.size w w' ∧ w'.heap[w.heap.size]? = some (.cells #[.int .i64 ep, v] 24 (0, 0)) ∧ w'.heap[w.heap.size + 1]? = some (.cells #[.int .i64 node] 3 (0, 0)) ∧ w'.heap[w.heap.size + 2]? = some (.cells #[.int .i64 0, .int .i64 0, .bool false] 58 (0, 0)) := by
  have b1 : Below w.heap.size w ((w.alloc (.cells #[.int .i64 ep, v] 24)).alloc (.cells #[.int .i64 node] 3)) := (al_belowV w _).trans ((al_belowV _ _).mono (al_belowV w _).size)
  have b0 : Below w.heap.size w (fdW w ep v node) := b1.trans ((al_belowV _ _).mono b1.size)
  have hn : w.heap.size + 2 < (fdW w ep v node).heap.size := by simp [fdW]
  refine ⟨b0, hn, fun w' h => ⟨b0.trans (h.mono b0.size), ?_, ?_, ?_⟩⟩
  · rw [h.block _ (by omega)]
    show (((w.heap.push _).push _).push _)[w.heap.size]? = _
    rw [Array.getElem?_push, if_neg (by first | (simp; done) | (simp; omega)), Array.getElem?_push, if_neg (by first | (simp; done) | (simp; omega)), Array.getElem?_push, if_pos rfl]
  · rw [h.block _ (by omega)]
    show (((w.heap.push _).push _).push _)[w.heap.size + 1]? = _
    rw [Array.getElem?_push, if_neg (by first | (simp; done) | (simp; omega)), Array.getElem?_push, if_pos (by simp)]
  · rw [h.block _ hn]
    show (((w.heap.push _).push _).push _)[w.heap.size + 2]? = _
    rw [Array.getElem?_push, if_pos (by simp)]
theorem set3_V {w0 w : World} {b : Nat} (h : Below w0.heap.size w0 w) (hb : w0.heap.size ≤ b) (x y z : Value) : Below w0.heap.size w0 (((w.setCell ⟨b, 0, none⟩ x).setCell ⟨b, 1, none⟩ y).setCell ⟨b, 2, none⟩ z) :=
  ((h.setCell (p := ⟨b, 0, none⟩) hb _).setCell (p := ⟨b, 1, none⟩) hb _).setCell (p := ⟨b, 2, none⟩) hb _
set_option maxRecDepth 100000 in
set_option maxHeartbeats 2000000 in
theorem find_any (ep : Int) (v : Value) (l : List Mb) (node : Int) (w : World) (hr : IsRow w 3 v l.length (mCells l)) (hl : l.length ≤ 140737488355328) :
    Calls Tryd.prog 38 #[vwV ep v, .int .i64 node] w fun e w' => FdPost ep l node w e w' := by
  obtain ⟨a0, cap0, rfl⟩ := hr.form
  obtain ⟨f1, f2, f3⟩ := fdW_facts w ep (.slice a0 l.length cap0) node
  have HCk : Hid (Calls Tryd.prog 14 #[.agg #[.int .i64 ep, .slice a0 l.length cap0]] (fdW w ep (.slice a0 l.length cap0) node) fun e w' => e = .returned (.bool (vB ep l)) ∧ Below (fdW w ep (.slice a0 l.length cap0) node).heap.size (fdW w ep (.slice a0 l.length cap0) node) w') := check_any ep _ l _ (hr.below f1) hl
  have HF3 : Hid _ := f3
  have HR : Hid (∀ w', Below w.heap.size w w' → IsRow w' 3 (.slice a0 l.length cap0) l.length (mCells l)) := fun w' h => hr.below h
  clear hr f1 f3
  go_enter Tryd.func38, Tryd.ntmps38
  go_wp2_with fail
  refine HCk.out.mono ?_
  rintro e w1 ⟨rfl, hb1⟩
  obtain ⟨B1, h0, h1, h2⟩ := HF3.out _ hb1
  have HB1 : Hid (Below w.heap.size w w1) := B1
  obtain ⟨p0, p1, p2⟩ := heap_at h2
  have z0 := p0 0; have z1 := p0 1; have z2 := p0 2; have y0 := p1 0; have y1 := p1 1; have y2 := p1 2
  obtain ⟨r0, -, -⟩ := heap_at h0
  have v0 := r0 0; have v1 := r0 1
  simp only [List.getElem?_toArray, List.getElem?_cons_zero, List.getElem?_cons_succ] at z0 z1 z2 v0 v1
  by_cases hv : VwP ep l
  · have hvb : vB ep l = true := vB_true hv
    rw [hvb]
    have HX : Hid (Calls Tryd.prog 51 #[.slice a0 l.length cap0, .func (.func 52) #[] #[.pointer (some ⟨w.heap.size + 1, 0, none⟩)]] w1 fun e w' => ∃ X, e = .returned (.int .i64 X) ∧ IxM node l X ∧ Below w1.heap.size w1 w') := indexM_any node (w.heap.size + 1) _ l w1 (HR.out _ B1) (by have := hv.len; omega) (heap_at h1).2.2 ((heap_at h1).1 0)
    have HV : Hid (VwP ep l) := hv
    have hs1 := B1.size
    have hw1 := p2
    clear hvb hv HCk HF3 B1 h0 h1 hb1 p0 p1 r0 h2
    go_wp2_with fail
    refine HX.out.mono ?_
    rintro e w2 ⟨X, rfl, hX, hb2⟩
    have HB2 : Hid (Below w.heap.size w w2) := HB1.out.trans (hb2.mono hs1)
    have z0' := (hb2.cell (p := ⟨w.heap.size + 2, 0, none⟩) hw1).trans z0
    have z1' := (hb2.cell (p := ⟨w.heap.size + 2, 1, none⟩) hw1).trans z1
    have z2' := (hb2.cell (p := ⟨w.heap.size + 2, 2, none⟩) hw1).trans z2
    have y0' := (hb2.frozen (p := ⟨w.heap.size + 2, 0, none⟩) hw1).trans y0
    have y1' := (hb2.frozen (p := ⟨w.heap.size + 2, 1, none⟩) hw1).trans y1
    have y2' := (hb2.frozen (p := ⟨w.heap.size + 2, 2, none⟩) hw1).trans y2
    have v1' := (hb2.cell (p := ⟨w.heap.size, 1, none⟩) (show w.heap.size < _ by omega)).trans v1
    have hw2 := hb2.size
    have HR2 : Hid (IsRow w2 3 (.slice a0 l.length cap0) l.length (mCells l)) := HR.out _ HB2.out
    clear HX hb2 z0 z1 z2 y0 y1 y2 v0 v1 HR HB1
    rcases hX with ⟨rfl, hno⟩ | ⟨k, hk, rfl, hkn⟩
    · have HNo : Hid (∀ x ∈ l, x.nd ≠ node) := hno
      clear hno HR2
      go_wp2
      refine bodyPost_ret (v := .tuple #[.agg #[.int .i64 0, .int .i64 0, .bool false], .int .i64 0, .int .i64 4]) ?_ rfl ⟨⟨0, 0, false⟩, 0, 4, rfl, set3_V HB2.out (by omega) _ _ _, .inr (.inl ⟨rfl, HV.out, HNo.out, rfl⟩)⟩
      rw [results_c3V rfl]; go_simp
    · obtain ⟨b, off, cap, hvv, hlt, hc1, hc2, c0, c1, c2⟩ := mb_at HR2.out hk
      obtain ⟨rfl, -, rfl⟩ := Value.slice.inj hvv
      have HK : Hid (∃ (j : Nat) (h : j < l.length), (k : Int) = (j : Int) ∧ l[k] = l[j] ∧ l[j].nd = node) := ⟨k, hk, rfl, rfl, hkn⟩
      have i1 : (0 : Int) ≤ (k : Int) := by omega
      have i2 : (k : Int) < (l.length : Int) := by omega
      have i3 : ¬ (k : Int) < 0 := by omega
      generalize hm : l[k]'hk = m at *
      obtain ⟨mn, ml, mu⟩ := m
      dsimp only at *
      clear hvv HR2 hkn hm
      go_wp2
      refine bodyPost_ret (v := .tuple #[.agg #[.int .i64 mn, .int .i64 ml, .bool mu], .int .i64 (k : Int), .int .i64 0]) ?_ rfl ⟨⟨mn, ml, mu⟩, k, 0, rfl, set3_V HB2.out (by omega) _ _ _, .inr (.inr ⟨rfl, HV.out, HK.out⟩)⟩
      rw [results_c3V rfl]; go_simp
  · have hvb : vB ep l = false := vB_false hv
    rw [hvb]
    have HV : Hid (¬ VwP ep l) := hv
    clear hvb hv HCk HF3 B1 h0 h1 hb1 p0 p1 r0 HR h2
    go_wp2
    refine bodyPost_ret (v := .tuple #[.agg #[.int .i64 0, .int .i64 0, .bool false], .int .i64 0, .int .i64 1]) ?_ rfl ⟨⟨0, 0, false⟩, 0, 1, rfl, set3_V HB1.out (by omega) _ _ _, .inl ⟨rfl, HV.out, rfl⟩⟩
    rw [results_c3V rfl]; go_simp
end Go.Proofs.YtpepdcbhimjddaaDoor
