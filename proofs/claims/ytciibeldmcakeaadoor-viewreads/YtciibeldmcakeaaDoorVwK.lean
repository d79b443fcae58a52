/- The reference's Check and Same of views: walks. -/
import Derived.Test.YtciibeldmcakeaaDoorVwJ
namespace Go.Proofs.YtciibeldmcakeaaDoor
open Go.RowKit

theorem drewN_V {B : Nat} {a w : World} (h : Below B a w) (n : Nat) : Below B a (w.drewN n) := ⟨h.os, h.tape, h.output, h.size, h.block⟩
/-- May the member at a place be there? -/
def okMb (l : List Mb) (k : Nat) (h : k < l.length) : Prop := cntB l[k].lf = true ∧ 1 ≤ l[k].nd ∧ l[k].nd ≤ 15 ∧ ∀ (j : Nat) (e : j + 1 = k), (l[j]'(by omega)).nd < l[k].nd
theorem okMb_all {l : List Mb} (h : ∀ (k : Nat) (hk : k < l.length), okMb l k hk) : MbP l := by
  refine ⟨fun m hm => ?_, fun k hk => ?_⟩
  · obtain ⟨k, hk, rfl⟩ := List.mem_iff_getElem.1 hm
    exact (h k hk).1
  · have hk' : k < l.length := by simpa [nds] using hk
    obtain ⟨h1, h2, h3, h4⟩ := h k hk'
    refine ⟨by simpa [nds] using h2, by simpa [nds] using h3, fun j e => by simpa [nds] using h4 j e⟩
theorem okMb_of {l : List Mb} (h : MbP l) (k : Nat) (hk : k < l.length) : okMb l k hk := by
  have hn := h.2 k (by simpa [nds] using hk)
  refine ⟨h.1 _ (List.getElem_mem hk), by simpa [nds] using hn.1, by simpa [nds] using hn.2.1, fun j e => by simpa [nds] using hn.2.2 j e⟩
theorem vB_not {ep : Int} {l : List Mb} (h : ¬ MbP l) : vB ep l = false := vB_false fun hv => h hv.2.2
theorem vB_yes {ep : Int} {l : List Mb} (h : MbP l) : vB ep l = (decide (0 < l.length) && (decide (1 ≤ ep) && decide (ep ≤ 1099511627775))) := by
  rw [vB_split, mbB_true h]
  have := nodes_len h.2
  simp only [List.length_map] at this
  unfold cntB
  by_cases h0 : 0 < l.length
  · rw [decide_eq_true (show (1 : Int) ≤ l.length by omega), decide_eq_true (show (l.length : Int) ≤ 15 by omega), decide_eq_true h0]
    simp
  · rw [decide_eq_false (show ¬ (1 : Int) ≤ l.length by omega), decide_eq_false h0]
    simp
set_option maxRecDepth 100000 in
set_option maxHeartbeats 4000000 in
theorem refCheck_any (ep : Int) (v : Value) (l : List Mb) (w : World) (hr : IsRow w 3 v l.length (mCells l)) (hl : l.length ≤ 1000000) :
    Calls Tryd.prog 22 #[vwV ep v] w fun e w' => e = .returned (.bool (vB ep l)) ∧ Below w.heap.size w w' := by
  obtain ⟨a0, cap0, rfl⟩ := hr.form
  have HR : Hid (∀ w', Below w.heap.size w w' → IsRow w' 3 (.slice a0 l.length cap0) l.length (mCells l)) := fun w' h => hr.below h
  have HB0 : Hid (Below w.heap.size w (w.alloc (.cells #[.int .i64 ep, .slice a0 l.length cap0] 32))) := al_belowV w _
  have HH0 : Hid ((w.alloc (.cells #[.int .i64 ep, .slice a0 l.length cap0] 32)).heap[w.heap.size]? = some (.cells #[.int .i64 ep, .slice a0 l.length cap0] 32 (0, 0))) := alloc_top w _
  clear hr
  go_enter Tryd.func22, Tryd.ntmps22
  go_wp2_with fail
  go_loopw [2, 3] (fun r i wr => r = .bool false ∧ ∃ k : Nat, k ≤ l.length ∧ i = .int .i64 (k : Int) ∧ Hid (∀ (j : Nat) (h : j < l.length), j < k → okMb l j h) ∧ Hid (wr.heap[w.heap.size]? = some (.cells #[.int .i64 ep, .slice a0 l.length cap0] 32 (0, 0))) ∧ Hid (Below w.heap.size w wr)) (fun _ i _ => l.length - (intOf i).toNat)
  case atStart => exact ⟨rfl, 0, Nat.zero_le _, rfl, fun j h hj => absurd hj (Nat.not_lt_zero _), HH0, HB0⟩
  case round =>
    clear HH0 HB0
    obtain ⟨rfl, k, hk, rfl, HO, HH, HB⟩ := hrel
    have hsz := HB.out.size
    obtain ⟨p0, p1, -, -⟩ := two_V HH.out
    have hw2 : w.heap.size < wr.heap.size := (heap_at HH.out).2.2
    by_cases hlk : k < l.length
    · have dk : decide ((k : Int) < l.length) = true := by simp; omega
      have HRw : Hid (IsRow wr 3 (.slice a0 l.length cap0) l.length (mCells l)) := HR.out _ HB.out
      obtain ⟨b, off, cap, hvv, hlt, hc1, hc2, c0, c1, c2⟩ := mb_at HRw.out hlk
      obtain ⟨rfl, -, rfl⟩ := Value.slice.inj hvv
      have i1 : (0 : Int) ≤ (k : Int) := by omega
      have i2 : (k : Int) < (l.length : Int) := by omega
      have HBa : Hid (∀ q, Below w.heap.size w ((wr.alloc (.cells #[.int .i64 l[k].nd, .int .i64 l[k].lf, .bool l[k].up] 59)).drewN q)) := fun q => drewN_V (HB.out.trans ((al_belowV wr _).mono hsz)) q
      have HHa : Hid (∀ q, ((wr.alloc (.cells #[.int .i64 l[k].nd, .int .i64 l[k].lf, .bool l[k].up] 59)).drewN q).heap[w.heap.size]? = some (.cells #[.int .i64 ep, .slice (some ⟨b, off, none⟩) l.length cap0] 32 (0, 0))) := fun q => (alloc_old _ _ hw2).trans HH.out
      have HBad : Hid (¬ okMb l k hlk → vB ep l = false) := fun h => vB_not fun hp => h (okMb_of hp k hlk)
      have HOk : Hid (okMb l k hlk → ∀ (j : Nat) (h : j < l.length), j < k + 1 → okMb l j h) := fun hok j h hj => by
        by_cases e : j = k
        · subst e; exact hok
        · exact HO.out j h (by omega)
      clear HO HH HB HR hvv
      cases k with
      | zero =>
        simp only [Nat.zero_mul, Nat.add_zero] at c0 c1 c2
        have HX : Hid (okMb l 0 hlk ↔ (cntB l[0].lf = true ∧ 1 ≤ l[0].nd ∧ l[0].nd ≤ 15)) := ⟨fun h => ⟨h.1, h.2.1, h.2.2.1⟩, fun h => ⟨h.1, h.2.1, h.2.2, fun j e => absurd e (by omega)⟩⟩
        generalize l[0]'hlk = m at *
        obtain ⟨mn, ml, mu⟩ := m
        dsimp only at *
        clear HRw
        by_cases h1 : mn < 1
        · have HV : Hid (vB ep l = false) := HBad.out fun h => by have := HX.out.1 h; omega
          have d1 : decide (mn < 1) = true := decide_eq_true h1
          clear HBad HOk HX
          go_wp2_with fail
          go_quiet (fail)
          go_wp2
          go_ret
          exact ⟨by rw [HV.out]; rfl, HBa.out _⟩
        have d1 : decide (mn < 1) = false := decide_eq_false h1
        by_cases h2 : 15 < mn
        · have HV : Hid (vB ep l = false) := HBad.out fun h => by have := HX.out.1 h; omega
          have d2 : decide (15 < mn) = true := decide_eq_true h2
          clear HBad HOk HX
          go_wp2_with fail
          go_quiet (fail)
          go_wp2
          go_ret
          exact ⟨by rw [HV.out]; rfl, HBa.out _⟩
        have d2 : decide (15 < mn) = false := decide_eq_false h2
        by_cases h4 : ml < 1
        · have HV : Hid (vB ep l = false) := HBad.out fun h => by have := cntB_iff.1 (HX.out.1 h).1; omega
          have d4 : decide (ml < 1) = true := decide_eq_true h4
          clear HBad HOk HX
          go_wp2_with fail
          go_quiet (fail)
          go_wp2
          go_ret
          exact ⟨by rw [HV.out]; rfl, HBa.out _⟩
        have d4 : decide (ml < 1) = false := decide_eq_false h4
        by_cases h5 : 1099511627775 < ml
        · have HV : Hid (vB ep l = false) := HBad.out fun h => by have := cntB_iff.1 (HX.out.1 h).1; omega
          have d5 : decide (1099511627775 < ml) = true := decide_eq_true h5
          clear HBad HOk HX
          go_wp2_with fail
          go_quiet (fail)
          go_wp2
          go_ret
          exact ⟨by rw [HV.out]; rfl, HBa.out _⟩
        have d5 : decide (1099511627775 < ml) = false := decide_eq_false h5
        have HO2 : Hid _ := HOk.out (HX.out.2 ⟨cntB_iff.2 ⟨by omega, by omega⟩, by omega, by omega⟩)
        clear HBad HOk HX
        go_wp2_with fail
        go_quiet (fail)
        go_wp2
        go_roundw
        case rel => exact ⟨rfl, 0 + 1, by omega, by simp, HO2, HHa.out _, HBa.out _⟩
        case measure => simp [intOf]; omega
      | succ j =>
        obtain ⟨b', off', cap', hvv', -, -, -, e0, -, -⟩ := mb_at HRw.out (i := j) (by omega)
        obtain ⟨hbo, -, -⟩ := Value.slice.inj hvv'
        simp only [Option.some.injEq, Addr.mk.injEq, and_true] at hbo
        obtain ⟨rfl, rfl⟩ := hbo
        have HX : Hid (okMb l (j + 1) hlk ↔ (cntB l[j + 1].lf = true ∧ 1 ≤ l[j + 1].nd ∧ l[j + 1].nd ≤ 15 ∧ (l[j]'(by omega)).nd < l[j + 1].nd)) := ⟨fun h => ⟨h.1, h.2.1, h.2.2.1, h.2.2.2 j rfl⟩, fun h => ⟨h.1, h.2.1, h.2.2.1, fun j' e => by
          have : j' = j := by omega
          subst this
          exact h.2.2.2⟩⟩
        have wj : IntKind.i64.wrap ((↑(j + 1) : Int) - 1) = (j : Int) := by rw [wrapI (by omega) (by omega)]; omega
        have wj' : IntKind.i64.wrap ((j : Int) + 1 - 1) = (j : Int) := by rw [wrapI (by omega) (by omega)]; omega
        have i3 : (0 : Int) ≤ (j : Int) := by omega
        have i4 : (j : Int) < (l.length : Int) := by omega
        have i5 : decide (0 < (↑(j + 1) : Int)) = true := decide_eq_true (by omega)
        generalize l[j + 1]'hlk = m at *
        generalize (l[j]'(by omega)).nd = pn at *
        obtain ⟨mn, ml, mu⟩ := m
        dsimp only at *
        clear HRw hvv'
        by_cases h1 : mn < 1
        · have HV : Hid (vB ep l = false) := HBad.out fun h => by have := HX.out.1 h; omega
          have d1 : decide (mn < 1) = true := decide_eq_true h1
          clear HBad HOk HX
          go_wp2_with fail
          go_quiet (fail)
          go_wp2
          go_ret
          exact ⟨by rw [HV.out]; rfl, HBa.out _⟩
        have d1 : decide (mn < 1) = false := decide_eq_false h1
        by_cases h2 : 15 < mn
        · have HV : Hid (vB ep l = false) := HBad.out fun h => by have := HX.out.1 h; omega
          have d2 : decide (15 < mn) = true := decide_eq_true h2
          clear HBad HOk HX
          go_wp2_with fail
          go_quiet (fail)
          go_wp2
          go_ret
          exact ⟨by rw [HV.out]; rfl, HBa.out _⟩
        have d2 : decide (15 < mn) = false := decide_eq_false h2
        by_cases h3 : mn ≤ pn
        · have HV : Hid (vB ep l = false) := HBad.out fun h => by have := HX.out.1 h; omega
          have d3 : decide (mn ≤ pn) = true := decide_eq_true h3
          clear HBad HOk HX
          go_wp2_with fail
          go_quiet (fail)
          go_wp2
          go_ret
          exact ⟨by rw [HV.out]; rfl, HBa.out _⟩
        have d3 : decide (mn ≤ pn) = false := decide_eq_false h3
        by_cases h4 : ml < 1
        · have HV : Hid (vB ep l = false) := HBad.out fun h => by have := cntB_iff.1 (HX.out.1 h).1; omega
          have d4 : decide (ml < 1) = true := decide_eq_true h4
          clear HBad HOk HX
          go_wp2_with fail
          go_quiet (fail)
          go_wp2
          go_ret
          exact ⟨by rw [HV.out]; rfl, HBa.out _⟩
        have d4 : decide (ml < 1) = false := decide_eq_false h4
        by_cases h5 : 1099511627775 < ml
        · have HV : Hid (vB ep l = false) := HBad.out fun h => by have := cntB_iff.1 (HX.out.1 h).1; omega
          have d5 : decide (1099511627775 < ml) = true := decide_eq_true h5
          clear HBad HOk HX
          go_wp2_with fail
          go_quiet (fail)
          go_wp2
          go_ret
          exact ⟨by rw [HV.out]; rfl, HBa.out _⟩
        have d5 : decide (1099511627775 < ml) = false := decide_eq_false h5
        have HO2 : Hid _ := HOk.out (HX.out.2 ⟨cntB_iff.2 ⟨by omega, by omega⟩, by omega, by omega, by omega⟩)
        clear HBad HOk HX
        go_wp2_with fail
        go_quiet (fail)
        go_wp2
        go_roundw
        case rel => exact ⟨rfl, j + 1 + 1, by omega, by simp, HO2, HHa.out _, HBa.out _⟩
        case measure => simp [intOf]; omega
    · have hk' : k = l.length := by omega
      subst hk'
      have dk : decide ((l.length : Int) < l.length) = false := by simp
      have HV : Hid (vB ep l = (decide (0 < l.length) && (decide (1 ≤ ep) && decide (ep ≤ 1099511627775)))) := vB_yes (okMb_all fun j h => HO.out j h h)
      clear HO HR HH
      by_cases h0 : 0 < l.length
      · have d0 : decide (0 < l.length) = true := decide_eq_true h0
        by_cases h1 : 1 ≤ ep
        · have d1 : decide (1 ≤ ep) = true := decide_eq_true h1
          by_cases h2 : ep ≤ 1099511627775
          · have d2 : decide (ep ≤ 1099511627775) = true := decide_eq_true h2
            have HV2 : Hid (vB ep l = true) := by show _ = _; rw [HV.out, d0, d1, d2]; rfl
            clear HV
            go_wp2
            go_ret
            exact ⟨by rw [HV2.out]; rfl, HB.out⟩
          · have d2 : decide (ep ≤ 1099511627775) = false := decide_eq_false h2
            have HV2 : Hid (vB ep l = false) := by show _ = _; rw [HV.out, d0, d1, d2]; rfl
            clear HV
            go_wp2
            go_ret
            exact ⟨by rw [HV2.out]; rfl, HB.out⟩
        · have d1 : decide (1 ≤ ep) = false := decide_eq_false h1
          have HV2 : Hid (vB ep l = false) := by show _ = _; rw [HV.out, d0, d1]; rfl
          clear HV
          go_wp2
          go_ret
          exact ⟨by rw [HV2.out]; rfl, HB.out⟩
      · have d0 : decide (0 < l.length) = false := decide_eq_false h0
        have HV2 : Hid (vB ep l = false) := by show _ = _; rw [HV.out, d0]; rfl
        clear HV
        go_wp2
        go_ret
        exact ⟨by rw [HV2.out]; rfl, HB.out⟩
end Go.Proofs.YtciibeldmcakeaaDoor
