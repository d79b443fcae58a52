/- The reference's Same, Live, Life of views: walks. -/
import Derived.Test.YtpepdcbhimjddaaDoorVwK
namespace Go.Proofs.YtpepdcbhimjddaaDoor
open Go.RowKit

theorem neq_mb (a b : Int) (c : Bool) (w : World) : (binOp BinOp.neq 65 (.agg #[.int .i64 a, .int .i64 b, .bool c]) (.agg #[.int .i64 a, .int .i64 b, .bool c])).run Tryd.prog w = .ok (.bool false) w := by
  go_simp
abbrev smW (w : World) (ep : Int) (v1 v2 : Value) : World := (w.alloc (.cells #[.int .i64 ep, v1] 30)).alloc (.cells #[.int .i64 ep, v2] 30)
theorem smW_facts (w : World) (ep : Int) (v1 v2 : Value) : Below w.heap.size w (smW w ep v1 v2) ∧ (smW w ep v1 v2).heap[w.heap.size]? = some (.cells #[.int .i64 ep, v1] 30 (0, 0)) ∧ (smW w ep v1 v2).heap[w.heap.size + 1]? = some (.cells #[.int .i64 ep, v2] 30 (0, 0)) := by
  refine ⟨(al_belowV w _).trans ((al_belowV _ _).mono (al_belowV w _).size), ?_, ?_⟩
  · show ((w.heap.push _).push _)[w.heap.size]? = _
    rw [Array.getElem?_push, if_neg (by first | (simp; done) | (simp; omega)), Array.getElem?_push, if_pos rfl]
  · show ((w.heap.push _).push _)[w.heap.size + 1]? = _
    rw [Array.getElem?_push, if_pos (by simp)]
set_option maxRecDepth 100000 in
set_option maxHeartbeats 2000000 in
theorem refSame_eq (ep : Int) (v1 v2 : Value) (l : List Mb) (w : World) (h1 : IsRow w 3 v1 l.length (mCells l)) (h2 : IsRow w 3 v2 l.length (mCells l)) (hl : l.length ≤ 1000000) :
    Calls Tryd.prog 16 #[vwV ep v1, vwV ep v2] w fun e w' => e = .returned (.bool true) ∧ Below w.heap.size w w' := by
  obtain ⟨a1, cap1, rfl⟩ := h1.form
  obtain ⟨a2, cap2, rfl⟩ := h2.form
  obtain ⟨f1, f2, f3⟩ := smW_facts w ep (.slice a1 l.length cap1) (.slice a2 l.length cap2)
  have HR1 : Hid (∀ w', Below w.heap.size w w' → IsRow w' 3 (.slice a1 l.length cap1) l.length (mCells l)) := fun w' h => h1.below h
  have HR2 : Hid (∀ w', Below w.heap.size w w' → IsRow w' 3 (.slice a2 l.length cap2) l.length (mCells l)) := fun w' h => h2.below h
  have HB0 : Hid (Below w.heap.size w (smW w ep (.slice a1 l.length cap1) (.slice a2 l.length cap2))) := f1
  have HH0 : Hid _ := f2
  have HH1 : Hid _ := f3
  clear h1 h2 f1 f2 f3
  go_enter Tryd.func16, Tryd.ntmps16
  go_wp2_with fail
  go_loopw [5] (fun i wr => ∃ k : Nat, k ≤ l.length ∧ i = .int .i64 (k : Int) ∧ Hid (wr.heap[w.heap.size]? = some (.cells #[.int .i64 ep, .slice a1 l.length cap1] 30 (0, 0))) ∧ Hid (wr.heap[w.heap.size + 1]? = some (.cells #[.int .i64 ep, .slice a2 l.length cap2] 30 (0, 0))) ∧ Hid (Below w.heap.size w wr)) (fun i _ => l.length - (intOf i).toNat)
  case atStart => exact ⟨0, Nat.zero_le _, rfl, HH0, HH1, HB0⟩
  case round =>
    clear HH0 HH1 HB0
    obtain ⟨k, hk, rfl, HH0, HH1, HB⟩ := hrel
    obtain ⟨p0, p1, -, -⟩ := two_V HH0.out
    obtain ⟨q0, q1, -, -⟩ := two_V HH1.out
    by_cases hlk : k < l.length
    · have dk : decide ((k : Int) < l.length) = true := by simp; omega
      obtain ⟨b, off, cap, hvv, hlt, hc1, hc2, c0, c1, c2⟩ := mb_at (HR1.out _ HB.out) hlk
      obtain ⟨rfl, -, rfl⟩ := Value.slice.inj hvv
      obtain ⟨b', off', cap', hvv', hlt', hc1', hc2', e0, e1, e2⟩ := mb_at (HR2.out _ HB.out) hlk
      obtain ⟨rfl, -, rfl⟩ := Value.slice.inj hvv'
      have i1 : (0 : Int) ≤ (k : Int) := by omega
      have i2 : (k : Int) < (l.length : Int) := by omega
      generalize l[k]'hlk = m at *
      obtain ⟨mn, ml, mu⟩ := m
      dsimp only at *
      have hnq := neq_mb mn ml mu
      clear hvv hvv' HR1 HR2
      go_wp2_with fail
      go_quiet (fail)
      go_wp2
      go_roundw
      case rel => exact ⟨k + 1, by omega, by simp, HH0, HH1, drewN_V HB.out _⟩
      case measure => simp [intOf]; omega
    · have hk' : k = l.length := by omega
      subst hk'
      have dk : decide ((l.length : Int) < l.length) = false := by simp
      clear HR1 HR2
      go_wp2
      go_ret
      exact ⟨rfl, HB.out⟩
theorem own_setV {w : World} {base : Nat} {e : TypeId} {sz : Nat} {v : Value} {n : Nat} {xs : List Value} (h : w.ownsRow base e sz v n xs) {w' : World} (hb : Below w.heap.size w w') : w'.ownsRow base e sz v n xs := own_belowV h hb
theorem upN_take (l : List Mb) (k : Nat) (hk : k < l.length) : upN (l.take (k + 1)) = upN (l.take k) ++ (if l[k].up = true then [l[k].nd] else []) := by
  unfold upN
  rw [filt_take l k hk, List.map_append]
  congr 1
  split <;> rfl
theorem upN_len (l : List Mb) : (upN l).length ≤ l.length := by
  unfold upN
  rw [List.length_map]
  exact List.length_filter_le _ _
set_option maxRecDepth 100000 in
set_option maxHeartbeats 2000000 in
theorem refLive_any (ep : Int) (v : Value) (l : List Mb) (w : World) (hr : IsRow w 3 v l.length (mCells l)) (hl : l.length ≤ 1000000) :
    Calls Tryd.prog 13 #[vwV ep v] w fun e w' => LvPost (lvL ep l) w e w' := by
  obtain ⟨a0, cap0, rfl⟩ := hr.form
  obtain ⟨i0, hi0, hz0, hz1, hz2⟩ := info_parts info_inV
  have HR : Hid (∀ w', Below w.heap.size w w' → IsRow w' 3 (.slice a0 l.length cap0) l.length (mCells l)) := fun w' h => hr.below h
  have HC : Hid (∀ w', Below w.heap.size w w' → Calls Tryd.prog 15 #[.agg #[.int .i64 ep, .slice a0 l.length cap0]] w' fun e w'' => e = .returned (.bool (vB ep l)) ∧ Below w'.heap.size w' w'') := fun w' h => refCheck_any ep _ l w' (hr.below h) hl
  have HB0 : Hid (Below w.heap.size w (w.alloc (.cells #[.int .i64 ep, .slice a0 l.length cap0] 30))) := al_belowV w _
  have HH0 : Hid ((w.alloc (.cells #[.int .i64 ep, .slice a0 l.length cap0] 30)).heap[w.heap.size]? = some (.cells #[.int .i64 ep, .slice a0 l.length cap0] 30 (0, 0))) := alloc_top w _
  clear hr
  go_enter Tryd.func13, Tryd.ntmps13
  go_wp2_with fail
  go_loopw [3, 4] (fun o i wr => ∃ k : Nat, k ≤ l.length ∧ i = .int .i64 (k : Int) ∧ Hid (k = 0 ∨ vB ep l = true) ∧ Hid (wr.ownsRow (w.heap.size + 1) 3 1 o (upN (l.take k)).length (iCells (upN (l.take k)))) ∧ Hid (wr.heap[w.heap.size]? = some (.cells #[.int .i64 ep, .slice a0 l.length cap0] 30 (0, 0))) ∧ Hid (Below w.heap.size w wr)) (fun _ i _ => l.length - (intOf i).toNat)
  case atStart => exact ⟨0, Nat.zero_le _, rfl, .inl rfl, World.ownsRow_nil _ _ _ _, HH0, HB0⟩
  case round =>
    clear HH0 HB0
    obtain ⟨k, hk, rfl, HK, HO, HH, HB⟩ := hrel
    have hsz := HB.out.size
    obtain ⟨p0, p1, -, -⟩ := two_V HH.out
    have hw2 : w.heap.size < wr.heap.size := (heap_at HH.out).2.2
    have hul := upN_len (l.take k)
    have htk : (l.take k).length ≤ k := by simp; omega
    by_cases hlk : k < l.length
    · have dk : decide ((k : Int) < l.length) = true := by simp; omega
      have HX : Hid (Calls Tryd.prog 15 #[.agg #[.int .i64 ep, .slice a0 l.length cap0]] wr fun e w'' => e = .returned (.bool (vB ep l)) ∧ Below wr.heap.size wr w'') := HC.out wr HB.out
      obtain ⟨b, off, cap, hvv, -, hc1, hc2, -⟩ := mb_at (HR.out _ HB.out) hlk
      obtain ⟨rfl, -, rfl⟩ := Value.slice.inj hvv
      clear hvv
      go_wp2_with fail
      refine HX.out.mono ?_
      rintro e w1 ⟨rfl, hb1⟩
      have HB1 : Hid (Below w.heap.size w w1) := HB.out.trans (hb1.mono hsz)
      have HH1 : Hid (w1.heap[w.heap.size]? = some (.cells #[.int .i64 ep, .slice (some ⟨b, off, none⟩) l.length cap0] 30 (0, 0))) := (hb1.block _ hw2).trans HH.out
      have HO1 : Hid (w1.ownsRow (w.heap.size + 1) 3 1 u3 (upN (l.take k)).length (iCells (upN (l.take k)))) := own_belowV HO.out hb1
      have hs1 := HB1.out.size
      have hw3 : w.heap.size < w1.heap.size := (heap_at HH1.out).2.2
      clear p0 p1 hb1 HX HO HH HB
      obtain ⟨p0, p1, -, -⟩ := two_V HH1.out
      obtain ⟨b', off', cap', hvv', hlt, -, -, c0, c1, c2⟩ := mb_at (HR.out _ HB1.out) hlk
      obtain ⟨hbo, -, -⟩ := Value.slice.inj hvv'
      simp only [Option.some.injEq, Addr.mk.injEq, and_true] at hbo
      obtain ⟨rfl, rfl⟩ := hbo
      have i1 : (0 : Int) ≤ (k : Int) := by omega
      have i2 : (k : Int) < (l.length : Int) := by omega
      have HT : Hid _ := upN_take l k hlk
      clear hvv'
      cases hvb : vB ep l
      · have HE : Hid (lvL ep l = []) := by show _ = _; unfold lvL; rw [if_neg (by rw [hvb]; decide)]
        have hk0 : k = 0 := by
          rcases HK.out with h | h
          · exact h
          · rw [hvb] at h; cases h
        have HO2 : Hid (IsRow w1 1 u3 0 []) := by have := IsRow.own HO1.out; rw [hk0] at this; exact this
        have HN2 : Hid (NewB w.heap.size u3) := (NewB.own HO1.out).mono (by omega)
        clear HT HO1 HK hvb hk0
        go_wp2
        go_ret
        exact ⟨u3, rfl, by rw [HE.out]; exact HO2.out, HN2.out, HB1.out⟩
      · have HK2 : Hid (k + 1 = 0 ∨ vB ep l = true) := .inr hvb
        clear HK hvb
        generalize l[k]'hlk = m at *
        obtain ⟨mn, ml, mu⟩ := m
        dsimp only at *
        cases mu
        · have HO2 : Hid (w1.ownsRow (w.heap.size + 1) 3 1 u3 (upN (l.take (k + 1))).length (iCells (upN (l.take (k + 1))))) := by show World.ownsRow _ _ _ _ _ _ _; rw [HT.out]; simpa using HO1.out
          clear HT HO1
          go_wp2
          go_roundw
          case rel => exact ⟨k + 1, by omega, by simp, HK2, HO2, HH1, HB1⟩
          case measure => simp [intOf]; omega
        · have HT2 : Hid (upN (l.take (k + 1)) = upN (l.take k) ++ [mn]) := by show _ = _; rw [HT.out]; simp
          have hsa : w.heap.size + 1 ≤ w1.heap.size := by omega
          clear HT
          go_wp2_with (at_builtin; go_loud (refine wpl_appV w1 rfl (.tmp 22) (.tmp 29) 25 3 rfl i0 _ 1 8 Tryd.underlying25 hi0 hz0 hz1 hz2 rfl (by decide) (w.heap.size + 1) u3 (upN (l.take k)).length (iCells (upN (l.take k))) rfl HO1.out [.int .i64 mn] rfl _ rfl w1.heap.size rfl rfl (by simp [Value.oneCell']) (by omega) (by unfold maxLen; omega) hsa ?_; intro v4 w4 hown4 hb4 hne4))
          have HO4 : Hid (w4.ownsRow (w.heap.size + 1) 3 1 v4 (upN (l.take (k + 1))).length (iCells (upN (l.take (k + 1))))) := by
            show World.ownsRow _ _ _ _ _ _ _
            rw [HT2.out, List.length_append, show iCells (upN (l.take k) ++ [mn]) = iCells (upN (l.take k)) ++ [.int .i64 mn] from List.map_append]
            exact hown4
          have HB4 : Hid (Below w.heap.size w w4) := HB1.out.trans (hb4.mono (by omega))
          have HH4 : Hid (w4.heap[w.heap.size]? = some (.cells #[.int .i64 ep, .slice (some ⟨b, off, none⟩) l.length cap0] 30 (0, 0))) := (hb4.block _ (by omega)).trans HH1.out
          clear hown4 hb4 hne4 HO1 HH1 HT2
          go_wp2
          go_roundw
          case rel => exact ⟨k + 1, by omega, by simp, HK2, HO4, HH4, HB4⟩
          case measure => simp [intOf]; omega
    · have hk' : k = l.length := by omega
      subst hk'
      have dk : decide ((l.length : Int) < l.length) = false := by simp
      have HE : Hid (upN (l.take l.length) = lvL ep l) := by
        show _ = _
        unfold lvL
        rw [List.take_of_length_le (Nat.le_refl _)]
        rcases HK.out with h | h
        · obtain rfl := List.eq_nil_of_length_eq_zero h
          split <;> rfl
        · rw [if_pos h]
      have HO2 : Hid (IsRow wr 1 u3 (lvL ep l).length (iCells (lvL ep l))) := by have := IsRow.own HO.out; rw [HE.out] at this; exact this
      have HN2 : Hid (NewB w.heap.size u3) := (NewB.own HO.out).mono (by omega)
      clear HC HR HO HK
      go_wp2
      go_ret
      exact ⟨u3, rfl, HO2.out, HN2.out, HB.out⟩
end Go.Proofs.YtpepdcbhimjddaaDoor
