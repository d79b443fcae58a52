/- The reference's First, Life: walks. -/
import Derived.Test.YtpepdcbhimjddaaDoorVwL
import Derived.Test.YtpepdcbhimjddaaDoorJI0
namespace Go.Proofs.YtpepdcbhimjddaaDoor
open Go.RowKit

set_option maxRecDepth 100000 in
set_option maxHeartbeats 2000000 in
theorem refFirst_any (v : Value) (l : List Int) (w : World) (hr : IsRow w 1 v l.length (iCells l)) (hl : l.length ≤ 1000000) :
    Calls Tryd.prog 12 #[v] w fun e w' => VwPost (if fsB l = true then 1 else 0) (if fsB l = true then fsM l else []) (if fsB l = true then 0 else 1) w e w' := by
  obtain ⟨a0, cap0, rfl⟩ := hr.form
  obtain ⟨i0, hi0, hz0, hz1, hz2⟩ := info_parts info_rm
  have HN : Hid (∀ w', Below w.heap.size w w' → Calls Tryd.prog 34 #[.slice a0 l.length cap0] w' fun e w'' => e = .returned (.bool (nodesB l)) ∧ Below w'.heap.size w' w'') := fun w' h => refNodes_any _ l w' (hr.below h) hl
  have HB1 : Hid (Below w.heap.size w (w.alloc (.cells #[.int .i64 0, .slice none 0 0] 30))) := al_belowV w _
  cases hb : fsB l
  · have hcase : l = [] ∨ (l ≠ [] ∧ nodesB l = false) := by
      by_cases h0 : l = []
      · exact .inl h0
      · refine .inr ⟨h0, ?_⟩
        cases l with
        | nil => exact absurd rfl h0
        | cons x t => simpa [fsB] using hb
    simp only [Bool.false_eq_true, if_false]
    rcases hcase with rfl | ⟨hne, hnb⟩
    · clear hr HN hb
      go_enter Tryd.func12, Tryd.ntmps12
      go_wp2
      refine bodyPost_ret (v := .tuple #[vwV 0 (.slice none 0 0), .int .i64 1]) ?_ rfl (VwPost.none 1 HB1.out)
      rw [results_csV rfl]; go_simp
    · have hlp : 0 < l.length := List.length_pos_iff.2 hne
      have n1 : ((l.length : Int) == 0) = false := by rw [beq_eq_false_iff_ne]; omega
      have HX : Hid (Calls Tryd.prog 34 #[.slice a0 l.length cap0] (w.alloc (.cells #[.int .i64 0, .slice none 0 0] 30)) fun e w'' => e = .returned (.bool false) ∧ Below (w.alloc (.cells #[.int .i64 0, .slice none 0 0] 30)).heap.size (w.alloc (.cells #[.int .i64 0, .slice none 0 0] 30)) w'') := by
        have := HN.out _ HB1.out
        rw [hnb] at this
        exact this
      clear hr HN hb hne hnb
      go_enter Tryd.func12, Tryd.ntmps12
      go_wp2_with fail
      refine HX.out.mono ?_
      rintro e w1 ⟨rfl, hb1⟩
      obtain ⟨q0, q1, q2, q3⟩ := two_V ((hb1.block _ (by simp)).trans (alloc_top w _))
      have HB2 : Hid (Below w.heap.size w w1) := HB1.out.trans (hb1.mono HB1.out.size)
      clear hb1
      go_wp2
      refine bodyPost_ret (v := .tuple #[vwV 0 (.slice none 0 0), .int .i64 1]) ?_ rfl (VwPost.none 1 (set2_V HB2.out (by omega) _ _))
      rw [results_csV rfl]; go_simp
  · have hcase : l ≠ [] ∧ nodesB l = true := by
      cases l with
      | nil => simp [fsB] at hb
      | cons x t => exact ⟨by simp, by simpa [fsB] using hb⟩
    obtain ⟨hne, hnb⟩ := hcase
    simp only [if_true]
    have hlp : 0 < l.length := List.length_pos_iff.2 hne
    have n1 : ((l.length : Int) == 0) = false := by rw [beq_eq_false_iff_ne]; omega
    have HX : Hid (Calls Tryd.prog 34 #[.slice a0 l.length cap0] (w.alloc (.cells #[.int .i64 0, .slice none 0 0] 30)) fun e w'' => e = .returned (.bool true) ∧ Below (w.alloc (.cells #[.int .i64 0, .slice none 0 0] 30)).heap.size (w.alloc (.cells #[.int .i64 0, .slice none 0 0] 30)) w'') := by
      have := HN.out _ HB1.out
      rw [hnb] at this
      exact this
    have HR : Hid (IsRow w 1 (.slice a0 l.length cap0) l.length (iCells l)) := hr
    clear hr HN hb hne hnb
    go_enter Tryd.func12, Tryd.ntmps12
    go_wp2_with fail
    refine HX.out.mono ?_
    rintro e w1 ⟨rfl, hb1⟩
    have HB2 : Hid (Below w.heap.size w w1) := HB1.out.trans (hb1.mono HB1.out.size)
    have HHz : Hid (w1.heap[w.heap.size]? = some (.cells #[.int .i64 0, .slice none 0 0] 30 (0, 0))) := (hb1.block _ (by simp)).trans (alloc_top w _)
    have hg1 : w.heap.size < w1.heap.size := (heap_at HHz.out).2.2
    have hs1 := HB2.out.size
    clear HX hb1 HB1
    go_wp2_with fail
    have HAs : Hid ((w1.alloc (.cells #[.int .i64 1, .slice none 0 0] 30)).heap[w.heap.size]? = some (.cells #[.int .i64 0, .slice none 0 0] 30 (0, 0)) ∧ (w1.alloc (.cells #[.int .i64 1, .slice none 0 0] 30)).heap[w1.heap.size]? = some (.cells #[.int .i64 1, .slice none 0 0] 30 (0, 0)) ∧ Below w.heap.size w (w1.alloc (.cells #[.int .i64 1, .slice none 0 0] 30))) := ⟨(alloc_old _ _ hg1).trans HHz.out, alloc_top _ _, HB2.out.alloc hs1 _⟩
    generalize hH : w1.heap.size = H at *
    go_loopw [5] (fun i wr => ∃ (k : Nat) (va : Option Addr) (vc : Nat), k ≤ l.length ∧ i = .int .i64 (k : Int) ∧ Hid (wr.ownsRow (H + 1) 65 3 (.slice va k vc) k (mCells (fsM (l.take k)))) ∧ Hid (wr.heap[w.heap.size]? = some (.cells #[.int .i64 0, .slice none 0 0] 30 (0, 0))) ∧ Hid (wr.heap[H]? = some (.cells #[.int .i64 1, .slice va k vc] 30 (0, 0))) ∧ Hid (Below w.heap.size w wr)) (fun i _ => l.length - (intOf i).toNat)
    case atStart => exact ⟨0, none, 0, Nat.zero_le _, rfl, World.ownsRow_nil _ _ _ _, HAs.out.1, HAs.out.2.1, HAs.out.2.2⟩
    case round =>
      clear HAs HHz HB2
      obtain ⟨k, va, vc, hk, rfl, HO, HH0, HH1, HB⟩ := hrel
      have hsz := HB.out.size
      obtain ⟨q0, q1, qf0, qf1⟩ := two_V HH0.out
      obtain ⟨r0, r1, rf0, rf1⟩ := two_V HH1.out
      have hwH : H < wr.heap.size := (heap_at HH1.out).2.2
      by_cases hlk : k < l.length
      · have dk : decide ((k : Int) < l.length) = true := by simp; omega
        obtain ⟨b, off, hva, -, hlt, hcap, hc⟩ := iCells_at (HR.out.below HB.out) (by omega)
        subst hva
        have ck := hc k hlk
        have i1 : (0 : Int) ≤ (k : Int) := by omega
        have i2 : (k : Int) < (l.length : Int) := by omega
        have HT : Hid (mCells (fsM (l.take (k + 1))) = mCells (fsM (l.take k)) ++ [.int .i64 l[k], .int .i64 1, .bool true]) := by
          show _ = _
          rw [List.take_succ_eq_append_getElem hlk, show fsM (l.take k ++ [l[k]]) = fsM (l.take k) ++ [⟨l[k], 1, true⟩] from List.map_append, mCells_snoc]
          rfl
        generalize l[k]'hlk = x at *
        have hb1 : (k + 1) * 24 ≤ 140737488355328 := by omega
        have hb2 : k + 1 ≤ maxLen := by unfold maxLen; omega
        have hb3 : H + 1 ≤ wr.heap.size := by omega
        have h1c : ∀ u ∈ [Value.int .i64 x, .int .i64 1, .bool true], u.oneCell' = true := by simp [Value.oneCell']
        have HNx : Hid (∀ w3 va3 vc3, w3.ownsRow (H + 1) 65 3 (.slice va3 (k + 1) vc3) (k + 1) (mCells (fsM (l.take k)) ++ [.int .i64 x, .int .i64 1, .bool true]) → Below (H + 1) wr w3 → Hid ((w3.setCell ⟨H, 1, none⟩ (.slice va3 (k + 1) vc3)).ownsRow (H + 1) 65 3 (.slice va3 (k + 1) vc3) (k + 1) (mCells (fsM (l.take (k + 1))))) ∧ Hid ((w3.setCell ⟨H, 1, none⟩ (.slice va3 (k + 1) vc3)).heap[w.heap.size]? = some (.cells #[.int .i64 0, .slice none 0 0] 30 (0, 0))) ∧ Hid ((w3.setCell ⟨H, 1, none⟩ (.slice va3 (k + 1) vc3)).heap[H]? = some (.cells #[.int .i64 1, .slice va3 (k + 1) vc3] 30 (0, 0))) ∧ Hid (Below w.heap.size w (w3.setCell ⟨H, 1, none⟩ (.slice va3 (k + 1) vc3)))) := fun w3 va3 vc3 hown hb => by
          have k0 := (hb.block _ (by omega)).trans HH0.out
          have k2 := (hb.block _ (by omega)).trans HH1.out
          have s1 := setCell_atV w3 1 k2 (.slice va3 (k + 1) vc3)
          refine ⟨?_, (s1.2 _ (by omega)).trans k0, s1.1, (HB.out.trans (hb.mono (by omega))).setCell (p := ⟨H, 1, none⟩) (by show w.heap.size ≤ H; omega) _⟩
          show World.ownsRow _ _ _ _ _ _ _
          rw [HT.out]
          refine hown.kept (row := some H) ⟨rfl, rfl, rfl, by simp, fun j _ hj => s1.2 j (fun e => hj (by rw [e]))⟩ (.inr ?_)
          intro e
          have := (hown.lt _ e).1
          omega
        have HQ : Hid (∀ w3, Below (H + 1) wr w3 → w3.cell? ⟨H, 1, none⟩ = some (.slice va k vc) ∧ w3.frozen? ⟨H, 1, none⟩ = false) := fun w3 hb => by
          have := two_V ((hb.block _ (by omega)).trans HH1.out)
          exact ⟨this.2.1, this.2.2.2⟩
        clear hc HR HT HH0 HH1
        go_wp2_with fail
        go_region_law (refine step_appd rfl (.tmp 23) (.tmp 29) 28 65 rfl i0 _ 3 24 Tryd.underlying28 hi0 hz0 hz1 hz2 rfl (by decide) (H + 1) (.slice va k vc) k (mCells (fsM (l.take k))) rfl HO.out [.int .i64 x, .int .i64 1, .bool true] rfl _ rfl rfl h1c hb1 hb2 hb3 ?_; intro v3 w3 hown3 hbw3 hst3 hform; obtain ⟨g3, c3, rfl⟩ := hform; obtain ⟨s0, sf⟩ := HQ.out _ hbw3)
        all_goals
          obtain ⟨n0, n1, n3, n4⟩ := HNx.out _ _ _ hown3 hbw3
          clear hown3 hbw3 hst3 HO HNx HQ
          go_wp2
          go_roundw
          case rel => exact ⟨k + 1, _, _, by omega, by simp, n0, n1, n3, n4⟩
          case measure => simp [intOf]; omega
      · have hk' : k = l.length := by omega
        subst hk'
        have dk : decide ((l.length : Int) < l.length) = false := by simp
        have hown := HO.out
        rw [List.take_of_length_le (Nat.le_refl _)] at hown
        have HNw : Hid (NewB w.heap.size (.slice va l.length vc)) := (NewB.own hown).mono (by omega)
        have HF : Hid (∀ x y, IsRow ((wr.setCell ⟨w.heap.size, 0, none⟩ x).setCell ⟨w.heap.size, 1, none⟩ y) 3 (.slice va l.length vc) (fsM l).length (mCells (fsM l)) ∧ Below w.heap.size w ((wr.setCell ⟨w.heap.size, 0, none⟩ x).setCell ⟨w.heap.size, 1, none⟩ y)) := fun x y => by
          have hlen : (fsM l).length = l.length := by simp [fsM]
          rw [hlen]
          exact ⟨((IsRow.own hown).far (NewB.own hown) (by omega) _).far (NewB.own hown) (by omega) _, set2_V HB.out (by omega) _ _⟩
        clear hown HO HR HH0 HH1
        go_wp2
        refine bodyPost_ret (v := .tuple #[vwV 1 (.slice va l.length vc), .int .i64 0]) ?_ rfl ⟨_, rfl, (HF.out _ _).1, HNw.out, (HF.out _ _).2⟩
        rw [results_csV rfl]; go_simp
theorem find_take {l : List Mb} {node : Int} {k : Nat} (h : ∀ m ∈ l.take k, m.nd ≠ node) (hk : k < l.length) (e : l[k].nd = node) : l.find? (fun m => m.nd == node) = some l[k] := by
  rw [List.find?_eq_some_iff_getElem]
  refine ⟨by simpa using e, k, hk, rfl, fun j hj => ?_⟩
  simp only [Bool.not_eq_true', beq_eq_false_iff_ne]
  exact h _ (List.mem_take_iff_getElem.2 ⟨j, by omega, rfl⟩)
set_option maxRecDepth 100000 in
set_option maxHeartbeats 2000000 in
theorem refLife_any (ep : Int) (v : Value) (l : List Mb) (node : Int) (w : World) (hr : IsRow w 3 v l.length (mCells l)) (hl : l.length ≤ 1000000) :
    Calls Tryd.prog 20 #[vwV ep v, .int .i64 node] w fun e w' => e = .returned (.int .i64 (lfL ep l node)) ∧ Below w.heap.size w w' := by
  obtain ⟨a0, cap0, rfl⟩ := hr.form
  have HR : Hid (∀ w', Below w.heap.size w w' → IsRow w' 3 (.slice a0 l.length cap0) l.length (mCells l)) := fun w' h => hr.below h
  have HC : Hid (∀ w', Below w.heap.size w w' → Calls Tryd.prog 15 #[.agg #[.int .i64 ep, .slice a0 l.length cap0]] w' fun e w'' => e = .returned (.bool (vB ep l)) ∧ Below w'.heap.size w' w'') := fun w' h => refCheck_any ep _ l w' (hr.below h) hl
  have HB0 : Hid (Below w.heap.size w (w.alloc (.cells #[.int .i64 ep, .slice a0 l.length cap0] 30))) := al_belowV w _
  have HH0 : Hid ((w.alloc (.cells #[.int .i64 ep, .slice a0 l.length cap0] 30)).heap[w.heap.size]? = some (.cells #[.int .i64 ep, .slice a0 l.length cap0] 30 (0, 0))) := alloc_top w _
  clear hr
  go_enter Tryd.func20, Tryd.ntmps20
  go_wp2_with fail
  go_loopw [4, 5] (fun r i wr => r = .int .i64 0 ∧ ∃ k : Nat, k ≤ l.length ∧ i = .int .i64 (k : Int) ∧ Hid (∀ m ∈ l.take k, m.nd ≠ node) ∧ Hid (wr.heap[w.heap.size]? = some (.cells #[.int .i64 ep, .slice a0 l.length cap0] 30 (0, 0))) ∧ Hid (Below w.heap.size w wr)) (fun _ i _ => l.length - (intOf i).toNat)
  case atStart => exact ⟨rfl, 0, Nat.zero_le _, rfl, fun m hm => by simp at hm, HH0, HB0⟩
  case round =>
    clear HH0 HB0
    obtain ⟨rfl, k, hk, rfl, HA, HH, HB⟩ := hrel
    have hsz := HB.out.size
    obtain ⟨p0, p1, -, -⟩ := two_V HH.out
    have hw2 : w.heap.size < wr.heap.size := (heap_at HH.out).2.2
    by_cases hlk : k < l.length
    · have dk : decide ((k : Int) < l.length) = true := by simp; omega
      have HX : Hid (Calls Tryd.prog 15 #[.agg #[.int .i64 ep, .slice a0 l.length cap0]] wr fun e w'' => e = .returned (.bool (vB ep l)) ∧ Below wr.heap.size wr w'') := HC.out wr HB.out
      obtain ⟨b, off, cap, hvv, -, hc1, hc2, -⟩ := mb_at (HR.out _ HB.out) hlk
      obtain ⟨rfl, -, rfl⟩ := Value.slice.inj hvv
      clear hvv
      go_wp2_with fail
      refine HX.out.mono ?_
      rintro e w1 ⟨rfl, hb1⟩
      have HB1 : Hid (Below w.heap.size w w1) := HB.out.trans (hb1.mono hsz)
      have HH1 : Hid (w1.heap[w.heap.size]? = some (.cells #[.int .i64 ep, .slice (some ⟨b, off, none⟩) l.length cap0] 30 (0, 0))) := (hb1.block _ hw2).trans HH.out
      clear p0 p1 hb1 HX HH HB
      obtain ⟨p0, p1, -, -⟩ := two_V HH1.out
      obtain ⟨b', off', cap', hvv', hlt, -, -, c0, c1, c2⟩ := mb_at (HR.out _ HB1.out) hlk
      obtain ⟨hbo, -, -⟩ := Value.slice.inj hvv'
      simp only [Option.some.injEq, Addr.mk.injEq, and_true] at hbo
      obtain ⟨rfl, rfl⟩ := hbo
      have i1 : (0 : Int) ≤ (k : Int) := by omega
      have i2 : (k : Int) < (l.length : Int) := by omega
      clear hvv'
      cases hvb : vB ep l
      · have HE : Hid (lfL ep l node = 0) := by show _ = _; unfold lfL; rw [if_neg (by rw [hvb]; decide)]
        clear HA hvb HC HR
        go_wp2
        go_ret
        exact ⟨by rw [HE.out]; rfl, HB1.out⟩
      · have HE : Hid (l[k].nd = node → lfL ep l node = l[k].lf) := fun e => by unfold lfL; rw [if_pos hvb, find_take HA.out hlk e]
        have HA2 : Hid (¬ l[k].nd = node → ∀ m ∈ l.take (k + 1), m.nd ≠ node) := fun h m hm => by
          rw [List.take_succ_eq_append_getElem hlk] at hm
          rcases List.mem_append.1 hm with h2 | h2
          · exact HA.out m h2
          · simp at h2; subst h2; exact h
        clear HA hvb
        generalize l[k]'hlk = m at *
        obtain ⟨mn, ml, mu⟩ := m
        dsimp only at *
        by_cases hn : mn = node
        · have HE2 : Hid (lfL ep l node = ml) := HE.out hn
          have nb : (mn == node) = true := by simpa using hn
          clear HE HA2 hn HC HR
          go_wp2
          go_ret
          exact ⟨by rw [HE2.out]; rfl, HB1.out⟩
        · have HA3 : Hid (∀ m ∈ l.take (k + 1), m.nd ≠ node) := HA2.out hn
          have nb : (mn == node) = false := by simpa using hn
          clear HE HA2 hn HC HR
          go_wp2
          go_roundw
          case rel => exact ⟨rfl, k + 1, by omega, by simp, HA3, HH1, HB1⟩
          case measure => simp [intOf]; omega
    · have hk' : k = l.length := by omega
      subst hk'
      have dk : decide ((l.length : Int) < l.length) = false := by simp
      have HE : Hid (lfL ep l node = 0) := by
        show _ = _
        have h := HA.out
        rw [List.take_of_length_le (Nat.le_refl _)] at h
        unfold lfL
        rw [List.find?_eq_none.2 (fun x hx => by simpa using h x hx)]
        split <;> rfl
      clear HC HR HA
      go_wp2
      go_ret
      exact ⟨by rw [HE.out]; rfl, HB.out⟩
end Go.Proofs.YtpepdcbhimjddaaDoor
