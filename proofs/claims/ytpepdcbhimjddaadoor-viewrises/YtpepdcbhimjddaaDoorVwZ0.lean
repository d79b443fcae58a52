/- ring.Nodes, view.First of however many numbers: walks. -/
import Derived.Test.YtpepdcbhimjddaaDoorVwC
namespace Go.Proofs.YtpepdcbhimjddaaDoor
open Go.RowKit

set_option maxRecDepth 100000 in
set_option maxHeartbeats 1000000 in
theorem nodes_big (v : Value) (l : List Int) (w : World) (hr : IsRow w 1 v l.length (iCells l)) (hl : l.length ≤ 140737488355328) :
    Calls Tryd.prog 33 #[v] w fun e w' => e = .returned (.bool (nodesB l)) ∧ w' = w := by
  obtain ⟨a0, cap0, rfl⟩ := hr.form
  have HR : Hid (IsRow w 1 (.slice a0 l.length cap0) l.length (iCells l)) := hr
  clear hr
  go_enter Tryd.func33, Tryd.ntmps33
  go_wp2_with fail
  go_loopw [2, 7] (fun r i wr => r = .bool false ∧ ∃ k : Nat, k ≤ l.length ∧ i = .int .i64 (k : Int) ∧ Hid (∀ (j : Nat) (h : j < l.length), j < k → okAt l j h) ∧ w = wr) (fun _ i _ => l.length - (intOf i).toNat)
  case atStart => exact ⟨rfl, 0, Nat.zero_le _, rfl, fun j h hj => absurd hj (Nat.not_lt_zero _), rfl⟩
  case round =>
    obtain ⟨rfl, k, hk, rfl, HO, rfl⟩ := hrel
    by_cases hlk : k < l.length
    · have dk : decide ((k : Int) < l.length) = true := by simp; omega
      obtain ⟨b, off, rfl, -, hlt, hcap, hc⟩ := iCells_at HR.out (by omega)
      have ck := hc k hlk
      by_cases hok : okAt l k hlk
      · have HO2 : Hid (∀ (j : Nat) (h : j < l.length), j < k + 1 → okAt l j h) := fun j h hj => by
          by_cases e : j = k
          · subst e; exact hok
          · exact HO.out j h (by omega)
        have hi : isN l[k] = true := isN_of hok.1 hok.2.1
        have HI : Hid (∀ w, Calls Tryd.prog 49 #[.int .i64 l[k]] w fun e w' => e = .returned (.bool true) ∧ w' = w) := fun w => by have := isNode_any l[k] w; rw [hi] at this; exact this
        cases k with
        | zero =>
          simp only [Nat.add_zero] at ck
          generalize l[0]'hlk = x at *
          clear hok hi hc HO
          go_wp2_with fail
          refine (HI.out _).mono ?_
          rintro e w' ⟨rfl, hw⟩
          subst hw
          go_wp2
          go_roundw
          case rel => exact ⟨rfl, 0 + 1, by omega, by simp, HO2, trivial⟩
          case measure => simp [intOf]; omega
        | succ j =>
          have cj := hc j (by omega)
          have hlt2 := hok.2.2 j rfl
          generalize l[j + 1]'hlk = x at *
          generalize l[j]'(by omega) = y at *
          have d2 : decide (x ≤ y) = false := by simp; omega
          clear hok hi hc HO
          go_wp2_with fail
          refine (HI.out _).mono ?_
          rintro e w' ⟨rfl, hw⟩
          subst hw
          go_wp2
          go_roundw
          case rel => exact ⟨rfl, j + 1 + 1, by omega, by simp, HO2, trivial⟩
          case measure => simp [intOf]; omega
      · have hno : nodesB l = false := nodesB_false fun h => hok (h k hlk)
        have HN : Hid (nodesB l = false) := hno
        clear hno
        cases hi : isN l[k]
        · have HI : Hid (∀ w, Calls Tryd.prog 49 #[.int .i64 l[k]] w fun e w' => e = .returned (.bool false) ∧ w' = w) := fun w => by have := isNode_any l[k] w; rw [hi] at this; exact this
          generalize l[k]'hlk = x at *
          clear hok hi hc HO
          go_wp2_with fail
          refine (HI.out _).mono ?_
          rintro e w' ⟨rfl, hw⟩
          subst hw
          go_wp2
          go_ret
          exact ⟨by rw [HN.out]; rfl, rfl⟩
        · have HI : Hid (∀ w, Calls Tryd.prog 49 #[.int .i64 l[k]] w fun e w' => e = .returned (.bool true) ∧ w' = w) := fun w => by have := isNode_any l[k] w; rw [hi] at this; exact this
          obtain ⟨i1, i2⟩ := isN_get hi
          cases k with
          | zero => exact absurd ⟨i1, i2, fun j e => absurd e (by omega)⟩ hok
          | succ j =>
            have cj := hc j (by omega)
            have hle : ¬ l[j]'(by omega) < l[j + 1]'hlk := fun hh => hok ⟨i1, i2, fun j' e => by
              have : j' = j := by omega
              subst this
              exact hh⟩
            generalize l[j + 1]'hlk = x at *
            generalize l[j]'(by omega) = y at *
            have d2 : decide (x ≤ y) = true := by simp; omega
            clear hok hi hc HO
            go_wp2_with fail
            refine (HI.out _).mono ?_
            rintro e w' ⟨rfl, hw⟩
            subst hw
            go_wp2
            go_ret
            exact ⟨by rw [HN.out]; rfl, rfl⟩
    · have hk' : k = l.length := by omega
      subst hk'
      have dk : decide ((l.length : Int) < l.length) = false := by simp
      have hyes : nodesB l = true := nodesB_true fun k h => HO.out k h h
      clear HO
      go_wp2
      go_ret
      exact ⟨by rw [hyes]; rfl, rfl⟩
set_option maxRecDepth 100000 in
set_option maxHeartbeats 1000000 in
theorem first_big (v : Value) (l : List Int) (w : World) (hr : IsRow w 1 v l.length (iCells l)) (hl : l.length ≤ 140737488355328) :
    Calls Tryd.prog 11 #[v] w fun e w' => VwPost (if fsB l = true then 1 else 0) (if fsB l = true then fsM l else []) (if fsB l = true then 0 else 1) w e w' := by
  obtain ⟨a0, cap0, rfl⟩ := hr.form
  obtain ⟨i0, hi0, hz0, hz1, hz2⟩ := info_parts info_mb
  have HN : Hid (∀ w', Below w.heap.size w w' → Calls Tryd.prog 33 #[.slice a0 l.length cap0] w' fun e w'' => e = .returned (.bool (nodesB l)) ∧ w'' = w') := fun w' h => nodes_big _ l w' (hr.below h) hl
  have HB1 : Hid (Below w.heap.size w (w.alloc (.cells #[.int .i64 0, .slice none 0 0] 24))) := al_belowV w _
  cases hb : fsB l
  · have hcase : l = [] ∨ (l ≠ [] ∧ nodesB l = false) := by
      by_cases h0 : l = []
      · exact .inl h0
      · refine .inr ⟨h0, ?_⟩
        cases l with
        | nil => exact absurd rfl h0
        | cons x t => simpa [fsB] using hb
    simp only [Bool.false_eq_true, if_false]
    rcases hcase with rfl | ⟨hne, hnb⟩
    · clear hr HN hb
      go_enter Tryd.func11, Tryd.ntmps11
      go_wp2
      refine bodyPost_ret (v := .tuple #[vwV 0 (.slice none 0 0), .int .i64 1]) ?_ rfl (VwPost.none 1 HB1.out)
      rw [results_csV rfl]; go_simp
    · have hlp : 0 < l.length := List.length_pos_iff.2 hne
      have n1 : ((l.length : Int) == 0) = false := by rw [beq_eq_false_iff_ne]; omega
      have HX : Hid (Calls Tryd.prog 33 #[.slice a0 l.length cap0] (w.alloc (.cells #[.int .i64 0, .slice none 0 0] 24)) fun e w'' => e = .returned (.bool false) ∧ w'' = w.alloc (.cells #[.int .i64 0, .slice none 0 0] 24)) := by
        have := HN.out _ HB1.out
        rw [hnb] at this
        exact this
      clear hr HN hb hne hnb
      go_enter Tryd.func11, Tryd.ntmps11
      go_wp2_with fail
      refine HX.out.mono ?_
      rintro e w' ⟨rfl, hw⟩
      subst hw
      go_wp2
      refine bodyPost_ret (v := .tuple #[vwV 0 (.slice none 0 0), .int .i64 1]) ?_ rfl (VwPost.none 1 HB1.out)
      rw [results_csV rfl]; go_simp
  · have hcase : l ≠ [] ∧ nodesB l = true := by
      cases l with
      | nil => simp [fsB] at hb
      | cons x t => exact ⟨by simp, by simpa [fsB] using hb⟩
    obtain ⟨hne, hnb⟩ := hcase
    simp only [if_true]
    have h15 : l.length ≤ 15 := nodes_len (by
      apply Classical.byContradiction
      intro hn
      rw [nodesB_false hn] at hnb
      cases hnb)
    have hlp : 0 < l.length := List.length_pos_iff.2 hne
    have n1 : ((l.length : Int) == 0) = false := by rw [beq_eq_false_iff_ne]; omega
    have HX : Hid (Calls Tryd.prog 33 #[.slice a0 l.length cap0] (w.alloc (.cells #[.int .i64 0, .slice none 0 0] 24)) fun e w'' => e = .returned (.bool true) ∧ w'' = w.alloc (.cells #[.int .i64 0, .slice none 0 0] 24)) := by
      have := HN.out _ HB1.out
      rw [hnb] at this
      exact this
    have HR : Hid (IsRow w 1 (.slice a0 l.length cap0) l.length (iCells l)) := hr
    clear hr HN hb hne hnb
    go_enter Tryd.func11, Tryd.ntmps11
    go_wp2_with fail
    refine HX.out.mono ?_
    rintro e w' ⟨rfl, hw⟩
    subst hw
    clear HX
    go_wp2_with fail
    go_loopw [6, 19] (fun nn i wr => nn = nn ∧ ∃ (k : Nat) (va : Option Addr) (vc : Nat), k ≤ l.length ∧ i = .int .i64 (k : Int) ∧ Hid (wr.ownsRow (w.heap.size + 2) 58 3 (.slice va k vc) k (mCells (fsM (l.take k)))) ∧ Hid (wr.heap[w.heap.size]? = some (.cells #[.int .i64 0, .slice none 0 0] 24 (0, 0))) ∧ Hid (wr.heap[w.heap.size + 1]? = some (.cells #[.int .i64 1, .slice va k vc] 24 (0, 0))) ∧ Hid (Below w.heap.size w wr)) (fun _ i _ => l.length - (intOf i).toNat)
    case atStart =>
      refine ⟨rfl, 0, none, 0, Nat.zero_le _, rfl, World.ownsRow_nil _ _ _ _, ?_, ?_, ?_⟩
      · show _ = _
        rw [alloc_old _ _ (by simp), alloc_top]
      · show _ = _
        have := alloc_top (w.alloc (.cells #[.int .i64 0, .slice none 0 0] 24)) (.cells #[.int .i64 1, .slice none 0 0] 24)
        simpa using this
      · exact HB1.out.alloc HB1.out.size _
    case round =>
      obtain ⟨-, k, va, vc, hk, rfl, HO, HH0, HH1, HB⟩ := hrel
      have hsz := HB.out.size
      obtain ⟨z0, z1, z2⟩ := heap_at HH0.out
      obtain ⟨y0, y1, y2⟩ := heap_at HH1.out
      have a0' := z0 0; have a1' := z0 1; have b0' := y0 0; have b1' := y0 1; have f0' := y1 0; have f1' := y1 1; have g0' := z1 0; have g1' := z1 1
      simp only [List.getElem?_toArray, List.getElem?_cons_zero, List.getElem?_cons_succ] at a0' a1' b0' b1'
      clear z0 z1 z2 y0 y1
      by_cases hlk : k < l.length
      · have dk : decide ((k : Int) < l.length) = true := by simp; omega
        obtain ⟨b, off, hva, -, hlt, hcap, hc⟩ := iCells_at (HR.out.below HB.out) (by omega)
        subst hva
        have ck := hc k hlk
        have HT : Hid (mCells (fsM (l.take (k + 1))) = mCells (fsM (l.take k)) ++ [.int .i64 l[k], .int .i64 1, .bool true]) := by
          show _ = _
          rw [List.take_succ_eq_append_getElem hlk, show fsM (l.take k ++ [l[k]]) = fsM (l.take k) ++ [⟨l[k], 1, true⟩] from List.map_append, mCells_snoc]
          rfl
        generalize l[k]'hlk = x at *
        clear hc HR
        go_wp2_with (at_builtin; go_loud (refine wpl_appV wr rfl (.tmp 24) (.tmp 27) 22 58 rfl i0 _ 3 24 Tryd.underlying22 hi0 hz0 hz1 hz2 rfl (by decide) (w.heap.size + 2) (.slice va k vc) k (mCells (fsM (l.take k))) rfl HO.out [.int .i64 x, .int .i64 1, .bool true] rfl _ rfl wr.heap.size rfl rfl (by simp [Value.oneCell']) (by omega) (by unfold maxLen; omega) (by omega) ?_; intro v4 w4 hown4 hb4 hne4; obtain ⟨va4, vc4, rfl⟩ := (IsRow.own hown4).form; have q1 := (hb4.block _ (by omega)).trans HH1.out; have p00 := (heap_at q1).1 1; have p11 := (heap_at q1).2.1 1; simp only [List.getElem?_toArray, List.getElem?_cons_zero, List.getElem?_cons_succ] at p00))
        have q0 : w4.heap[w.heap.size]? = _ := (hb4.block _ (by omega)).trans HH0.out
        have s1 := setCell_atV w4 1 q1 (.slice va4 (k + 1) vc4)
        have HO4 : Hid ((w4.setCell ⟨w.heap.size + 1, 1, none⟩ (.slice va4 (k + 1) vc4)).ownsRow (w.heap.size + 2) 58 3 (.slice va4 (k + 1) vc4) (k + 1) (mCells (fsM (l.take (k + 1))))) := by
          show World.ownsRow _ _ _ _ _ _ _
          rw [HT.out]
          refine hown4.kept (row := some (w.heap.size + 1)) ⟨rfl, rfl, rfl, by simp, fun j _ hj => s1.2 j (fun e => hj (by rw [e]))⟩ (.inr ?_)
          intro e
          have := (hown4.lt _ e).1
          omega
        have HH0' : Hid ((w4.setCell ⟨w.heap.size + 1, 1, none⟩ (.slice va4 (k + 1) vc4)).heap[w.heap.size]? = some (.cells #[.int .i64 0, .slice none 0 0] 24 (0, 0))) := (s1.2 _ (by omega)).trans q0
        have HH1' : Hid ((w4.setCell ⟨w.heap.size + 1, 1, none⟩ (.slice va4 (k + 1) vc4)).heap[w.heap.size + 1]? = some (.cells #[.int .i64 1, .slice va4 (k + 1) vc4] 24 (0, 0))) := s1.1
        have HB4 : Hid (Below w.heap.size w (w4.setCell ⟨w.heap.size + 1, 1, none⟩ (.slice va4 (k + 1) vc4))) := (HB.out.trans (hb4.mono (by omega))).setCell (p := ⟨w.heap.size + 1, 1, none⟩) (by simp) _
        clear hown4 hb4 HT HO hne4 q0 q1 s1 HH0 HH1
        go_wp2
        go_roundw
        case rel => exact ⟨trivial, k + 1, va4, vc4, by omega, by simp, HO4, HH0', HH1', HB4⟩
        case measure => simp [intOf]; omega
      · have hk' : k = l.length := by omega
        subst hk'
        have dk : decide ((l.length : Int) < l.length) = false := by simp
        have hown := HO.out
        rw [List.take_of_length_le (Nat.le_refl _)] at hown
        have HF : Hid (∀ x y, IsRow ((wr.setCell ⟨w.heap.size, 0, none⟩ x).setCell ⟨w.heap.size, 1, none⟩ y) 3 (.slice va l.length vc) (fsM l).length (mCells (fsM l)) ∧ Below w.heap.size w ((wr.setCell ⟨w.heap.size, 0, none⟩ x).setCell ⟨w.heap.size, 1, none⟩ y)) := fun x y => by
          have hlen : (fsM l).length = l.length := by simp [fsM]
          have s1 := setCell_atV wr 0 HH0.out x
          have s2 := setCell_atV _ 1 s1.1 y
          refine ⟨?_, (HB.out.setCell (p := ⟨w.heap.size, 0, none⟩) (by simp) _).setCell (p := ⟨w.heap.size, 1, none⟩) (by simp) _⟩
          rw [hlen]
          refine IsRow.own (base := w.heap.size + 2) (hown.kept (row := some w.heap.size) ⟨rfl, rfl, rfl, by simp, fun j _ hj => (s2.2 j (fun e => hj (by rw [e]))).trans (s1.2 j (fun e => hj (by rw [e])))⟩ (.inr ?_))
          intro e
          have := (hown.lt _ e).1
          omega
        have HNw : Hid (NewB w.heap.size (.slice va l.length vc)) := (NewB.own hown).mono (by omega)
        clear hown HO HR
        go_wp2
        refine bodyPost_ret (v := .tuple #[vwV 1 (.slice va l.length vc), .int .i64 0]) ?_ rfl ⟨_, rfl, (HF.out _ _).1, HNw.out, (HF.out _ _).2⟩
        rw [results_csV rfl]; go_simp
end Go.Proofs.YtpepdcbhimjddaaDoor
