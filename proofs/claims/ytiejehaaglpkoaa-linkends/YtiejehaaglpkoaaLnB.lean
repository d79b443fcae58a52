/- link's isNode, counts, mayBe, New, Left, Base, Wants, Early, Ends, packet: walks. -/
import Derived.Test.YtiejehaaglpkoaaLnA
namespace Go.Proofs.Ytiejehaaglpkoaa
open Go.RowKit Go.ChangeMaps

abbrev nilL : Value := .pointer none
abbrev lP (g : Nat) : Value := .pointer (some ⟨g, 0, none⟩)
theorem lNode_any (n : Int) (w : World) : Calls Try.prog 52 #[.int .i64 n] w fun e w' => e = .returned (.bool (nodeB n)) ∧ w' = w := by
  by_cases h : 1 ≤ n
  · have hd : decide (1 ≤ n) = true := decide_eq_true h
    unfold nodeB; rw [hd, Bool.true_and]
    go_enter Try.func52, Try.ntmps52
    go_wp2
    go_ret
    exact ⟨rfl, rfl⟩
  · have hd : decide (1 ≤ n) = false := decide_eq_false h
    unfold nodeB; rw [hd, Bool.false_and]
    go_enter Try.func52, Try.ntmps52
    go_wp2
    go_ret
    exact ⟨rfl, rfl⟩
theorem lCounts_any (n : Int) (w : World) : Calls Try.prog 53 #[.int .i64 n] w fun e w' => e = .returned (.bool (cntB n)) ∧ w' = w := by
  by_cases h : 1 ≤ n
  · have hd : decide (1 ≤ n) = true := decide_eq_true h
    unfold cntB; rw [hd, Bool.true_and]
    go_enter Try.func53, Try.ntmps53
    go_wp2
    go_ret
    exact ⟨rfl, rfl⟩
  · have hd : decide (1 ≤ n) = false := decide_eq_false h
    unfold cntB; rw [hd, Bool.false_and]
    go_enter Try.func53, Try.ntmps53
    go_wp2
    go_ret
    exact ⟨rfl, rfl⟩
/-- May ends be? -/
def mayX (x : Ed) : Bool := nodeB x.me && (nodeB x.pe && (!decide (x.me = x.pe) && (cntB x.lf && (cntB x.pl && cntB x.fi))))
abbrev eA (x : Ed) : Array Value := #[.int .i64 x.me, .int .i64 x.lf, .int .i64 x.pe, .int .i64 x.pl, .int .i64 x.fi]
set_option maxRecDepth 100000 in
set_option maxHeartbeats 1000000 in
theorem mayBe_any (x : Ed) (w : World) : Calls Try.prog 33 #[eV x] w fun e w' => e = .returned (.bool (mayX x)) ∧ w' = w.alloc (.cells (eA x) 23) := by
  have HN : Hid (∀ n w, Calls Try.prog 52 #[.int .i64 n] w fun e w' => e = .returned (.bool (nodeB n)) ∧ w' = w) := lNode_any
  have HC : Hid (∀ n w, Calls Try.prog 53 #[.int .i64 n] w fun e w' => e = .returned (.bool (cntB n)) ∧ w' = w) := lCounts_any
  have e3 : (x.me != x.pe) = !decide (x.me = x.pe) := by by_cases h : x.me = x.pe <;> simp [h]
  have hm : mayX x = (nodeB x.me && (nodeB x.pe && (!decide (x.me = x.pe) && (cntB x.lf && (cntB x.pl && cntB x.fi))))) := rfl
  obtain ⟨me, lf, pe, pl, fi⟩ := x
  dsimp only at *
  cases h1 : nodeB me with
  | false =>
    rw [h1, Bool.false_and] at hm; rw [hm]; clear hm e3
    go_enter Try.func33, Try.ntmps33
    go_wp2_with fail
    refine (HN.out _ _).mono ?_
    rintro e w1 ⟨rfl, rfl⟩
    rw [h1]
    go_wp2
    go_ret
    exact ⟨rfl, rfl⟩
  | true =>
    rw [h1, Bool.true_and] at hm
    cases h2 : nodeB pe with
    | false =>
      rw [h2, Bool.false_and] at hm; rw [hm]; clear hm e3
      go_enter Try.func33, Try.ntmps33
      go_wp2_with fail
      refine (HN.out _ _).mono ?_
      rintro e w1 ⟨rfl, rfl⟩
      rw [h1]
      go_wp2_with fail
      refine (HN.out _ _).mono ?_
      rintro e w1 ⟨rfl, rfl⟩
      rw [h2]
      go_wp2
      go_ret
      exact ⟨rfl, rfl⟩
    | true =>
      rw [h2, Bool.true_and] at hm
      cases h3 : decide (me = pe) with
      | true =>
        rw [h3] at hm e3
        rw [show (!true && _) = false from rfl] at hm; rw [hm]; clear hm
        go_enter Try.func33, Try.ntmps33
        go_wp2_with fail
        refine (HN.out _ _).mono ?_
        rintro e w1 ⟨rfl, rfl⟩
        rw [h1]
        go_wp2_with fail
        refine (HN.out _ _).mono ?_
        rintro e w1 ⟨rfl, rfl⟩
        rw [h2]
        go_wp2
        go_ret
        exact ⟨rfl, rfl⟩
      | false =>
        rw [h3] at hm e3
        rw [show ∀ b : Bool, (!false && b) = b from fun b => rfl] at hm
        cases h4 : cntB lf with
        | false =>
          rw [h4, Bool.false_and] at hm; rw [hm]; clear hm
          go_enter Try.func33, Try.ntmps33
          go_wp2_with fail
          refine (HN.out _ _).mono ?_
          rintro e w1 ⟨rfl, rfl⟩
          rw [h1]
          go_wp2_with fail
          refine (HN.out _ _).mono ?_
          rintro e w1 ⟨rfl, rfl⟩
          rw [h2]
          go_wp2_with fail
          refine (HC.out _ _).mono ?_
          rintro e w1 ⟨rfl, rfl⟩
          rw [h4]
          go_wp2
          go_ret
          exact ⟨rfl, rfl⟩
        | true =>
          rw [h4, Bool.true_and] at hm
          cases h5 : cntB pl with
          | false =>
            rw [h5, Bool.false_and] at hm; rw [hm]; clear hm
            go_enter Try.func33, Try.ntmps33
            go_wp2_with fail
            refine (HN.out _ _).mono ?_
            rintro e w1 ⟨rfl, rfl⟩
            rw [h1]
            go_wp2_with fail
            refine (HN.out _ _).mono ?_
            rintro e w1 ⟨rfl, rfl⟩
            rw [h2]
            go_wp2_with fail
            refine (HC.out _ _).mono ?_
            rintro e w1 ⟨rfl, rfl⟩
            rw [h4]
            go_wp2_with fail
            refine (HC.out _ _).mono ?_
            rintro e w1 ⟨rfl, rfl⟩
            rw [h5]
            go_wp2
            go_ret
            exact ⟨rfl, rfl⟩
          | true =>
            rw [h5, Bool.true_and] at hm; rw [hm]; clear hm
            cases h6 : cntB fi
            all_goals
              go_enter Try.func33, Try.ntmps33
              go_wp2_with fail
              refine (HN.out _ _).mono ?_
              rintro e w1 ⟨rfl, rfl⟩
              rw [h1]
              go_wp2_with fail
              refine (HN.out _ _).mono ?_
              rintro e w1 ⟨rfl, rfl⟩
              rw [h2]
              go_wp2_with fail
              refine (HC.out _ _).mono ?_
              rintro e w1 ⟨rfl, rfl⟩
              rw [h4]
              go_wp2_with fail
              refine (HC.out _ _).mono ?_
              rintro e w1 ⟨rfl, rfl⟩
              rw [h5]
              go_wp2_with fail
              refine (HC.out _ _).mono ?_
              rintro e w1 ⟨rfl, rfl⟩
              rw [h6]
              go_wp2
              go_ret
              exact ⟨rfl, rfl⟩
/-- A new link. -/
def newL (x : Ed) : Lk := ⟨x, [], x.fi, 0, x.fi, []⟩
theorem link_new {w' : World} (base : Nat) (x : Ed) (g m : Nat) (hg : base ≤ g) (hm : base ≤ m) (h1 : w'.heap[g]? = some (.cells (lkC (newL x) (.slice none 0 0) m) 80 (0, 0))) (h2 : w'.heap[m]? = some (.map #[] 0)) : LinkV base w' g m (.slice none 0 0) (newL x) :=
  ⟨hg, hm, h1, ⟨#[], 0, h2, rfl⟩, ⟨rfl, .inl ⟨rfl, rfl⟩⟩, by simp [Value.ownBlock], by simp [Value.ownBlock]⟩
set_option maxRecDepth 100000 in
set_option maxHeartbeats 1000000 in
theorem newL_no (x : Ed) (w : World) (hx : mayX x = false) : Calls Try.prog 8 #[eV x] w fun e w' => e = .returned nilL ∧ Below w.heap.size w w' := by
  have HM : Hid (∀ w, Calls Try.prog 33 #[eV x] w fun e w' => e = .returned (.bool false) ∧ w' = w.alloc (.cells (eA x) 23)) := fun w => by rw [← hx]; exact mayBe_any x w
  have HB : Hid (Below w.heap.size w ((w.alloc (.cells (eA x) 23)).alloc (.cells (eA x) 23))) := (al_b w _).trans ((al_b _ _).mono (by simp))
  obtain ⟨me, lf, pe, pl, fi⟩ := x
  dsimp only [eV, eA] at *
  clear hx
  go_enter Try.func8, Try.ntmps8
  go_wp2_with fail
  refine (HM.out _).mono ?_
  rintro e w1 ⟨rfl, rfl⟩
  go_wp2
  go_ret
  exact ⟨rfl, HB.out⟩
set_option maxRecDepth 100000 in
set_option maxHeartbeats 1000000 in
theorem newL_ok (x : Ed) (w : World) (hx : mayX x = true) : Calls Try.prog 8 #[eV x] w fun e w' => ∃ g m, e = .returned (lP g) ∧ LinkV w.heap.size w' g m (.slice none 0 0) (newL x) ∧ Below w.heap.size w w' := by
  have HM : Hid (∀ w, Calls Try.prog 33 #[eV x] w fun e w' => e = .returned (.bool true) ∧ w' = w.alloc (.cells (eA x) 23)) := fun w => by rw [← hx]; exact mayBe_any x w
  have HL : Hid (LinkV w.heap.size ((((w.alloc (.cells (eA x) 23)).alloc (.cells (eA x) 23)).alloc (.map #[] 0)).alloc (.cells (lkC (newL x) (.slice none 0 0) (w.heap.size + 2)) 80)) (w.heap.size + 3) (w.heap.size + 2) (.slice none 0 0) (newL x)) := by
    refine link_new _ x _ _ (by omega) (by omega) ?_ ?_
    · show ((((w.heap.push _).push _).push _).push _)[w.heap.size + 3]? = _
      rw [Array.getElem?_push, if_pos (by simp)]
    · show ((((w.heap.push _).push _).push _).push _)[w.heap.size + 2]? = _
      rw [Array.getElem?_push, if_neg (by simp), Array.getElem?_push, if_pos (by simp)]
  have HB : Hid (Below w.heap.size w ((((w.alloc (.cells (eA x) 23)).alloc (.cells (eA x) 23)).alloc (.map #[] 0)).alloc (.cells (lkC (newL x) (.slice none 0 0) (w.heap.size + 2)) 80))) :=
    (((al_b w _).trans ((al_b _ _).mono (by simp))).trans ((al_b _ _).mono (by simp; omega))).trans ((al_b _ _).mono (by simp; omega))
  have hmm := @run_makeMap Try.prog
  obtain ⟨me, lf, pe, pl, fi⟩ := x
  dsimp only [eV, eA, lkC, newL] at *
  clear hx
  go_enter Try.func8, Try.ntmps8
  go_wp2_with fail
  refine (HM.out _).mono ?_
  rintro e w1 ⟨rfl, rfl⟩
  go_wp2
  go_ret
  exact ⟨_, _, rfl, HL.out, HB.out⟩
theorem left_any {base : Nat} {w : World} {g m : Nat} {vq : Value} {L : Lk} (h : LinkV base w g m vq L) : Calls Try.prog 22 #[lP g] w fun e w' => e = .returned (.int .i64 L.q.length) ∧ w' = w := by
  obtain ⟨-, c5, -, -, -, -, fz⟩ := h.cells
  obtain ⟨a, cap, rfl⟩ := (IsRow.own h.own).form
  go_enter Try.func22, Try.ntmps22
  go_wp2
  go_ret
  exact ⟨rfl, rfl⟩
theorem base_any {base : Nat} {w : World} {g m : Nat} {vq : Value} {L : Lk} (h : LinkV base w g m vq L) : Calls Try.prog 23 #[lP g] w fun e w' => e = .returned (.int .i64 L.b) ∧ w' = w := by
  obtain ⟨-, -, c6, -, -, -, fz⟩ := h.cells
  go_enter Try.func23, Try.ntmps23
  go_wp2
  go_ret
  exact ⟨rfl, rfl⟩
theorem wants_any {base : Nat} {w : World} {g m : Nat} {vq : Value} {L : Lk} (h : LinkV base w g m vq L) : Calls Try.prog 24 #[lP g] w fun e w' => e = .returned (.int .i64 L.wn) ∧ w' = w := by
  obtain ⟨-, -, -, -, c8, -, fz⟩ := h.cells
  go_enter Try.func24, Try.ntmps24
  go_wp2
  go_ret
  exact ⟨rfl, rfl⟩
theorem early_any {base : Nat} {w : World} {g m : Nat} {vq : Value} {L : Lk} (h : LinkV base w g m vq L) : Calls Try.prog 25 #[lP g] w fun e w' => e = .returned (.int .i64 L.e.length) ∧ w' = w := by
  obtain ⟨-, -, -, -, -, c9, fz⟩ := h.cells
  have hl := h.mp.len
  go_enter Try.func25, Try.ntmps25
  go_wp2
  go_ret
  exact ⟨rfl, rfl⟩
end Go.Proofs.Ytiejehaaglpkoaa
