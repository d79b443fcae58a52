/- The reference's May; a nil link's answers: walks. -/
import Derived.Test.YtiokcepaamlphabLnM
namespace Go.Proofs.Ytiokcepaamlphab
open Go.RowKit Go.ChangeMaps

set_option maxRecDepth 100000 in
set_option maxHeartbeats 4000000 in
theorem may_any (x : Ed) (w : World) : Calls Try.prog 8 #[eV x] w fun e w' => e = .returned (.bool (mayX x)) ∧ Below w.heap.size w w' := by
  have HB : Hid (∀ o, Below w.heap.size w (w.alloc o)) := al_b w
  obtain ⟨me, lf, pe, pl, fi⟩ := x
  dsimp only [eV]
  by_cases h0 : 1 ≤ me
  · have d0 : decide (1 ≤ me) = true := decide_eq_true h0
    by_cases h1 : me ≤ 15
    · have d1 : decide (me ≤ 15) = true := decide_eq_true h1
      by_cases h2 : 1 ≤ pe
      · have d2 : decide (1 ≤ pe) = true := decide_eq_true h2
        by_cases h3 : pe ≤ 15
        · have d3 : decide (pe ≤ 15) = true := decide_eq_true h3
          by_cases h4 : me = pe
          · have d4 : (me != pe) = false := ne_t h4
            have e0 : mayX ⟨me, lf, pe, pl, fi⟩ = false := by
              unfold mayX nodeB cntB
              dsimp only
              simp only [Bool.and_eq_false_iff, decide_eq_false_iff_not, Bool.not_eq_false', decide_eq_true_eq]
              omega
            rw [e0]
            clear e0
            clear h0 h1 h2 h3 h4
            go_enter Try.func8, Try.ntmps8
            go_wp2
            go_ret
            exact ⟨rfl, HB.out _⟩
          · have d4 : (me != pe) = true := ne_f h4
            by_cases h5 : 1 ≤ lf
            · have d5 : decide (1 ≤ lf) = true := decide_eq_true h5
              by_cases h6 : lf ≤ 1099511627775
              · have d6 : decide (lf ≤ 1099511627775) = true := decide_eq_true h6
                by_cases h7 : 1 ≤ pl
                · have d7 : decide (1 ≤ pl) = true := decide_eq_true h7
                  by_cases h8 : pl ≤ 1099511627775
                  · have d8 : decide (pl ≤ 1099511627775) = true := decide_eq_true h8
                    by_cases h9 : 1 ≤ fi
                    · have d9 : decide (1 ≤ fi) = true := decide_eq_true h9
                      by_cases h10 : fi ≤ 1099511627775
                      · have d10 : decide (fi ≤ 1099511627775) = true := decide_eq_true h10
                        have e0 : mayX ⟨me, lf, pe, pl, fi⟩ = true := by
                          unfold mayX nodeB cntB
                          dsimp only
                          simp only [Bool.and_eq_true, decide_eq_true_eq, Bool.not_eq_true', decide_eq_false_iff_not]
                          omega
                        rw [e0]
                        clear e0
                        clear h0 h1 h2 h3 h4 h5 h6 h7 h8 h9 h10
                        go_enter Try.func8, Try.ntmps8
                        go_wp2
                        go_ret
                        exact ⟨rfl, HB.out _⟩
                      · have d10 : decide (fi ≤ 1099511627775) = false := decide_eq_false h10
                        have e0 : mayX ⟨me, lf, pe, pl, fi⟩ = false := by
                          unfold mayX nodeB cntB
                          dsimp only
                          simp only [Bool.and_eq_false_iff, decide_eq_false_iff_not, Bool.not_eq_false', decide_eq_true_eq]
                          omega
                        rw [e0]
                        clear e0
                        clear h0 h1 h2 h3 h4 h5 h6 h7 h8 h9 h10
                        go_enter Try.func8, Try.ntmps8
                        go_wp2
                        go_ret
                        exact ⟨rfl, HB.out _⟩
                    · have d9 : decide (1 ≤ fi) = false := decide_eq_false h9
                      have e0 : mayX ⟨me, lf, pe, pl, fi⟩ = false := by
                        unfold mayX nodeB cntB
                        dsimp only
                        simp only [Bool.and_eq_false_iff, decide_eq_false_iff_not, Bool.not_eq_false', decide_eq_true_eq]
                        omega
                      rw [e0]
                      clear e0
                      clear h0 h1 h2 h3 h4 h5 h6 h7 h8 h9
                      go_enter Try.func8, Try.ntmps8
                      go_wp2
                      go_ret
                      exact ⟨rfl, HB.out _⟩
                  · have d8 : decide (pl ≤ 1099511627775) = false := decide_eq_false h8
                    have e0 : mayX ⟨me, lf, pe, pl, fi⟩ = false := by
                      unfold mayX nodeB cntB
                      dsimp only
                      simp only [Bool.and_eq_false_iff, decide_eq_false_iff_not, Bool.not_eq_false', decide_eq_true_eq]
                      omega
                    rw [e0]
                    clear e0
                    clear h0 h1 h2 h3 h4 h5 h6 h7 h8
                    go_enter Try.func8, Try.ntmps8
                    go_wp2
                    go_ret
                    exact ⟨rfl, HB.out _⟩
                · have d7 : decide (1 ≤ pl) = false := decide_eq_false h7
                  have e0 : mayX ⟨me, lf, pe, pl, fi⟩ = false := by
                    unfold mayX nodeB cntB
                    dsimp only
                    simp only [Bool.and_eq_false_iff, decide_eq_false_iff_not, Bool.not_eq_false', decide_eq_true_eq]
                    omega
                  rw [e0]
                  clear e0
                  clear h0 h1 h2 h3 h4 h5 h6 h7
                  go_enter Try.func8, Try.ntmps8
                  go_wp2
                  go_ret
                  exact ⟨rfl, HB.out _⟩
              · have d6 : decide (lf ≤ 1099511627775) = false := decide_eq_false h6
                have e0 : mayX ⟨me, lf, pe, pl, fi⟩ = false := by
                  unfold mayX nodeB cntB
                  dsimp only
                  simp only [Bool.and_eq_false_iff, decide_eq_false_iff_not, Bool.not_eq_false', decide_eq_true_eq]
                  omega
                rw [e0]
                clear e0
                clear h0 h1 h2 h3 h4 h5 h6
                go_enter Try.func8, Try.ntmps8
                go_wp2
                go_ret
                exact ⟨rfl, HB.out _⟩
            · have d5 : decide (1 ≤ lf) = false := decide_eq_false h5
              have e0 : mayX ⟨me, lf, pe, pl, fi⟩ = false := by
                unfold mayX nodeB cntB
                dsimp only
                simp only [Bool.and_eq_false_iff, decide_eq_false_iff_not, Bool.not_eq_false', decide_eq_true_eq]
                omega
              rw [e0]
              clear e0
              clear h0 h1 h2 h3 h4 h5
              go_enter Try.func8, Try.ntmps8
              go_wp2
              go_ret
              exact ⟨rfl, HB.out _⟩
        · have d3 : decide (pe ≤ 15) = false := decide_eq_false h3
          have e0 : mayX ⟨me, lf, pe, pl, fi⟩ = false := by
            unfold mayX nodeB cntB
            dsimp only
            simp only [Bool.and_eq_false_iff, decide_eq_false_iff_not, Bool.not_eq_false', decide_eq_true_eq]
            omega
          rw [e0]
          clear e0
          clear h0 h1 h2 h3
          go_enter Try.func8, Try.ntmps8
          go_wp2
          go_ret
          exact ⟨rfl, HB.out _⟩
      · have d2 : decide (1 ≤ pe) = false := decide_eq_false h2
        have e0 : mayX ⟨me, lf, pe, pl, fi⟩ = false := by
          unfold mayX nodeB cntB
          dsimp only
          simp only [Bool.and_eq_false_iff, decide_eq_false_iff_not, Bool.not_eq_false', decide_eq_true_eq]
          omega
        rw [e0]
        clear e0
        clear h0 h1 h2
        go_enter Try.func8, Try.ntmps8
        go_wp2
        go_ret
        exact ⟨rfl, HB.out _⟩
    · have d1 : decide (me ≤ 15) = false := decide_eq_false h1
      have e0 : mayX ⟨me, lf, pe, pl, fi⟩ = false := by
        unfold mayX nodeB cntB
        dsimp only
        simp only [Bool.and_eq_false_iff, decide_eq_false_iff_not, Bool.not_eq_false', decide_eq_true_eq]
        omega
      rw [e0]
      clear e0
      clear h0 h1
      go_enter Try.func8, Try.ntmps8
      go_wp2
      go_ret
      exact ⟨rfl, HB.out _⟩
  · have d0 : decide (1 ≤ me) = false := decide_eq_false h0
    have e0 : mayX ⟨me, lf, pe, pl, fi⟩ = false := by
      unfold mayX nodeB cntB
      dsimp only
      simp only [Bool.and_eq_false_iff, decide_eq_false_iff_not, Bool.not_eq_false', decide_eq_true_eq]
      omega
    rw [e0]
    clear e0
    clear h0
    go_enter Try.func8, Try.ntmps8
    go_wp2
    go_ret
    exact ⟨rfl, HB.out _⟩
set_option maxRecDepth 100000 in
theorem sendL_nil (s : ByteArray) (w : World) : Calls Try.prog 5 #[nilL, .string s] w fun e w' => e = .returned (.tuple #[.slice none 0 0, .int .i64 1]) ∧ Below w.heap.size w w' := by
  have HB : Hid (∀ o, Below w.heap.size w (w.alloc o)) := al_b w
  go_enter Try.func5, Try.ntmps5
  go_wp2
  go_ret2
  exact ⟨rfl, by first | exact HB.out _ | exact Below.refl _ _⟩
set_option maxRecDepth 100000 in
theorem tickL_nil (w : World) : Calls Try.prog 9 #[nilL] w fun e w' => e = .returned (.slice none 0 0) ∧ Below w.heap.size w w' := by
  have HB : Hid (∀ o, Below w.heap.size w (w.alloc o)) := al_b w
  go_enter Try.func9, Try.ntmps9
  go_wp2
  go_ret
  exact ⟨rfl, by first | exact HB.out _ | exact Below.refl _ _⟩
set_option maxRecDepth 100000 in
theorem leftL_nil (w : World) : Calls Try.prog 10 #[nilL] w fun e w' => e = .returned (.int .i64 0) ∧ Below w.heap.size w w' := by
  have HB : Hid (∀ o, Below w.heap.size w (w.alloc o)) := al_b w
  go_enter Try.func10, Try.ntmps10
  go_wp2
  go_ret
  exact ⟨rfl, by first | exact HB.out _ | exact Below.refl _ _⟩
set_option maxRecDepth 100000 in
theorem baseL_nil (w : World) : Calls Try.prog 11 #[nilL] w fun e w' => e = .returned (.int .i64 0) ∧ Below w.heap.size w w' := by
  have HB : Hid (∀ o, Below w.heap.size w (w.alloc o)) := al_b w
  go_enter Try.func11, Try.ntmps11
  go_wp2
  go_ret
  exact ⟨rfl, by first | exact HB.out _ | exact Below.refl _ _⟩
set_option maxRecDepth 100000 in
theorem wantsL_nil (w : World) : Calls Try.prog 12 #[nilL] w fun e w' => e = .returned (.int .i64 0) ∧ Below w.heap.size w w' := by
  have HB : Hid (∀ o, Below w.heap.size w (w.alloc o)) := al_b w
  go_enter Try.func12, Try.ntmps12
  go_wp2
  go_ret
  exact ⟨rfl, by first | exact HB.out _ | exact Below.refl _ _⟩
set_option maxRecDepth 100000 in
theorem earlyL_nil (w : World) : Calls Try.prog 13 #[nilL] w fun e w' => e = .returned (.int .i64 0) ∧ Below w.heap.size w w' := by
  have HB : Hid (∀ o, Below w.heap.size w (w.alloc o)) := al_b w
  go_enter Try.func13, Try.ntmps13
  go_wp2
  go_ret
  exact ⟨rfl, by first | exact HB.out _ | exact Below.refl _ _⟩
set_option maxRecDepth 100000 in
theorem endsL_nil (w : World) : Calls Try.prog 14 #[nilL] w fun e w' => e = .returned (eV ⟨0, 0, 0, 0, 0⟩) ∧ Below w.heap.size w w' := by
  have HB : Hid (∀ o, Below w.heap.size w (w.alloc o)) := al_b w
  go_enter Try.func14, Try.ntmps14
  go_wp2
  try simp only [Exit.inBlock, Exit.then]
  refine bodyPost_ret (v := eV ⟨0, 0, 0, 0, 0⟩) ?_ rfl ⟨rfl, HB.out _⟩
  rw [results_cellK rfl]; go_simp
set_option maxRecDepth 100000 in
theorem lookL_nil (p : Pk) (w : World) : Calls Try.prog 17 #[nilL, pV p] w fun e w' => e = .returned (.int .i64 1) ∧ Below w.heap.size w w' := by
  have HB : Hid (∀ o n, Below w.heap.size w ((w.alloc o).drewN n)) := fun o n => (al_b w o).trans ⟨rfl, rfl, rfl, Nat.le_refl _, fun _ _ => rfl⟩
  obtain ⟨pf, pt, pfl, ptl, psq, pak, px⟩ := p
  dsimp only [pV]
  go_enter Try.func17, Try.ntmps17
  go_wp2_with fail
  go_quiet (fail)
  go_wp2
  go_ret
  exact ⟨rfl, HB.out _ _⟩
set_option maxRecDepth 100000 in
theorem takeL_nil (p : Pk) (w : World) : Calls Try.prog 6 #[nilL, pV p] w fun e w' => e = .returned (.tuple #[.slice none 0 0, .slice none 0 0, .int .i64 1]) ∧ Below w.heap.size w w' := by
  have HB : Hid (∀ o, Below w.heap.size w (w.alloc o)) := al_b w
  have HL : Hid (∀ w, Calls Try.prog 17 #[nilL, pV p] w fun e w' => e = .returned (.int .i64 1) ∧ Below w.heap.size w w') := lookL_nil p
  obtain ⟨pf, pt, pfl, ptl, psq, pak, px⟩ := p
  dsimp only [pV] at *
  go_enter Try.func6, Try.ntmps6
  go_wp2_with fail
  refine (HL.out _).mono ?_
  rintro e w1 ⟨rfl, hb⟩
  have HB1 : Hid (Below w.heap.size w w1) := (HB.out _).trans (hb.mono (HB.out _).size)
  clear hb
  go_wp2
  go_ret3
  exact ⟨rfl, HB1.out⟩
end Go.Proofs.Ytiokcepaamlphab
