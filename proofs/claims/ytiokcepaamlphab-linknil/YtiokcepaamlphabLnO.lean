/- LinkNil: for every input the law returns true. -/
import Derived.Test.YtiokcepaamlphabLnN
namespace Go.Proofs.Ytiokcepaamlphab
open Go.RowKit Go.ChangeMaps

/-- The law's two boxes, and nothing below touched. -/
abbrev SN (H : Nat) (x : Ed) (w w' : World) : Prop := (w'.cell? ⟨H, 0, none⟩ = some (.int .i64 x.me) ∧ w'.cell? ⟨H, 1, none⟩ = some (.int .i64 x.lf) ∧ w'.cell? ⟨H, 2, none⟩ = some (.int .i64 x.pe) ∧ w'.cell? ⟨H, 3, none⟩ = some (.int .i64 x.pl) ∧ w'.cell? ⟨H, 4, none⟩ = some (.int .i64 x.fi)) ∧ H < w'.heap.size ∧ Below w.heap.size w w'
theorem SN.call {H : Nat} {x : Ed} {w W w' : World} (hb : Below W.heap.size W w') (h : SN H x w W) : SN H x w w' := by
  obtain ⟨⟨h0, h1, h2, h3, h4⟩, h5, h6⟩ := h
  have hc : ∀ o, w'.cell? ⟨H, o, none⟩ = W.cell? ⟨H, o, none⟩ := fun o => hb.cell (p := ⟨H, o, none⟩) h5
  exact ⟨⟨(hc _).trans h0, (hc _).trans h1, (hc _).trans h2, (hc _).trans h3, (hc _).trans h4⟩, Nat.lt_of_lt_of_le h5 hb.size, h6.trans (hb.mono h6.size)⟩
theorem SN.drew {H : Nat} {x : Ed} {w W : World} (h : SN H x w W) : SN H x w W.drew := SN.call (W := W) ⟨rfl, rfl, rfl, Nat.le_refl _, fun _ _ => rfl⟩ h
theorem newL_two (x : Ed) (w : World) : Calls Try.prog 7 #[eV x] w fun e w' => ∃ v, e = .returned (.pointer v) ∧ v.isSome = mayX x ∧ Below w.heap.size w w' := by
  cases hx : mayX x with
  | true => exact (newL_ok x w hx).mono fun e w' ⟨g, m, h1, h2, h3⟩ => ⟨_, h1, rfl, h3⟩
  | false => exact (newL_no x w hx).mono fun e w' ⟨h1, h2⟩ => ⟨none, h1, rfl, h2⟩
set_option maxRecDepth 100000 in
set_option maxHeartbeats 4000000 in
theorem linkNil_walk (x : Ed) (p : Pk) (s : ByteArray) (w : World) : Calls Try.prog 3 #[eV x, pV p, .string s] w fun e w' => e = .returned (.bool true) ∧ Below w.heap.size w w' := by
  have HAw : Hid (∀ w, Calls Try.prog 4 #[] w fun e w' => e = .returned (.bool true) ∧ Below w.heap.size w w') := awake13_any
  have HSd : Hid (∀ w, Calls Try.prog 5 #[nilL, .string s] w fun e w' => e = .returned (.tuple #[.slice none 0 0, .int .i64 1]) ∧ Below w.heap.size w w') := sendL_nil s
  have HTk : Hid (∀ w, Calls Try.prog 6 #[nilL, pV p] w fun e w' => e = .returned (.tuple #[.slice none 0 0, .slice none 0 0, .int .i64 1]) ∧ Below w.heap.size w w') := takeL_nil p
  have HTi : Hid (∀ w, Calls Try.prog 9 #[nilL] w fun e w' => e = .returned (.slice none 0 0) ∧ Below w.heap.size w w') := tickL_nil
  have HLe : Hid (∀ w, Calls Try.prog 10 #[nilL] w fun e w' => e = .returned (.int .i64 0) ∧ Below w.heap.size w w') := leftL_nil
  have HBa : Hid (∀ w, Calls Try.prog 11 #[nilL] w fun e w' => e = .returned (.int .i64 0) ∧ Below w.heap.size w w') := baseL_nil
  have HWa : Hid (∀ w, Calls Try.prog 12 #[nilL] w fun e w' => e = .returned (.int .i64 0) ∧ Below w.heap.size w w') := wantsL_nil
  have HEa : Hid (∀ w, Calls Try.prog 13 #[nilL] w fun e w' => e = .returned (.int .i64 0) ∧ Below w.heap.size w w') := earlyL_nil
  have HEn : Hid (∀ w, Calls Try.prog 14 #[nilL] w fun e w' => e = .returned (.agg #[.int .i64 0, .int .i64 0, .int .i64 0, .int .i64 0, .int .i64 0]) ∧ Below w.heap.size w w') := endsL_nil
  have HNw : Hid (∀ w, Calls Try.prog 7 #[eV x] w fun e w' => ∃ v, e = .returned (.pointer v) ∧ v.isSome = mayX x ∧ Below w.heap.size w w') := newL_two x
  have HMy : Hid (∀ w, Calls Try.prog 8 #[eV x] w fun e w' => e = .returned (.bool (mayX x)) ∧ Below w.heap.size w w') := may_any x
  have hS0 : SN w.heap.size x w ((w.alloc (.cells (eA x) 23)).alloc (.cells (pA p) 25)) := by
    have k0 : ((w.alloc (.cells (eA x) 23)).alloc (.cells (pA p) 25)).heap[w.heap.size]? = some (.cells (eA x) 23 (0, 0)) := by
      show ((w.heap.push _).push _)[w.heap.size]? = _
      rw [Array.getElem?_push, if_neg (by simp), Array.getElem?_push, if_pos rfl]
    exact ⟨⟨by rw [Lib.cell_of_heap k0]; rfl, by rw [Lib.cell_of_heap k0]; rfl, by rw [Lib.cell_of_heap k0]; rfl, by rw [Lib.cell_of_heap k0]; rfl, by rw [Lib.cell_of_heap k0]; rfl⟩, by simp; omega, (al_b w _).trans ((al_b _ _).mono (by simp))⟩
  have k1 : ((w.alloc (.cells (eA x) 23)).alloc (.cells (pA p) 25)).heap[w.heap.size + 1]? = some (.cells (pA p) 25 (0, 0)) := by
    show ((w.heap.push _).push _)[w.heap.size + 1]? = _
    rw [Array.getElem?_push, if_pos (by simp)]
  have HK1 : Hid (∀ W, Below ((w.alloc (.cells (eA x) 23)).alloc (.cells (pA p) 25)).heap.size ((w.alloc (.cells (eA x) 23)).alloc (.cells (pA p) 25)) W → W.heap[w.heap.size + 1]? = some (.cells (pA p) 25 (0, 0))) := fun W hb => (hb.block _ (Array.getElem?_eq_some_iff.1 k1).1).trans k1
  have HS0 : Hid (SN w.heap.size x w ((w.alloc (.cells (eA x) 23)).alloc (.cells (pA p) 25))) := hS0
  have HSC : Hid (∀ W w', Below W.heap.size W w' → SN w.heap.size x w W → SN w.heap.size x w w') := fun W w' hb h => h.call hb
  have y6 : ((w.alloc (.cells (eA x) 23)).alloc (.cells (pA p) 25)).cell? ⟨w.heap.size + 1, 6, none⟩ = some (.string p.x) := by rw [Lib.cell_of_heap k1]; rfl
  clear hS0 k1
  obtain ⟨pf, pt, pfl, ptl, psq, pak, px⟩ := p
  obtain ⟨me, lf, pe, pl, fi⟩ := x
  dsimp only [pV, pA, eV, eA] at *
  by_cases h1 : 300 < s.size
  · have d1 : decide ((300 : Int) < (s.size : Int)) = true := by simp; omega
    go_enter Try.func3, Try.ntmps3
    go_wp2_with fail
    refine (HAw.out _).mono ?_
    rintro e w1 ⟨rfl, hb⟩
    have HB : Hid (Below w.heap.size w w1) := (HSC.out _ _ hb HS0.out).2.2
    clear hb
    go_wp2
    go_ret
    exact ⟨rfl, HB.out⟩
  have d1 : decide ((300 : Int) < (s.size : Int)) = false := by simp; omega
  by_cases h2 : 300 < px.size
  · have d2 : decide ((300 : Int) < (px.size : Int)) = true := by simp; omega
    go_enter Try.func3, Try.ntmps3
    go_wp2_with fail
    refine (HAw.out _).mono ?_
    rintro e w1 ⟨rfl, hb⟩
    have HB : Hid (Below w.heap.size w w1) := (HSC.out _ _ hb HS0.out).2.2
    clear hb
    go_wp2
    go_ret
    exact ⟨rfl, HB.out⟩
  have d2 : decide ((300 : Int) < (px.size : Int)) = false := by simp; omega
  have wz : IntKind.i64.wrap 0 = 0 := by decide
  clear h1 h2
  go_enter Try.func3, Try.ntmps3
  go_wp2_with fail
  refine (HSd.out _).mono ?_
  rintro e w1 ⟨rfl, hb⟩
  have HS1 : Hid (SN w.heap.size ⟨me, lf, pe, pl, fi⟩ w w1) := HSC.out _ _ hb HS0.out
  have hk := HK1.out _ hb
  have z0 : w1.cell? ⟨w.heap.size + 1, 0, none⟩ = some (.int .i64 pf) := by rw [Lib.cell_of_heap hk]; rfl
  have z1 : w1.cell? ⟨w.heap.size + 1, 1, none⟩ = some (.int .i64 pt) := by rw [Lib.cell_of_heap hk]; rfl
  have z2 : w1.cell? ⟨w.heap.size + 1, 2, none⟩ = some (.int .i64 pfl) := by rw [Lib.cell_of_heap hk]; rfl
  have z3 : w1.cell? ⟨w.heap.size + 1, 3, none⟩ = some (.int .i64 ptl) := by rw [Lib.cell_of_heap hk]; rfl
  have z4 : w1.cell? ⟨w.heap.size + 1, 4, none⟩ = some (.int .i64 psq) := by rw [Lib.cell_of_heap hk]; rfl
  have z5 : w1.cell? ⟨w.heap.size + 1, 5, none⟩ = some (.int .i64 pak) := by rw [Lib.cell_of_heap hk]; rfl
  have z6 : w1.cell? ⟨w.heap.size + 1, 6, none⟩ = some (.string px) := by rw [Lib.cell_of_heap hk]; rfl
  clear hb hk y6 HK1
  go_wp2_with fail
  refine (HTk.out _).mono ?_
  rintro e w2 ⟨rfl, hb⟩
  have hS2 : SN w.heap.size ⟨me, lf, pe, pl, fi⟩ w w2 := HSC.out _ _ hb HS1.out
  clear hb HS1 HS0 z0 z1 z2 z3 z4 z5 z6
  go_wp2_with fail
  go_region_held3 (fun w' => SN w.heap.size ⟨me, lf, pe, pl, fi⟩ w w')
    (first | with_reducible assumption | with_reducible exact SN.drew (by with_reducible assumption) | exact HSC.out _ _ hb (by with_reducible assumption))
    (first
      | (go_at_call 4; refine (HAw.out _).mono ?_; rintro e w'' ⟨rfl, hb⟩)
      | (go_at_call 7; refine (HNw.out _).mono ?_; rintro e w'' ⟨nv, rfl, hnv, hb⟩)
      | (go_at_call 8; refine (HMy.out _).mono ?_; rintro e w'' ⟨rfl, hb⟩)
      | (go_at_call 9; refine (HTi.out _).mono ?_; rintro e w'' ⟨rfl, hb⟩)
      | (go_at_call 10; refine (HLe.out _).mono ?_; rintro e w'' ⟨rfl, hb⟩)
      | (go_at_call 11; refine (HBa.out _).mono ?_; rintro e w'' ⟨rfl, hb⟩)
      | (go_at_call 12; refine (HWa.out _).mono ?_; rintro e w'' ⟨rfl, hb⟩)
      | (go_at_call 13; refine (HEa.out _).mono ?_; rintro e w'' ⟨rfl, hb⟩)
      | (go_at_call 14; refine (HEn.out _).mono ?_; rintro e w'' ⟨rfl, hb⟩))
  rename_i hS9
  have HB9 : Hid (Below w.heap.size w w'') := hS9.2.2
  clear hS9 hb
  go_wp2
  go_ret
  exact ⟨rfl, HB9.out⟩
end Go.Proofs.Ytiokcepaamlphab
