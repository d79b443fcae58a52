/- The reference's there: its walk. -/
import Derived.Test.YthbhgblgacoklaaHW
namespace Go.Proofs.Ythbhgblgacoklaa
open Go.RowKit

/-- What is wrong with a hop's packet of a place. -/
def thI (L : List Pk) (f t i : Int) : Int := if hopB f t = true then (if i < 0 ∨ ((plc L f t L.length).length : Int) ≤ i then 4 else 0) else 1
set_option maxRecDepth 100000 in
set_option maxHeartbeats 2000000 in
theorem there_any (v : Value) (au : Option Addr) (nu cu : Nat) (L : List Pk) (f t i : Int) (w : World) (hr : IsRow w 7 v L.length (pCells L)) (hl : L.length ≤ 100000) :
    Calls Try.prog 42 #[.agg #[v, .slice au nu cu], hV f t, .int .i64 i] w fun e w' => e = .returned (.int .i64 (thI L f t i)) ∧ Below w.heap.size w w' := by
  obtain ⟨a0, cap0, rfl⟩ := hr.form
  obtain ⟨W0, hW0⟩ : ∃ W0, W0 = (w.alloc (.cells #[.slice a0 L.length cap0, .slice au nu cu] 28)).alloc (.cells #[.int .i64 f, .int .i64 t] 40) := ⟨_, rfl⟩
  have b0 : Below w.heap.size w W0 := by rw [hW0]; exact (al_b w _).trans ((al_b _ _).mono (al_b w _).size)
  have hn1 : w.heap.size + 1 < W0.heap.size := by rw [hW0]; simp
  have g0 : W0.cell? ⟨w.heap.size, 0, none⟩ = some (.slice a0 L.length cap0) := by rw [hW0]; simp
  have g3 : W0.cell? ⟨w.heap.size, 1, none⟩ = some (.slice au nu cu) := by rw [hW0]; simp
  have g1 : W0.cell? ⟨w.heap.size + 1, 0, none⟩ = some (.int .i64 f) := by rw [hW0]; simp
  have g2 : W0.cell? ⟨w.heap.size + 1, 1, none⟩ = some (.int .i64 t) := by rw [hW0]; simp
  have HG : Hid (∀ w', Below W0.heap.size W0 w' → w'.cell? ⟨w.heap.size, 0, none⟩ = some (.slice a0 L.length cap0) ∧ w'.cell? ⟨w.heap.size, 1, none⟩ = some (.slice au nu cu) ∧ w'.cell? ⟨w.heap.size + 1, 0, none⟩ = some (.int .i64 f) ∧ w'.cell? ⟨w.heap.size + 1, 1, none⟩ = some (.int .i64 t) ∧ Below w.heap.size w w') := fun w' h =>
    ⟨(h.cell (p := ⟨w.heap.size, 0, none⟩) (by show w.heap.size < _; omega)).trans g0, (h.cell (p := ⟨w.heap.size, 1, none⟩) (by show w.heap.size < _; omega)).trans g3, (h.cell (p := ⟨w.heap.size + 1, 0, none⟩) hn1).trans g1, (h.cell (p := ⟨w.heap.size + 1, 1, none⟩) hn1).trans g2, b0.trans (h.mono b0.size)⟩
  have HPl : Hid (∀ w', Below w.heap.size w w' → Calls Try.prog 12 #[.agg #[.slice a0 L.length cap0, .slice au nu cu], hV f t] w' fun e w'' => PlPost (plc L f t L.length) w' e w'') := fun w' h => places_any _ _ L f t w' (hr.below h) hl
  have HI : Hid (Calls Try.prog 14 #[hV f t] W0 fun e w' => e = .returned (.bool (hopB f t)) ∧ Below W0.heap.size W0 w') := refIs_any f t W0
  clear b0 hr hn1 g0 g1 g2 g3
  cases hh : hopB f t with
  | false =>
    have e0 : thI L f t i = 1 := by unfold thI; rw [hh]; rfl
    rw [e0]
    rw [hh] at HI
    clear e0 hh
    go_enter Try.func42, Try.ntmps42
    go_wp2_with fail
    rw [← hW0]
    clear hW0
    refine HI.out.mono ?_
    rintro e w1 ⟨rfl, hb1⟩
    obtain ⟨-, -, -, -, hb⟩ := HG.out w1 hb1
    have HB : Hid (Below w.heap.size w w1) := hb
    clear hb hb1
    go_wp2
    go_ret
    exact ⟨rfl, HB.out⟩
  | true =>
    rw [hh] at HI
    by_cases hi : i < 0
    · have e0 : thI L f t i = 4 := by unfold thI; rw [if_pos hh, if_pos (.inl hi)]
      rw [e0]
      clear e0 hh
      go_enter Try.func42, Try.ntmps42
      go_wp2_with fail
      rw [← hW0]
      clear hW0
      refine HI.out.mono ?_
      rintro e w1 ⟨rfl, hb1⟩
      obtain ⟨-, -, -, -, hb⟩ := HG.out w1 hb1
      have HB : Hid (Below w.heap.size w w1) := hb
      clear hb hb1
      go_wp2
      go_ret
      exact ⟨rfl, HB.out⟩
    · by_cases hn : ((plc L f t L.length).length : Int) ≤ i
      · have e0 : thI L f t i = 4 := by unfold thI; rw [if_pos hh, if_pos (.inr hn)]
        rw [e0]
        clear e0 hh
        unfold PlPost at HPl
        generalize plc L f t L.length = M at *
        go_enter Try.func42, Try.ntmps42
        go_wp2_with fail
        rw [← hW0]
        clear hW0
        refine HI.out.mono ?_
        rintro e w1 ⟨rfl, hb1⟩
        obtain ⟨g0, g3, g1, g2, hb⟩ := HG.out w1 hb1
        have HB : Hid (Below w.heap.size w w1) := hb
        clear hb hb1
        go_wp2_with fail
        refine (HPl.out w1 HB.out).mono ?_
        rintro e w2 ⟨v2, rfl, hr2, hb2⟩
        obtain ⟨a2, cap2, rfl⟩ := hr2.form
        have HB2 : Hid (Below w.heap.size w w2) := HB.out.trans (hb2.mono HB.out.size)
        clear hr2 hb2 g0 g1 g2 g3
        go_wp2
        go_ret
        exact ⟨rfl, HB2.out⟩
      · have e0 : thI L f t i = 0 := by unfold thI; rw [if_pos hh, if_neg (fun h => h.elim hi hn)]
        rw [e0]
        clear e0 hh
        unfold PlPost at HPl
        generalize plc L f t L.length = M at *
        go_enter Try.func42, Try.ntmps42
        go_wp2_with fail
        rw [← hW0]
        clear hW0
        refine HI.out.mono ?_
        rintro e w1 ⟨rfl, hb1⟩
        obtain ⟨g0, g3, g1, g2, hb⟩ := HG.out w1 hb1
        have HB : Hid (Below w.heap.size w w1) := hb
        clear hb hb1
        go_wp2_with fail
        refine (HPl.out w1 HB.out).mono ?_
        rintro e w2 ⟨v2, rfl, hr2, hb2⟩
        obtain ⟨a2, cap2, rfl⟩ := hr2.form
        have HB2 : Hid (Below w.heap.size w w2) := HB.out.trans (hb2.mono HB.out.size)
        clear hr2 hb2 g0 g1 g2 g3
        go_wp2
        go_ret
        exact ⟨rfl, HB2.out⟩
end Go.Proofs.Ythbhgblgacoklaa
