/- The net's Lose, Take: walks. -/
import Derived.Test.YthbhgblgacoklaaHG
import Derived.Laws.ResultCell
namespace Go.Proofs.Ythbhgblgacoklaa
open Go.RowKit

/-- The rows behind the i-th packet of a hop is gone. -/
def loseR (R : Nat → List Pk) (f t i : Int) : Nat → List Pk := if lookI R f t i = 0 then up R (rix f t) (cutP (R (rix f t)) i.toNat) else R
theorem look_ok {R : Nat → List Pk} {f t i : Int} (h : lookI R f t i = 0) : hopB f t = true ∧ ∃ k : Nat, i = k ∧ k < (R (rix f t)).length := by
  unfold lookI at h
  split at h
  · rename_i hh
    split at h
    · cases h
    · rename_i hi
      exact ⟨hh, i.toNat, by omega, by omega⟩
  · cases h
set_option maxRecDepth 100000 in
set_option maxHeartbeats 1000000 in
theorem lose_any {base : Nat} {w : World} {g : Nat} {V : Nat → Value} {R : Nat → List Pk} {A : Nat → Bool} (f t i : Int) (hv : NetV base w g V R A) (hc : cntN R 256 ≤ 1000) :
    Calls Try.prog 24 #[nP g, hV f t, .int .i64 i] w fun e w' => NP base w g V (loseR R f t i) A (.int .i64 (lookI R f t i)) e w' := by
  have hB1 : Below w.heap.size w (w.alloc (.cells #[.int .i64 f, .int .i64 t] 33)) := al_b w _
  have HB : Hid (Below w.heap.size w (w.alloc (.cells #[.int .i64 f, .int .i64 t] 33))) := hB1
  have HV : Hid (NetV base (w.alloc (.cells #[.int .i64 f, .int .i64 t] 33)) g V R A) := hv.below hB1
  have HL : Hid (Calls Try.prog 38 #[nP g, hV f t, .int .i64 i] (w.alloc (.cells #[.int .i64 f, .int .i64 t] 33)) fun e w' => e = .returned (.int .i64 (lookI R f t i)) ∧ Below (w.alloc (.cells #[.int .i64 f, .int .i64 t] 33)).heap.size (w.alloc (.cells #[.int .i64 f, .int .i64 t] 33)) w') := look_any f t i HV.out
  have HZ : Hid (∀ w', Below (w.alloc (.cells #[.int .i64 f, .int .i64 t] 33)).heap.size (w.alloc (.cells #[.int .i64 f, .int .i64 t] 33)) w' → w'.cell? ⟨w.heap.size, 0, none⟩ = some (.int .i64 f) ∧ w'.cell? ⟨w.heap.size, 1, none⟩ = some (.int .i64 t)) := fun w' h =>
    ⟨(h.cell (p := ⟨w.heap.size, 0, none⟩) (by simp)).trans (by simp), (h.cell (p := ⟨w.heap.size, 1, none⟩) (by simp)).trans (by simp)⟩
  clear hB1
  by_cases hl : lookI R f t i = 0
  · have e0 : loseR R f t i = up R (rix f t) (cutP (R (rix f t)) i.toNat) := by unfold loseR; rw [if_pos hl]
    obtain ⟨hh, k, rfl, hk⟩ := look_ok hl
    have HD : Hid (∀ w', Below w.heap.size w w' → Calls Try.prog 39 #[nP g, hV f t, .int .i64 (k : Int)] w' fun e w'' => NP base w g V (loseR R f t k) A (.tuple #[]) e w'') := fun w' hb => by
      rw [e0]
      exact (drop_any f t k (hv.below hb) hc hh hk).mono fun e w'' h => h.before hb
    rw [hl] at HL ⊢
    clear hv hc hl e0 hh hk
    generalize loseR R f t k = R' at *
    go_enter Try.func24, Try.ntmps24
    go_wp2_with fail
    refine HL.out.mono ?_
    rintro e w1 ⟨rfl, hb⟩
    obtain ⟨z0, z1⟩ := HZ.out w1 hb
    have HB1 : Hid (Below w.heap.size w w1) := HB.out.trans (hb.mono HB.out.size)
    clear hb
    go_wp2_with fail
    refine (HD.out w1 HB1.out).mono ?_
    rintro e w2 ⟨rfl, h⟩
    have HH : Hid (∃ V', NetV base w2 g V' R' A ∧ NStep w g V V' w2) := h
    clear h z0 z1
    go_wp2
    go_ret
    exact ⟨rfl, HH.out⟩
  · have e0 : loseR R f t i = R := by unfold loseR; rw [if_neg hl]
    have dn : (lookI R f t i != 0) = true := by rw [bne_iff_ne]; exact hl
    rw [e0]
    have HE : Hid (∀ w', Below w.heap.size w w' → NetV base w' g V R A ∧ NStep w g V V w') := fun w' hb => ⟨hv.below hb, NStep.of g V hb⟩
    clear hv hc hl e0
    generalize lookI R f t i = E at *
    go_enter Try.func24, Try.ntmps24
    go_wp2_with fail
    refine HL.out.mono ?_
    rintro e w1 ⟨rfl, hb⟩
    have HB1 : Hid (Below w.heap.size w w1) := HB.out.trans (hb.mono HB.out.size)
    clear hb
    go_wp2
    go_ret
    exact ⟨rfl, V, HE.out w1 HB1.out⟩
/-- What is answered to a take, and which packet. -/
def takeE (R : Nat → List Pk) (A : Nat → Bool) (f t i : Int) : Int := if lookI R f t i = 0 then (if A (rix f t) = true then 12 else 0) else lookI R f t i
def takeP (R : Nat → List Pk) (A : Nat → Bool) (f t i : Int) : Pk := if takeE R A f t i = 0 then (R (rix f t))[i.toNat]?.getD zP else zP
def takeR (R : Nat → List Pk) (A : Nat → Bool) (f t i : Int) : Nat → List Pk := if takeE R A f t i = 0 then up R (rix f t) (cutP (R (rix f t)) i.toNat) else R
theorem set7_b {B : Nat} {w0 w : World} {b : Nat} (h : Below B w0 w) (hb : B ≤ b) (x0 x1 x2 x3 x4 x5 x6 : Value) : Below B w0 (((((((w.setCell ⟨b, 0, none⟩ x0).setCell ⟨b, 1, none⟩ x1).setCell ⟨b, 2, none⟩ x2).setCell ⟨b, 3, none⟩ x3).setCell ⟨b, 4, none⟩ x4).setCell ⟨b, 5, none⟩ x5).setCell ⟨b, 6, none⟩ x6) :=
  ((((((h.setCell (p := ⟨b, 0, none⟩) hb _).setCell (p := ⟨b, 1, none⟩) hb _).setCell (p := ⟨b, 2, none⟩) hb _).setCell (p := ⟨b, 3, none⟩) hb _).setCell (p := ⟨b, 4, none⟩) hb _).setCell (p := ⟨b, 5, none⟩) hb _).setCell (p := ⟨b, 6, none⟩) hb _
set_option maxRecDepth 100000 in
set_option maxHeartbeats 2000000 in
theorem take_no {base : Nat} {w : World} {g : Nat} {V : Nat → Value} {R : Nat → List Pk} {A : Nat → Bool} (f t i : Int) (hv : NetV base w g V R A) (hl : lookI R f t i ≠ 0) :
    Calls Try.prog 19 #[nP g, hV f t, .int .i64 i] w fun e w' => NP base w g V R A (.tuple #[pV zP, .int .i64 (lookI R f t i)]) e w' := by
  have hB1 : Below w.heap.size w ((w.alloc (.cells #[.int .i64 f, .int .i64 t] 33)).alloc (.cells (pA zP) 31)) := (al_b w _).trans ((al_b _ _).mono (by simp))
  have HB : Hid (Below w.heap.size w ((w.alloc (.cells #[.int .i64 f, .int .i64 t] 33)).alloc (.cells (pA zP) 31))) := hB1
  have HV : Hid (NetV base ((w.alloc (.cells #[.int .i64 f, .int .i64 t] 33)).alloc (.cells (pA zP) 31)) g V R A) := hv.below hB1
  have HL : Hid (Calls Try.prog 38 #[nP g, hV f t, .int .i64 i] ((w.alloc (.cells #[.int .i64 f, .int .i64 t] 33)).alloc (.cells (pA zP) 31)) fun e w' => e = .returned (.int .i64 (lookI R f t i)) ∧ Below ((w.alloc (.cells #[.int .i64 f, .int .i64 t] 33)).alloc (.cells (pA zP) 31)).heap.size ((w.alloc (.cells #[.int .i64 f, .int .i64 t] 33)).alloc (.cells (pA zP) 31)) w') := look_any f t i HV.out
  have HZ : Hid (∀ w', Below ((w.alloc (.cells #[.int .i64 f, .int .i64 t] 33)).alloc (.cells (pA zP) 31)).heap.size ((w.alloc (.cells #[.int .i64 f, .int .i64 t] 33)).alloc (.cells (pA zP) 31)) w' → w'.heap[w.heap.size + 1]? = some (.cells (pA zP) 31 (0, 0))) := fun w' h => (h.block _ (by simp)).trans (by show ((w.heap.push _).push _)[w.heap.size + 1]? = _; rw [Array.getElem?_push, if_pos (by simp)])
  have HE : Hid (∀ w', Below w.heap.size w w' → NetV base w' g V R A ∧ NStep w g V V w') := fun w' hb => ⟨hv.below hb, NStep.of g V hb⟩
  have dn : (lookI R f t i != 0) = true := by rw [bne_iff_ne]; exact hl
  clear hB1 hv hl
  generalize lookI R f t i = E at *
  dsimp only [pA, zP] at *
  go_enter Try.func19, Try.ntmps19
  go_wp2_with fail
  refine HL.out.mono ?_
  rintro e w1 ⟨rfl, hb⟩
  have hz := HZ.out w1 hb
  have HB1 : Hid (Below w.heap.size w w1) := HB.out.trans (hb.mono HB.out.size)
  have y0 : w1.cell? ⟨w.heap.size + 1, 0, none⟩ = some (.int .i64 0) := by rw [Lib.cell_of_heap hz]; rfl
  have y1 : w1.cell? ⟨w.heap.size + 1, 1, none⟩ = some (.int .i64 0) := by rw [Lib.cell_of_heap hz]; rfl
  have y2 : w1.cell? ⟨w.heap.size + 1, 2, none⟩ = some (.int .i64 0) := by rw [Lib.cell_of_heap hz]; rfl
  have y3 : w1.cell? ⟨w.heap.size + 1, 3, none⟩ = some (.int .i64 0) := by rw [Lib.cell_of_heap hz]; rfl
  have y4 : w1.cell? ⟨w.heap.size + 1, 4, none⟩ = some (.int .i64 0) := by rw [Lib.cell_of_heap hz]; rfl
  have y5 : w1.cell? ⟨w.heap.size + 1, 5, none⟩ = some (.int .i64 0) := by rw [Lib.cell_of_heap hz]; rfl
  have y6 : w1.cell? ⟨w.heap.size + 1, 6, none⟩ = some (.string ⟨#[]⟩) := by rw [Lib.cell_of_heap hz]; rfl
  have fr : ∀ o, w1.frozen? ⟨w.heap.size + 1, o, none⟩ = false := fun o => by simp [World.frozen?, hz]
  clear hb hz
  go_wp2
  try simp only [Exit.inBlock, Exit.then]
  refine bodyPost_ret (v := .tuple #[pV zP, .int .i64 E]) ?_ rfl ⟨rfl, V, HE.out _ (set7_b HB1.out (by omega) _ _ _ _ _ _ _)⟩
  rw [results_cell_tmp rfl]; go_simp
  exact ⟨rfl, rfl, rfl, rfl, rfl, rfl, rfl⟩
end Go.Proofs.Ythbhgblgacoklaa
