/- The net's Take where there is a packet: walks. -/
import Derived.Test.YthbhgblgacoklaaHH
namespace Go.Proofs.Ythbhgblgacoklaa
open Go.RowKit

set_option maxRecDepth 100000 in
set_option maxHeartbeats 2000000 in
theorem take_apart {base : Nat} {w : World} {g : Nat} {V : Nat → Value} {R : Nat → List Pk} {A : Nat → Bool} (f t i : Int) (hv : NetV base w g V R A) (hl : lookI R f t i = 0) (ha : A (rix f t) = true) :
    Calls Try.prog 19 #[nP g, hV f t, .int .i64 i] w fun e w' => NP base w g V R A (.tuple #[pV zP, .int .i64 12]) e w' := by
  obtain ⟨hh, k, rfl, hk⟩ := look_ok hl
  obtain ⟨a, b, rfl, rfl, h1, h2, h3, h4, h5⟩ := hop_nat hh
  rw [rix_nat] at ha hk
  have hB1 : Below w.heap.size w ((w.alloc (.cells #[.int .i64 a, .int .i64 b] 33)).alloc (.cells (pA zP) 31)) := (al_b w _).trans ((al_b _ _).mono (by simp))
  have HB : Hid (Below w.heap.size w ((w.alloc (.cells #[.int .i64 a, .int .i64 b] 33)).alloc (.cells (pA zP) 31))) := hB1
  have HL : Hid (Calls Try.prog 38 #[nP g, hV a b, .int .i64 (k : Int)] ((w.alloc (.cells #[.int .i64 a, .int .i64 b] 33)).alloc (.cells (pA zP) 31)) fun e w' => e = .returned (.int .i64 0) ∧ Below ((w.alloc (.cells #[.int .i64 a, .int .i64 b] 33)).alloc (.cells (pA zP) 31)).heap.size ((w.alloc (.cells #[.int .i64 a, .int .i64 b] 33)).alloc (.cells (pA zP) 31)) w') := by
    have := look_any a b k (hv.below hB1)
    rw [hl] at this
    exact this
  have HZ : Hid (∀ w', Below ((w.alloc (.cells #[.int .i64 a, .int .i64 b] 33)).alloc (.cells (pA zP) 31)).heap.size ((w.alloc (.cells #[.int .i64 a, .int .i64 b] 33)).alloc (.cells (pA zP) 31)) w' → w'.heap[w.heap.size + 1]? = some (.cells (pA zP) 31 (0, 0)) ∧ w'.heap[w.heap.size]? = some (.cells #[.int .i64 a, .int .i64 b] 33 (0, 0))) := fun w' h => ⟨(h.block _ (by simp)).trans (by show ((w.heap.push _).push _)[w.heap.size + 1]? = _; rw [Array.getElem?_push, if_pos (by simp)]), (h.block _ (by simp; omega)).trans (by show ((w.heap.push _).push _)[w.heap.size]? = _; rw [Array.getElem?_push, if_neg (by simp), Array.getElem?_push, if_pos rfl])⟩
  have HE : Hid (∀ w', Below w.heap.size w w' → NetV base w' g V R A ∧ NStep w g V V w') := fun w' hb => ⟨hv.below hb, NStep.of g V hb⟩
  have q1 : (0 : Int) ≤ (a : Int) := by omega
  have q2 : (a : Int) < 16 := by omega
  have q3 : (0 : Int) ≤ (b : Int) := by omega
  have q4 : (b : Int) < 16 := by omega
  clear hB1 hv hl hh hk
  dsimp only [pA, zP] at *
  go_enter Try.func19, Try.ntmps19
  go_wp2_with fail
  refine HL.out.mono ?_
  rintro e w1 ⟨rfl, hb⟩
  obtain ⟨hz, hz2⟩ := HZ.out w1 hb
  have HB1 : Hid (Below w.heap.size w w1) := HB.out.trans (hb.mono HB.out.size)
  obtain ⟨-, ca, -, -, -⟩ := (HE.out w1 HB1.out).1.cell (a * 16 + b) (by omega)
  rw [ha, ← Nat.add_assoc] at ca
  have x0 : w1.cell? ⟨w.heap.size, 0, none⟩ = some (.int .i64 a) := by rw [Lib.cell_of_heap hz2]; rfl
  have x1 : w1.cell? ⟨w.heap.size, 1, none⟩ = some (.int .i64 b) := by rw [Lib.cell_of_heap hz2]; rfl
  have y0 : w1.cell? ⟨w.heap.size + 1, 0, none⟩ = some (.int .i64 0) := by rw [Lib.cell_of_heap hz]; rfl
  have y1 : w1.cell? ⟨w.heap.size + 1, 1, none⟩ = some (.int .i64 0) := by rw [Lib.cell_of_heap hz]; rfl
  have y2 : w1.cell? ⟨w.heap.size + 1, 2, none⟩ = some (.int .i64 0) := by rw [Lib.cell_of_heap hz]; rfl
  have y3 : w1.cell? ⟨w.heap.size + 1, 3, none⟩ = some (.int .i64 0) := by rw [Lib.cell_of_heap hz]; rfl
  have y4 : w1.cell? ⟨w.heap.size + 1, 4, none⟩ = some (.int .i64 0) := by rw [Lib.cell_of_heap hz]; rfl
  have y5 : w1.cell? ⟨w.heap.size + 1, 5, none⟩ = some (.int .i64 0) := by rw [Lib.cell_of_heap hz]; rfl
  have y6 : w1.cell? ⟨w.heap.size + 1, 6, none⟩ = some (.string ⟨#[]⟩) := by rw [Lib.cell_of_heap hz]; rfl
  have fr : ∀ o, w1.frozen? ⟨w.heap.size + 1, o, none⟩ = false := fun o => by simp [World.frozen?, hz]
  clear hb hz hz2
  go_wp2_with fail
  go_quiet (fail)
  go_wp2
  try simp only [Exit.inBlock, Exit.then]
  refine bodyPost_ret (v := .tuple #[pV zP, .int .i64 12]) ?_ rfl ⟨rfl, V, HE.out _ (set7_b (drewN_b HB1.out _) (by omega) _ _ _ _ _ _ _)⟩
  rw [results_cell_tmp rfl]; go_simp
  exact ⟨rfl, rfl, rfl, rfl, rfl, rfl, rfl⟩
end Go.Proofs.Ythbhgblgacoklaa
