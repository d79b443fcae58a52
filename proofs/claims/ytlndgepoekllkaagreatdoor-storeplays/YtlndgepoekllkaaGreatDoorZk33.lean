/- The reference's Set where it refuses: its walk. -/
import Derived.Test.YtlndgepoekllkaaGreatDoorZk22
import Derived.Test.YtlndgepoekllkaaGreatDoorZk28
import Derived.Test.YtlndgepoekllkaaGreatDoorZk16
namespace Go.Proofs.YtlndgepoekllkaaGreatDoor
open Go.RowKit Go.ChangeMaps

set_option maxRecDepth 100000 in
set_option maxHeartbeats 4000000 in
theorem set17_bad (v : Value) (M : List KR) (o : LT) (w : World) (hr : IsRow w 10 v M.length (kCells M)) (hl : M.length ≤ 1000) (hN : ∀ k ∈ M, k.y.t.n.size ≤ 1000000) (ho : IsTy w o.t o.vo o.va o.vc) (hq : NmQ o.t) (hn : o.t.n.size ≤ 1000000) (hP : chkT o.t = false) :
    Calls Tryz.prog 19 #[.agg #[v], ltV o] w fun e w' => e = .returned (.tuple #[.agg #[v], .int .i64 1]) ∧ Below w.heap.size w w' := by
  obtain ⟨a0, c0, rfl⟩ := hr.form
  have HCh : Hid (∀ W, Below w.heap.size w W → Calls Tryz.prog 44 #[ltV o] W fun e w' => e = .returned (.bool false) ∧ Below W.heap.size W w') := fun W hb => by
    have := refChk_any o W (ho.below hb) hq
    rw [hP] at this
    exact this
  have HFi : Hid (∀ W, Below w.heap.size w W → Calls Tryz.prog 32 #[.agg #[.slice a0 M.length c0], .string o.t.n] W fun e w' => e = .returned (.int .i64 (fndZ M o.t.n)) ∧ Below W.heap.size W w') := fun W hb => find17_any _ M _ W (hr.below hb) hl hN hn
  clear hr hN hn ho hq hP
  obtain ⟨⟨tn, tp, town, tall, tch, tnd, tlf, tsq⟩, ao, co, aa, ca, ac, cc⟩ := o
  dsimp only at *
  generalize fndZ M tn = Z at *
  obtain ⟨w1, hw1⟩ : ∃ w1, w1 = w.alloc (.cells #[.slice a0 M.length c0] 27) := ⟨_, rfl⟩
  have B1 : Hid (Below w.heap.size w w1) := by show Below _ _ _; rw [hw1]; exact al_b _ _
  have hn1 : w1.heap[w.heap.size]? = some (.cells #[.slice a0 M.length c0] 27 (0, 0)) := by rw [hw1]; exact new_at _ _
  have C1 : Hid (∀ W, Below w1.heap.size w1 W → W.heap[w.heap.size]? = some (.cells #[.slice a0 M.length c0] 27 (0, 0))) := fun W h => (h.block _ (Array.getElem?_eq_some_iff.1 hn1).1).trans hn1
  clear hn1
  obtain ⟨w2, hw2⟩ : ∃ w2, w2 = w1.alloc (.cells #[.string tn, .string tp, .slice ao town.length co, .slice aa tall.length ca, .slice ac tch.length cc, .int .i64 tnd, .int .i64 tlf, .int .i64 tsq] 63) := ⟨_, rfl⟩
  have B2 : Hid (Below w1.heap.size w1 w2) := by show Below _ _ _; rw [hw2]; exact al_b _ _
  have hn2 : w2.heap[(w.heap.size + 1)]? = some (.cells #[.string tn, .string tp, .slice ao town.length co, .slice aa tall.length ca, .slice ac tch.length cc, .int .i64 tnd, .int .i64 tlf, .int .i64 tsq] 63 (0, 0)) := by rw [hw2]; rw [show w.heap.size + 1 = w1.heap.size by (rw [hw1]; simp)]; exact new_at _ _
  have C2 : Hid (∀ W, Below w2.heap.size w2 W → W.heap[(w.heap.size + 1)]? = some (.cells #[.string tn, .string tp, .slice ao town.length co, .slice aa tall.length ca, .slice ac tch.length cc, .int .i64 tnd, .int .i64 tlf, .int .i64 tsq] 63 (0, 0))) := fun W h => (h.block _ (Array.getElem?_eq_some_iff.1 hn2).1).trans hn2
  clear hn2
  obtain ⟨w3, hw3⟩ : ∃ w3, w3 = w2.alloc (.cells #[.slice none 0 0] 27) := ⟨_, rfl⟩
  have B3 : Hid (Below w2.heap.size w2 w3) := by show Below _ _ _; rw [hw3]; exact al_b _ _
  have hn3 : w3.heap[(w.heap.size + 2)]? = some (.cells #[.slice none 0 0] 27 (0, 0)) := by rw [hw3]; rw [show w.heap.size + 2 = w2.heap.size by (rw [hw2, hw1]; simp)]; exact new_at _ _
  have C3 : Hid (∀ W, Below w3.heap.size w3 W → W.heap[(w.heap.size + 2)]? = some (.cells #[.slice none 0 0] 27 (0, 0))) := fun W h => (h.block _ (Array.getElem?_eq_some_iff.1 hn3).1).trans hn3
  clear hn3
  have Btq : Hid (Below w1.heap.size w1 w3) := B2.out.trans (B3.out.mono B2.out.size)
  have HBw0 : Hid (Below w.heap.size w w3) := B1.out.trans (Btq.out.mono B1.out.size)
  have HCA : Hid (∀ W, Below w3.heap.size w3 W → W.cell? ⟨w.heap.size, 0, none⟩ = some (.slice a0 M.length c0) ∧ W.cell? ⟨w.heap.size + 1, 0, none⟩ = some (.string tn) ∧ W.cell? ⟨w.heap.size + 1, 1, none⟩ = some (.string tp) ∧ W.cell? ⟨w.heap.size + 1, 2, none⟩ = some (.slice ao town.length co) ∧ W.cell? ⟨w.heap.size + 1, 3, none⟩ = some (.slice aa tall.length ca) ∧ W.cell? ⟨w.heap.size + 1, 4, none⟩ = some (.slice ac tch.length cc) ∧ W.cell? ⟨w.heap.size + 1, 5, none⟩ = some (.int .i64 tnd) ∧ W.cell? ⟨w.heap.size + 1, 6, none⟩ = some (.int .i64 tlf) ∧ W.cell? ⟨w.heap.size + 1, 7, none⟩ = some (.int .i64 tsq) ∧ W.cell? ⟨w.heap.size + 2, 0, none⟩ = some (.slice none 0 0) ∧ ∀ j, W.frozen? ⟨w.heap.size + 2, j, none⟩ = false) := fun W hb => by
    have h1 := C1.out W (Btq.out.trans (hb.mono Btq.out.size))
    have h2 := C2.out W (B3.out.trans (hb.mono B3.out.size))
    have h3 := C3.out W hb
    have c : ∀ j, W.cell? ⟨w.heap.size + 1, j, none⟩ = (#[.string tn, .string tp, .slice ao town.length co, .slice aa tall.length ca, .slice ac tch.length cc, .int .i64 tnd, .int .i64 tlf, .int .i64 tsq] : Array Value)[j]? := fun j => by rw [Lib.cell_of_heap h2]
    exact ⟨by rw [Lib.cell_of_heap h1]; rfl, c 0, c 1, c 2, c 3, c 4, c 5, c 6, c 7, by rw [Lib.cell_of_heap h3]; rfl, fun j => Lib.frozen_of_heap h3 j⟩
  obtain ⟨cb, t0, t1, t2, t3, t4, t5, t6, t7, cr, fz⟩ := HCA.out w3 (Below.refl _ _)
  rw [hw3, hw2, hw1] at cb t0 t1 t2 t3 t4 t5 t6 t7 cr fz
  go_enter Tryz.func19, Tryz.ntmps19
  go_wp2_with fail
  rw [← hw1, ← hw2, ← hw3]
  clear hw1 hw2 hw3 cb t0 t1 t2 t3 t4 t5 t6 t7 cr fz
  refine (HCh.out _ HBw0.out).mono ?_
  rintro e w5 ⟨rfl, hb⟩
  have B5 : Hid (Below w3.heap.size w3 w5) := hb
  clear hb
  obtain ⟨cb, t0, t1, t2, t3, t4, t5, t6, t7, cr, fz⟩ := HCA.out _ B5.out
  have H5 : Hid (Below w.heap.size w w5) := HBw0.out.trans (B5.out.mono HBw0.out.size)
  have HE : Hid (∀ u, Below w.heap.size w (w5.setCell ⟨w.heap.size + 2, 0, none⟩ u)) := fun u => H5.out.setCell (p := ⟨w.heap.size + 2, 0, none⟩) (Nat.le_add_right _ 2) u
  clear HCh HFi HCA
  go_wp2_with fail
  try simp only [Exit.inBlock, Exit.then]
  refine bodyPost_ret (v := .tuple #[.agg #[.slice a0 M.length c0], .int .i64 1]) ?_ rfl ⟨rfl, HE.out _⟩
  rw [results_c2 rfl]; go_simp
  first | done | exact ⟨rfl, rfl⟩
set_option maxRecDepth 100000 in
set_option maxHeartbeats 4000000 in
theorem set17_full (v : Value) (M : List KR) (o : LT) (w : World) (hr : IsRow w 10 v M.length (kCells M)) (hl : M.length ≤ 1000) (hN : ∀ k ∈ M, k.y.t.n.size ≤ 1000000) (ho : IsTy w o.t o.vo o.va o.vc) (hq : NmQ o.t) (hn : o.t.n.size ≤ 1000000) (hP : chkT o.t = true) (hF : fndZ M o.t.n < 0) (h2 : 200 ≤ M.length) :
    Calls Tryz.prog 19 #[.agg #[v], ltV o] w fun e w' => e = .returned (.tuple #[.agg #[v], .int .i64 6]) ∧ Below w.heap.size w w' := by
  obtain ⟨a0, c0, rfl⟩ := hr.form
  have HCh : Hid (∀ W, Below w.heap.size w W → Calls Tryz.prog 44 #[ltV o] W fun e w' => e = .returned (.bool true) ∧ Below W.heap.size W w') := fun W hb => by
    have := refChk_any o W (ho.below hb) hq
    rw [hP] at this
    exact this
  have HFi : Hid (∀ W, Below w.heap.size w W → Calls Tryz.prog 32 #[.agg #[.slice a0 M.length c0], .string o.t.n] W fun e w' => e = .returned (.int .i64 (fndZ M o.t.n)) ∧ Below W.heap.size W w') := fun W hb => find17_any _ M _ W (hr.below hb) hl hN hn
  clear hr hN hn ho hq hP
  obtain ⟨⟨tn, tp, town, tall, tch, tnd, tlf, tsq⟩, ao, co, aa, ca, ac, cc⟩ := o
  dsimp only at *
  generalize fndZ M tn = Z at *
  obtain ⟨w1, hw1⟩ : ∃ w1, w1 = w.alloc (.cells #[.slice a0 M.length c0] 27) := ⟨_, rfl⟩
  have B1 : Hid (Below w.heap.size w w1) := by show Below _ _ _; rw [hw1]; exact al_b _ _
  have hn1 : w1.heap[w.heap.size]? = some (.cells #[.slice a0 M.length c0] 27 (0, 0)) := by rw [hw1]; exact new_at _ _
  have C1 : Hid (∀ W, Below w1.heap.size w1 W → W.heap[w.heap.size]? = some (.cells #[.slice a0 M.length c0] 27 (0, 0))) := fun W h => (h.block _ (Array.getElem?_eq_some_iff.1 hn1).1).trans hn1
  clear hn1
  obtain ⟨w2, hw2⟩ : ∃ w2, w2 = w1.alloc (.cells #[.string tn, .string tp, .slice ao town.length co, .slice aa tall.length ca, .slice ac tch.length cc, .int .i64 tnd, .int .i64 tlf, .int .i64 tsq] 63) := ⟨_, rfl⟩
  have B2 : Hid (Below w1.heap.size w1 w2) := by show Below _ _ _; rw [hw2]; exact al_b _ _
  have hn2 : w2.heap[(w.heap.size + 1)]? = some (.cells #[.string tn, .string tp, .slice ao town.length co, .slice aa tall.length ca, .slice ac tch.length cc, .int .i64 tnd, .int .i64 tlf, .int .i64 tsq] 63 (0, 0)) := by rw [hw2]; rw [show w.heap.size + 1 = w1.heap.size by (rw [hw1]; simp)]; exact new_at _ _
  have C2 : Hid (∀ W, Below w2.heap.size w2 W → W.heap[(w.heap.size + 1)]? = some (.cells #[.string tn, .string tp, .slice ao town.length co, .slice aa tall.length ca, .slice ac tch.length cc, .int .i64 tnd, .int .i64 tlf, .int .i64 tsq] 63 (0, 0))) := fun W h => (h.block _ (Array.getElem?_eq_some_iff.1 hn2).1).trans hn2
  clear hn2
  obtain ⟨w3, hw3⟩ : ∃ w3, w3 = w2.alloc (.cells #[.slice none 0 0] 27) := ⟨_, rfl⟩
  have B3 : Hid (Below w2.heap.size w2 w3) := by show Below _ _ _; rw [hw3]; exact al_b _ _
  have hn3 : w3.heap[(w.heap.size + 2)]? = some (.cells #[.slice none 0 0] 27 (0, 0)) := by rw [hw3]; rw [show w.heap.size + 2 = w2.heap.size by (rw [hw2, hw1]; simp)]; exact new_at _ _
  have C3 : Hid (∀ W, Below w3.heap.size w3 W → W.heap[(w.heap.size + 2)]? = some (.cells #[.slice none 0 0] 27 (0, 0))) := fun W h => (h.block _ (Array.getElem?_eq_some_iff.1 hn3).1).trans hn3
  clear hn3
  have Btq : Hid (Below w1.heap.size w1 w3) := B2.out.trans (B3.out.mono B2.out.size)
  have HBw0 : Hid (Below w.heap.size w w3) := B1.out.trans (Btq.out.mono B1.out.size)
  have HCA : Hid (∀ W, Below w3.heap.size w3 W → W.cell? ⟨w.heap.size, 0, none⟩ = some (.slice a0 M.length c0) ∧ W.cell? ⟨w.heap.size + 1, 0, none⟩ = some (.string tn) ∧ W.cell? ⟨w.heap.size + 1, 1, none⟩ = some (.string tp) ∧ W.cell? ⟨w.heap.size + 1, 2, none⟩ = some (.slice ao town.length co) ∧ W.cell? ⟨w.heap.size + 1, 3, none⟩ = some (.slice aa tall.length ca) ∧ W.cell? ⟨w.heap.size + 1, 4, none⟩ = some (.slice ac tch.length cc) ∧ W.cell? ⟨w.heap.size + 1, 5, none⟩ = some (.int .i64 tnd) ∧ W.cell? ⟨w.heap.size + 1, 6, none⟩ = some (.int .i64 tlf) ∧ W.cell? ⟨w.heap.size + 1, 7, none⟩ = some (.int .i64 tsq) ∧ W.cell? ⟨w.heap.size + 2, 0, none⟩ = some (.slice none 0 0) ∧ ∀ j, W.frozen? ⟨w.heap.size + 2, j, none⟩ = false) := fun W hb => by
    have h1 := C1.out W (Btq.out.trans (hb.mono Btq.out.size))
    have h2 := C2.out W (B3.out.trans (hb.mono B3.out.size))
    have h3 := C3.out W hb
    have c : ∀ j, W.cell? ⟨w.heap.size + 1, j, none⟩ = (#[.string tn, .string tp, .slice ao town.length co, .slice aa tall.length ca, .slice ac tch.length cc, .int .i64 tnd, .int .i64 tlf, .int .i64 tsq] : Array Value)[j]? := fun j => by rw [Lib.cell_of_heap h2]
    exact ⟨by rw [Lib.cell_of_heap h1]; rfl, c 0, c 1, c 2, c 3, c 4, c 5, c 6, c 7, by rw [Lib.cell_of_heap h3]; rfl, fun j => Lib.frozen_of_heap h3 j⟩
  obtain ⟨cb, t0, t1, t2, t3, t4, t5, t6, t7, cr, fz⟩ := HCA.out w3 (Below.refl _ _)
  rw [hw3, hw2, hw1] at cb t0 t1 t2 t3 t4 t5 t6 t7 cr fz
  go_enter Tryz.func19, Tryz.ntmps19
  go_wp2_with fail
  rw [← hw1, ← hw2, ← hw3]
  clear hw1 hw2 hw3 cb t0 t1 t2 t3 t4 t5 t6 t7 cr fz
  refine (HCh.out _ HBw0.out).mono ?_
  rintro e w5 ⟨rfl, hb⟩
  have B5 : Hid (Below w3.heap.size w3 w5) := hb
  clear hb
  obtain ⟨cb, t0, t1, t2, t3, t4, t5, t6, t7, cr, fz⟩ := HCA.out _ B5.out
  have H5 : Hid (Below w.heap.size w w5) := HBw0.out.trans (B5.out.mono HBw0.out.size)
  go_wp2_with fail
  refine (HFi.out _ H5.out).mono ?_
  rintro e w6 ⟨rfl, hb⟩
  have B6 : Hid (Below w3.heap.size w3 w6) := B5.out.trans (hb.mono B5.out.size)
  clear hb cb t0 t1 t2 t3 t4 t5 t6 t7 cr fz
  have dz : decide (Z < 0) = true := decide_eq_true hF
  have dz2 : decide (0 ≤ Z) = false := decide_eq_false (by omega)
  have dl : decide ((200 : Int) ≤ (M.length : Int)) = true := decide_eq_true (by omega)
  go_wp2_with fail
  refine wp_region_quiet (C := fun w' => Below w6.heap.size w6 w') (by kernel_rfl) (by kernel_rfl) ((Below.refl _ _).drew) ?_
  dsimp only
  repeat (first
    | go_big_quiet_skip
    | (go_big_quiet_want
       apply Exists.intro
       refine ⟨fun W' hW' => ?_, ?_⟩
       · have hw : Below w6.heap.size w6 W' := hW'
         go_simp
         first
           | done
           | rfl
       go_big_quiet_on
       try simp only [Act.put, List.setIfInBounds_toArray, List.set_cons_zero, List.set_cons_succ]))
  refine wpQuiet_nil ?_
  intro w7 hb7
  have B7 : Hid (Below w3.heap.size w3 w7) := B6.out.trans (Below.mono hb7 B6.out.size)
  clear hb7
  obtain ⟨cb, t0, t1, t2, t3, t4, t5, t6, t7, cr, fz⟩ := HCA.out _ B7.out
  have H7 : Hid (Below w.heap.size w w7) := HBw0.out.trans (B7.out.mono HBw0.out.size)
  have HE : Hid (∀ u, Below w.heap.size w (w7.setCell ⟨w.heap.size + 2, 0, none⟩ u)) := fun u => H7.out.setCell (p := ⟨w.heap.size + 2, 0, none⟩) (Nat.le_add_right _ 2) u
  clear HCh HFi HCA
  go_wp2_with fail
  try simp only [Exit.inBlock, Exit.then]
  refine bodyPost_ret (v := .tuple #[.agg #[.slice a0 M.length c0], .int .i64 6]) ?_ rfl ⟨rfl, HE.out _⟩
  rw [results_c2 rfl]; go_simp
  first | done | exact ⟨rfl, rfl⟩
end Go.Proofs.YtlndgepoekllkaaGreatDoor
/- The reference's Put where it refuses: its walk. -/
namespace Go.Proofs.YtlndgepoekllkaaGreatDoor
open Go.RowKit Go.ChangeMaps

set_option maxRecDepth 100000 in
set_option maxHeartbeats 4000000 in
theorem put17_bad (v : Value) (M : List KR) (o : LT) (w : World) (hr : IsRow w 10 v M.length (kCells M)) (hl : M.length ≤ 1000) (hN : ∀ k ∈ M, k.y.t.n.size ≤ 1000000) (ho : IsTy w o.t o.vo o.va o.vc) (hq : NmQ o.t) (hn : o.t.n.size ≤ 1000000) (hP : chkT o.t = false) :
    Calls Tryz.prog 16 #[.agg #[v], ltV o] w fun e w' => e = .returned (.agg #[v, .string ⟨#[]⟩, .string ⟨#[]⟩, .slice none 0 0, .slice none 0 0, .slice none 0 0, .int .i64 0, .int .i64 0, .int .i64 0, .int .i64 1]) ∧ Below w.heap.size w w' := by
  obtain ⟨a0, c0, rfl⟩ := hr.form
  have HCh : Hid (∀ W, Below w.heap.size w W → Calls Tryz.prog 44 #[ltV o] W fun e w' => e = .returned (.bool false) ∧ Below W.heap.size W w') := fun W hb => by
    have := refChk_any o W (ho.below hb) hq
    rw [hP] at this
    exact this
  have HFi : Hid (∀ W, Below w.heap.size w W → Calls Tryz.prog 32 #[.agg #[.slice a0 M.length c0], .string o.t.n] W fun e w' => e = .returned (.int .i64 (fndZ M o.t.n)) ∧ Below W.heap.size W w') := fun W hb => find17_any _ M _ W (hr.below hb) hl hN hn
  clear hr hN hn ho hq hP
  obtain ⟨⟨tn, tp, town, tall, tch, tnd, tlf, tsq⟩, ao, co, aa, ca, ac, cc⟩ := o
  dsimp only at *
  generalize fndZ M tn = Z at *
  obtain ⟨w1, hw1⟩ : ∃ w1, w1 = w.alloc (.cells #[.slice a0 M.length c0] 27) := ⟨_, rfl⟩
  have B1 : Hid (Below w.heap.size w w1) := by show Below _ _ _; rw [hw1]; exact al_b _ _
  have hn1 : w1.heap[w.heap.size]? = some (.cells #[.slice a0 M.length c0] 27 (0, 0)) := by rw [hw1]; exact new_at _ _
  have C1 : Hid (∀ W, Below w1.heap.size w1 W → W.heap[w.heap.size]? = some (.cells #[.slice a0 M.length c0] 27 (0, 0))) := fun W h => (h.block _ (Array.getElem?_eq_some_iff.1 hn1).1).trans hn1
  clear hn1
  obtain ⟨w2, hw2⟩ : ∃ w2, w2 = w1.alloc (.cells #[.string tn, .string tp, .slice ao town.length co, .slice aa tall.length ca, .slice ac tch.length cc, .int .i64 tnd, .int .i64 tlf, .int .i64 tsq] 63) := ⟨_, rfl⟩
  have B2 : Hid (Below w1.heap.size w1 w2) := by show Below _ _ _; rw [hw2]; exact al_b _ _
  have hn2 : w2.heap[(w.heap.size + 1)]? = some (.cells #[.string tn, .string tp, .slice ao town.length co, .slice aa tall.length ca, .slice ac tch.length cc, .int .i64 tnd, .int .i64 tlf, .int .i64 tsq] 63 (0, 0)) := by rw [hw2]; rw [show w.heap.size + 1 = w1.heap.size by (rw [hw1]; simp)]; exact new_at _ _
  have C2 : Hid (∀ W, Below w2.heap.size w2 W → W.heap[(w.heap.size + 1)]? = some (.cells #[.string tn, .string tp, .slice ao town.length co, .slice aa tall.length ca, .slice ac tch.length cc, .int .i64 tnd, .int .i64 tlf, .int .i64 tsq] 63 (0, 0))) := fun W h => (h.block _ (Array.getElem?_eq_some_iff.1 hn2).1).trans hn2
  clear hn2
  obtain ⟨w3, hw3⟩ : ∃ w3, w3 = w2.alloc (.cells #[.slice none 0 0, .string ⟨#[]⟩, .string ⟨#[]⟩, .slice none 0 0, .slice none 0 0, .slice none 0 0, .int .i64 0, .int .i64 0, .int .i64 0, .int .i64 0] 65) := ⟨_, rfl⟩
  have B3 : Hid (Below w2.heap.size w2 w3) := by show Below _ _ _; rw [hw3]; exact al_b _ _
  have hn3 : w3.heap[(w.heap.size + 2)]? = some (.cells #[.slice none 0 0, .string ⟨#[]⟩, .string ⟨#[]⟩, .slice none 0 0, .slice none 0 0, .slice none 0 0, .int .i64 0, .int .i64 0, .int .i64 0, .int .i64 0] 65 (0, 0)) := by rw [hw3]; rw [show w.heap.size + 2 = w2.heap.size by (rw [hw2, hw1]; simp)]; exact new_at _ _
  have C3 : Hid (∀ W, Below w3.heap.size w3 W → W.heap[(w.heap.size + 2)]? = some (.cells #[.slice none 0 0, .string ⟨#[]⟩, .string ⟨#[]⟩, .slice none 0 0, .slice none 0 0, .slice none 0 0, .int .i64 0, .int .i64 0, .int .i64 0, .int .i64 0] 65 (0, 0))) := fun W h => (h.block _ (Array.getElem?_eq_some_iff.1 hn3).1).trans hn3
  clear hn3
  have Btq : Hid (Below w1.heap.size w1 w3) := B2.out.trans (B3.out.mono B2.out.size)
  have HBw0 : Hid (Below w.heap.size w w3) := B1.out.trans (Btq.out.mono B1.out.size)
  have HCA : Hid (∀ W, Below w3.heap.size w3 W → W.cell? ⟨w.heap.size, 0, none⟩ = some (.slice a0 M.length c0) ∧ W.cell? ⟨w.heap.size + 1, 0, none⟩ = some (.string tn) ∧ W.cell? ⟨w.heap.size + 1, 1, none⟩ = some (.string tp) ∧ W.cell? ⟨w.heap.size + 1, 2, none⟩ = some (.slice ao town.length co) ∧ W.cell? ⟨w.heap.size + 1, 3, none⟩ = some (.slice aa tall.length ca) ∧ W.cell? ⟨w.heap.size + 1, 4, none⟩ = some (.slice ac tch.length cc) ∧ W.cell? ⟨w.heap.size + 1, 5, none⟩ = some (.int .i64 tnd) ∧ W.cell? ⟨w.heap.size + 1, 6, none⟩ = some (.int .i64 tlf) ∧ W.cell? ⟨w.heap.size + 1, 7, none⟩ = some (.int .i64 tsq)  ∧ W.cell? ⟨w.heap.size + 2, 0, none⟩ = some (.slice none 0 0) ∧ W.cell? ⟨w.heap.size + 2, 1, none⟩ = some (.string ⟨#[]⟩) ∧ W.cell? ⟨w.heap.size + 2, 2, none⟩ = some (.string ⟨#[]⟩) ∧ W.cell? ⟨w.heap.size + 2, 3, none⟩ = some (.slice none 0 0) ∧ W.cell? ⟨w.heap.size + 2, 4, none⟩ = some (.slice none 0 0) ∧ W.cell? ⟨w.heap.size + 2, 5, none⟩ = some (.slice none 0 0) ∧ W.cell? ⟨w.heap.size + 2, 6, none⟩ = some (.int .i64 0) ∧ W.cell? ⟨w.heap.size + 2, 7, none⟩ = some (.int .i64 0) ∧ W.cell? ⟨w.heap.size + 2, 8, none⟩ = some (.int .i64 0) ∧ W.cell? ⟨w.heap.size + 2, 9, none⟩ = some (.int .i64 0) ∧ ∀ j, W.frozen? ⟨w.heap.size + 2, j, none⟩ = false) := fun W hb => by
    have h1 := C1.out W (Btq.out.trans (hb.mono Btq.out.size))
    have h2 := C2.out W (B3.out.trans (hb.mono B3.out.size))
    have h3 := C3.out W hb
    have c : ∀ j, W.cell? ⟨w.heap.size + 1, j, none⟩ = (#[.string tn, .string tp, .slice ao town.length co, .slice aa tall.length ca, .slice ac tch.length cc, .int .i64 tnd, .int .i64 tlf, .int .i64 tsq] : Array Value)[j]? := fun j => by rw [Lib.cell_of_heap h2]
    have d : ∀ j, W.cell? ⟨w.heap.size + 2, j, none⟩ = (#[.slice none 0 0, .string ⟨#[]⟩, .string ⟨#[]⟩, .slice none 0 0, .slice none 0 0, .slice none 0 0, .int .i64 0, .int .i64 0, .int .i64 0, .int .i64 0] : Array Value)[j]? := fun j => by rw [Lib.cell_of_heap h3]
    exact ⟨by rw [Lib.cell_of_heap h1]; rfl, c 0, c 1, c 2, c 3, c 4, c 5, c 6, c 7, d 0, d 1, d 2, d 3, d 4, d 5, d 6, d 7, d 8, d 9, fun j => Lib.frozen_of_heap h3 j⟩
  obtain ⟨cb, t0, t1, t2, t3, t4, t5, t6, t7, r0, r1, r2, r3, r4, r5, r6, r7, r8, r9, fz⟩ := HCA.out w3 (Below.refl _ _)
  rw [hw3, hw2, hw1] at cb t0 t1 t2 t3 t4 t5 t6 t7 r0 r1 r2 r3 r4 r5 r6 r7 r8 r9 fz
  go_enter Tryz.func16, Tryz.ntmps16
  go_wp2_with fail
  rw [← hw1, ← hw2, ← hw3]
  clear hw1 hw2 hw3 cb t0 t1 t2 t3 t4 t5 t6 t7 r0 r1 r2 r3 r4 r5 r6 r7 r8 r9 fz
  refine (HCh.out _ HBw0.out).mono ?_
  rintro e w5 ⟨rfl, hb⟩
  have B5 : Hid (Below w3.heap.size w3 w5) := hb
  clear hb
  obtain ⟨cb, t0, t1, t2, t3, t4, t5, t6, t7, r0, r1, r2, r3, r4, r5, r6, r7, r8, r9, fz⟩ := HCA.out _ B5.out
  have H5 : Hid (Below w.heap.size w w5) := HBw0.out.trans (B5.out.mono HBw0.out.size)
  have HE : Hid (∀ v0 v1 v2 v3 v4 v5 v6 v7 v8 v9, Below w.heap.size w (st10 w5 (w.heap.size + 2) v0 v1 v2 v3 v4 v5 v6 v7 v8 v9)) := fun v0 v1 v2 v3 v4 v5 v6 v7 v8 v9 => below10 H5.out (Nat.le_add_right _ 2) v0 v1 v2 v3 v4 v5 v6 v7 v8 v9
  clear HCh HFi HCA
  go_wp2_with fail
  try simp only [Exit.inBlock, Exit.then]
  refine bodyPost_ret (v := .agg #[.slice a0 M.length c0, .string ⟨#[]⟩, .string ⟨#[]⟩, .slice none 0 0, .slice none 0 0, .slice none 0 0, .int .i64 0, .int .i64 0, .int .i64 0, .int .i64 1]) ?_ rfl ⟨rfl, HE.out _ _ _ _ _ _ _ _ _ _⟩
  rw [results_c1 rfl]; go_simp
  first | done | exact ⟨rfl, rfl, rfl, rfl, rfl⟩ | skip
set_option maxRecDepth 100000 in
set_option maxHeartbeats 4000000 in
theorem put17_full (v : Value) (M : List KR) (o : LT) (w : World) (hr : IsRow w 10 v M.length (kCells M)) (hl : M.length ≤ 1000) (hN : ∀ k ∈ M, k.y.t.n.size ≤ 1000000) (ho : IsTy w o.t o.vo o.va o.vc) (hq : NmQ o.t) (hn : o.t.n.size ≤ 1000000) (hP : chkT o.t = true) (hF : fndZ M o.t.n < 0) (h2 : 200 ≤ M.length) :
    Calls Tryz.prog 16 #[.agg #[v], ltV o] w fun e w' => e = .returned (.agg #[v, .string ⟨#[]⟩, .string ⟨#[]⟩, .slice none 0 0, .slice none 0 0, .slice none 0 0, .int .i64 0, .int .i64 0, .int .i64 0, .int .i64 6]) ∧ Below w.heap.size w w' := by
  obtain ⟨a0, c0, rfl⟩ := hr.form
  have HCh : Hid (∀ W, Below w.heap.size w W → Calls Tryz.prog 44 #[ltV o] W fun e w' => e = .returned (.bool true) ∧ Below W.heap.size W w') := fun W hb => by
    have := refChk_any o W (ho.below hb) hq
    rw [hP] at this
    exact this
  have HFi : Hid (∀ W, Below w.heap.size w W → Calls Tryz.prog 32 #[.agg #[.slice a0 M.length c0], .string o.t.n] W fun e w' => e = .returned (.int .i64 (fndZ M o.t.n)) ∧ Below W.heap.size W w') := fun W hb => find17_any _ M _ W (hr.below hb) hl hN hn
  clear hr hN hn ho hq hP
  obtain ⟨⟨tn, tp, town, tall, tch, tnd, tlf, tsq⟩, ao, co, aa, ca, ac, cc⟩ := o
  dsimp only at *
  generalize fndZ M tn = Z at *
  obtain ⟨w1, hw1⟩ : ∃ w1, w1 = w.alloc (.cells #[.slice a0 M.length c0] 27) := ⟨_, rfl⟩
  have B1 : Hid (Below w.heap.size w w1) := by show Below _ _ _; rw [hw1]; exact al_b _ _
  have hn1 : w1.heap[w.heap.size]? = some (.cells #[.slice a0 M.length c0] 27 (0, 0)) := by rw [hw1]; exact new_at _ _
  have C1 : Hid (∀ W, Below w1.heap.size w1 W → W.heap[w.heap.size]? = some (.cells #[.slice a0 M.length c0] 27 (0, 0))) := fun W h => (h.block _ (Array.getElem?_eq_some_iff.1 hn1).1).trans hn1
  clear hn1
  obtain ⟨w2, hw2⟩ : ∃ w2, w2 = w1.alloc (.cells #[.string tn, .string tp, .slice ao town.length co, .slice aa tall.length ca, .slice ac tch.length cc, .int .i64 tnd, .int .i64 tlf, .int .i64 tsq] 63) := ⟨_, rfl⟩
  have B2 : Hid (Below w1.heap.size w1 w2) := by show Below _ _ _; rw [hw2]; exact al_b _ _
  have hn2 : w2.heap[(w.heap.size + 1)]? = some (.cells #[.string tn, .string tp, .slice ao town.length co, .slice aa tall.length ca, .slice ac tch.length cc, .int .i64 tnd, .int .i64 tlf, .int .i64 tsq] 63 (0, 0)) := by rw [hw2]; rw [show w.heap.size + 1 = w1.heap.size by (rw [hw1]; simp)]; exact new_at _ _
  have C2 : Hid (∀ W, Below w2.heap.size w2 W → W.heap[(w.heap.size + 1)]? = some (.cells #[.string tn, .string tp, .slice ao town.length co, .slice aa tall.length ca, .slice ac tch.length cc, .int .i64 tnd, .int .i64 tlf, .int .i64 tsq] 63 (0, 0))) := fun W h => (h.block _ (Array.getElem?_eq_some_iff.1 hn2).1).trans hn2
  clear hn2
  obtain ⟨w3, hw3⟩ : ∃ w3, w3 = w2.alloc (.cells #[.slice none 0 0, .string ⟨#[]⟩, .string ⟨#[]⟩, .slice none 0 0, .slice none 0 0, .slice none 0 0, .int .i64 0, .int .i64 0, .int .i64 0, .int .i64 0] 65) := ⟨_, rfl⟩
  have B3 : Hid (Below w2.heap.size w2 w3) := by show Below _ _ _; rw [hw3]; exact al_b _ _
  have hn3 : w3.heap[(w.heap.size + 2)]? = some (.cells #[.slice none 0 0, .string ⟨#[]⟩, .string ⟨#[]⟩, .slice none 0 0, .slice none 0 0, .slice none 0 0, .int .i64 0, .int .i64 0, .int .i64 0, .int .i64 0] 65 (0, 0)) := by rw [hw3]; rw [show w.heap.size + 2 = w2.heap.size by (rw [hw2, hw1]; simp)]; exact new_at _ _
  have C3 : Hid (∀ W, Below w3.heap.size w3 W → W.heap[(w.heap.size + 2)]? = some (.cells #[.slice none 0 0, .string ⟨#[]⟩, .string ⟨#[]⟩, .slice none 0 0, .slice none 0 0, .slice none 0 0, .int .i64 0, .int .i64 0, .int .i64 0, .int .i64 0] 65 (0, 0))) := fun W h => (h.block _ (Array.getElem?_eq_some_iff.1 hn3).1).trans hn3
  clear hn3
  have Btq : Hid (Below w1.heap.size w1 w3) := B2.out.trans (B3.out.mono B2.out.size)
  have HBw0 : Hid (Below w.heap.size w w3) := B1.out.trans (Btq.out.mono B1.out.size)
  have HCA : Hid (∀ W, Below w3.heap.size w3 W → W.cell? ⟨w.heap.size, 0, none⟩ = some (.slice a0 M.length c0) ∧ W.cell? ⟨w.heap.size + 1, 0, none⟩ = some (.string tn) ∧ W.cell? ⟨w.heap.size + 1, 1, none⟩ = some (.string tp) ∧ W.cell? ⟨w.heap.size + 1, 2, none⟩ = some (.slice ao town.length co) ∧ W.cell? ⟨w.heap.size + 1, 3, none⟩ = some (.slice aa tall.length ca) ∧ W.cell? ⟨w.heap.size + 1, 4, none⟩ = some (.slice ac tch.length cc) ∧ W.cell? ⟨w.heap.size + 1, 5, none⟩ = some (.int .i64 tnd) ∧ W.cell? ⟨w.heap.size + 1, 6, none⟩ = some (.int .i64 tlf) ∧ W.cell? ⟨w.heap.size + 1, 7, none⟩ = some (.int .i64 tsq)  ∧ W.cell? ⟨w.heap.size + 2, 0, none⟩ = some (.slice none 0 0) ∧ W.cell? ⟨w.heap.size + 2, 1, none⟩ = some (.string ⟨#[]⟩) ∧ W.cell? ⟨w.heap.size + 2, 2, none⟩ = some (.string ⟨#[]⟩) ∧ W.cell? ⟨w.heap.size + 2, 3, none⟩ = some (.slice none 0 0) ∧ W.cell? ⟨w.heap.size + 2, 4, none⟩ = some (.slice none 0 0) ∧ W.cell? ⟨w.heap.size + 2, 5, none⟩ = some (.slice none 0 0) ∧ W.cell? ⟨w.heap.size + 2, 6, none⟩ = some (.int .i64 0) ∧ W.cell? ⟨w.heap.size + 2, 7, none⟩ = some (.int .i64 0) ∧ W.cell? ⟨w.heap.size + 2, 8, none⟩ = some (.int .i64 0) ∧ W.cell? ⟨w.heap.size + 2, 9, none⟩ = some (.int .i64 0) ∧ ∀ j, W.frozen? ⟨w.heap.size + 2, j, none⟩ = false) := fun W hb => by
    have h1 := C1.out W (Btq.out.trans (hb.mono Btq.out.size))
    have h2 := C2.out W (B3.out.trans (hb.mono B3.out.size))
    have h3 := C3.out W hb
    have c : ∀ j, W.cell? ⟨w.heap.size + 1, j, none⟩ = (#[.string tn, .string tp, .slice ao town.length co, .slice aa tall.length ca, .slice ac tch.length cc, .int .i64 tnd, .int .i64 tlf, .int .i64 tsq] : Array Value)[j]? := fun j => by rw [Lib.cell_of_heap h2]
    have d : ∀ j, W.cell? ⟨w.heap.size + 2, j, none⟩ = (#[.slice none 0 0, .string ⟨#[]⟩, .string ⟨#[]⟩, .slice none 0 0, .slice none 0 0, .slice none 0 0, .int .i64 0, .int .i64 0, .int .i64 0, .int .i64 0] : Array Value)[j]? := fun j => by rw [Lib.cell_of_heap h3]
    exact ⟨by rw [Lib.cell_of_heap h1]; rfl, c 0, c 1, c 2, c 3, c 4, c 5, c 6, c 7, d 0, d 1, d 2, d 3, d 4, d 5, d 6, d 7, d 8, d 9, fun j => Lib.frozen_of_heap h3 j⟩
  obtain ⟨cb, t0, t1, t2, t3, t4, t5, t6, t7, r0, r1, r2, r3, r4, r5, r6, r7, r8, r9, fz⟩ := HCA.out w3 (Below.refl _ _)
  rw [hw3, hw2, hw1] at cb t0 t1 t2 t3 t4 t5 t6 t7 r0 r1 r2 r3 r4 r5 r6 r7 r8 r9 fz
  go_enter Tryz.func16, Tryz.ntmps16
  go_wp2_with fail
  rw [← hw1, ← hw2, ← hw3]
  clear hw1 hw2 hw3 cb t0 t1 t2 t3 t4 t5 t6 t7 r0 r1 r2 r3 r4 r5 r6 r7 r8 r9 fz
  refine (HCh.out _ HBw0.out).mono ?_
  rintro e w5 ⟨rfl, hb⟩
  have B5 : Hid (Below w3.heap.size w3 w5) := hb
  clear hb
  obtain ⟨cb, t0, t1, t2, t3, t4, t5, t6, t7, r0, r1, r2, r3, r4, r5, r6, r7, r8, r9, fz⟩ := HCA.out _ B5.out
  have H5 : Hid (Below w.heap.size w w5) := HBw0.out.trans (B5.out.mono HBw0.out.size)
  go_wp2_with fail
  refine (HFi.out _ H5.out).mono ?_
  rintro e w6 ⟨rfl, hb⟩
  have B6 : Hid (Below w3.heap.size w3 w6) := B5.out.trans (hb.mono B5.out.size)
  clear hb cb t0 t1 t2 t3 t4 t5 t6 t7 r0 r1 r2 r3 r4 r5 r6 r7 r8 r9 fz
  have dz : decide (Z < 0) = true := decide_eq_true hF
  have dz2 : decide (0 ≤ Z) = false := decide_eq_false (by omega)
  have dl : decide ((200 : Int) ≤ (M.length : Int)) = true := decide_eq_true (by omega)
  go_wp2_with fail
  refine wp_region_quiet (C := fun w' => Below w6.heap.size w6 w') (by kernel_rfl) (by kernel_rfl) ((Below.refl _ _).drew) ?_
  dsimp only
  repeat (first
    | go_big_quiet_skip
    | (go_big_quiet_want
       apply Exists.intro
       refine ⟨fun W' hW' => ?_, ?_⟩
       · have hw : Below w6.heap.size w6 W' := hW'
         go_simp
         first
           | done
           | rfl
       go_big_quiet_on
       try simp only [Act.put, List.setIfInBounds_toArray, List.set_cons_zero, List.set_cons_succ]))
  refine wpQuiet_nil ?_
  intro w7 hb7
  have B7 : Hid (Below w3.heap.size w3 w7) := B6.out.trans (Below.mono hb7 B6.out.size)
  clear hb7
  obtain ⟨cb, t0, t1, t2, t3, t4, t5, t6, t7, r0, r1, r2, r3, r4, r5, r6, r7, r8, r9, fz⟩ := HCA.out _ B7.out
  have H7 : Hid (Below w.heap.size w w7) := HBw0.out.trans (B7.out.mono HBw0.out.size)
  have HE : Hid (∀ v0 v1 v2 v3 v4 v5 v6 v7 v8 v9, Below w.heap.size w (st10 w7 (w.heap.size + 2) v0 v1 v2 v3 v4 v5 v6 v7 v8 v9)) := fun v0 v1 v2 v3 v4 v5 v6 v7 v8 v9 => below10 H7.out (Nat.le_add_right _ 2) v0 v1 v2 v3 v4 v5 v6 v7 v8 v9
  clear HCh HFi HCA
  go_wp2_with fail
  try simp only [Exit.inBlock, Exit.then]
  refine bodyPost_ret (v := .agg #[.slice a0 M.length c0, .string ⟨#[]⟩, .string ⟨#[]⟩, .slice none 0 0, .slice none 0 0, .slice none 0 0, .int .i64 0, .int .i64 0, .int .i64 0, .int .i64 6]) ?_ rfl ⟨rfl, HE.out _ _ _ _ _ _ _ _ _ _⟩
  rw [results_c1 rfl]; go_simp
  first | done | exact ⟨rfl, rfl, rfl, rfl, rfl⟩ | skip
end Go.Proofs.YtlndgepoekllkaaGreatDoor
