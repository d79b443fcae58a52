/- The reference's Stored: its walks. -/
import Derived.Test.YtlndgepoekllkaaGreatDoorZk23
import Derived.Test.YtlndgepoekllkaaGreatDoorZk15
import Derived.Test.YtlndgepoekllkaaGreatDoorZk17
import Derived.Deep.RegionHeld3
namespace Go.Proofs.YtlndgepoekllkaaGreatDoor
open Go.RowKit Go.ChangeMaps

theorem witho_next {l : List Int} {N : Int} {j : Nat} (h : j < l.length) : witho (l.take (j + 1)) N = witho (l.take j) N ++ (if l[j] = N then [] else [l[j]]) := by
  unfold witho
  rw [List.take_succ_eq_append_getElem h, List.filter_append]
  congr 1
  by_cases e : l[j] = N
  · rw [if_pos e, List.filter_cons, if_neg (by simp [e]), List.filter_nil]
  · rw [if_neg e, List.filter_cons, if_pos (by simp [e]), List.filter_nil]
theorem witho_all (l : List Int) (N : Int) : witho (l.take l.length) N = witho l N := by rw [List.take_length]
set_option maxRecDepth 100000 in
set_option maxHeartbeats 4000000 in
theorem stored17_no (v : Value) (M : List KR) (n : ByteArray) (a b' c N : Int) (w : World) (hr : IsRow w 10 v M.length (kCells M)) (hl : M.length ≤ 1000) (hN : ∀ k ∈ M, k.y.t.n.size ≤ 200000) (hn : n.size ≤ 200000) (hF : fndZ M n < 0) :
    Calls Tryz.prog 22 #[.agg #[v], .string n, idV a b' c, .int .i64 N] w fun e w' => e = .returned (.agg #[v, .bool false, .int .i64 4]) ∧ Below w.heap.size w w' := by
  obtain ⟨a0, c0, rfl⟩ := hr.form
  have HFi : Hid (∀ W, Below w.heap.size w W → Calls Tryz.prog 32 #[.agg #[.slice a0 M.length c0], .string n] W fun e w' => e = .returned (.int .i64 (fndZ M n)) ∧ Below W.heap.size W w') := fun W hb => by
    have := find17_any _ M n W (hr.below hb) hl (fun k hk => by have := hN k hk; omega) (by omega)
    exact this
  clear hr hN hn
  generalize fndZ M n = Z at *
  obtain ⟨w1, hw1⟩ : ∃ w1, w1 = w.alloc (.cells #[.slice a0 M.length c0] 27) := ⟨_, rfl⟩
  have B1 : Hid (Below w.heap.size w w1) := by show Below _ _ _; rw [hw1]; exact al_b _ _
  have hn1 : w1.heap[w.heap.size]? = some (.cells #[.slice a0 M.length c0] 27 (0, 0)) := by rw [hw1]; exact new_at _ _
  have C1 : Hid (∀ W, Below w1.heap.size w1 W → W.heap[w.heap.size]? = some (.cells #[.slice a0 M.length c0] 27 (0, 0))) := fun W h => (h.block _ (Array.getElem?_eq_some_iff.1 hn1).1).trans hn1
  clear hn1
  obtain ⟨w2, hw2⟩ : ∃ w2, w2 = w1.alloc (.cells #[.int .i64 a, .int .i64 b', .int .i64 c] 61) := ⟨_, rfl⟩
  have B2 : Hid (Below w1.heap.size w1 w2) := by show Below _ _ _; rw [hw2]; exact al_b _ _
  have hn2 : w2.heap[(w.heap.size + 1)]? = some (.cells #[.int .i64 a, .int .i64 b', .int .i64 c] 61 (0, 0)) := by rw [hw2]; rw [show w.heap.size + 1 = w1.heap.size by (rw [hw1]; simp)]; exact new_at _ _
  have C2 : Hid (∀ W, Below w2.heap.size w2 W → W.heap[(w.heap.size + 1)]? = some (.cells #[.int .i64 a, .int .i64 b', .int .i64 c] 61 (0, 0))) := fun W h => (h.block _ (Array.getElem?_eq_some_iff.1 hn2).1).trans hn2
  clear hn2
  obtain ⟨w3, hw3⟩ : ∃ w3, w3 = w2.alloc (.cells #[.slice none 0 0, .bool false, .int .i64 0] 73) := ⟨_, rfl⟩
  have B3 : Hid (Below w2.heap.size w2 w3) := by show Below _ _ _; rw [hw3]; exact al_b _ _
  have hn3 : w3.heap[(w.heap.size + 2)]? = some (.cells #[.slice none 0 0, .bool false, .int .i64 0] 73 (0, 0)) := by rw [hw3]; rw [show w.heap.size + 2 = w2.heap.size by (rw [hw2, hw1]; simp)]; exact new_at _ _
  have C3 : Hid (∀ W, Below w3.heap.size w3 W → W.heap[(w.heap.size + 2)]? = some (.cells #[.slice none 0 0, .bool false, .int .i64 0] 73 (0, 0))) := fun W h => (h.block _ (Array.getElem?_eq_some_iff.1 hn3).1).trans hn3
  clear hn3
  have Hz : Hid (w3.heap.size = w.heap.size + 3) := by show _ = _; rw [hw3, hw2, hw1]; simp
  have Bpq : Hid (Below w1.heap.size w1 w3) := B2.out.trans (B3.out.mono B2.out.size)
  have HBw0 : Hid (Below w.heap.size w w3) := B1.out.trans (Bpq.out.mono B1.out.size)
  have HCp : Hid (∀ W, Below w3.heap.size w3 W → W.heap[w.heap.size]? = some (.cells #[.slice a0 M.length c0] 27 (0, 0))) := fun W hb => C1.out W (Bpq.out.trans (hb.mono Bpq.out.size))
  have HCA : Hid (∀ W, Below w3.heap.size w3 W → W.cell? ⟨w.heap.size, 0, none⟩ = some (.slice a0 M.length c0) ∧ W.cell? ⟨w.heap.size + 1, 0, none⟩ = some (.int .i64 a) ∧ W.cell? ⟨w.heap.size + 1, 1, none⟩ = some (.int .i64 b') ∧ W.cell? ⟨w.heap.size + 1, 2, none⟩ = some (.int .i64 c)) := fun W hb => by
    have h1 := HCp.out W hb
    have h2 := C2.out W (B3.out.trans (hb.mono B3.out.size))
    exact ⟨by rw [Lib.cell_of_heap h1]; rfl, by rw [Lib.cell_of_heap h2]; rfl, by rw [Lib.cell_of_heap h2]; rfl, by rw [Lib.cell_of_heap h2]; rfl⟩
  obtain ⟨cb, i0_, i1_, i2_⟩ := HCA.out w3 (Below.refl _ _)
  rw [hw3, hw2, hw1] at cb i0_ i1_ i2_
  go_enter Tryz.func22, Tryz.ntmps22
  go_wp2_with fail
  rw [← hw1, ← hw2, ← hw3]
  clear hw1 hw2 hw3 cb i0_ i1_ i2_
  refine (HFi.out _ HBw0.out).mono ?_
  rintro e w6 ⟨rfl, hb⟩
  have B6 : Hid (Below w3.heap.size w3 w6) := hb
  have H6 : Hid (Below w.heap.size w w6) := HBw0.out.trans (hb.mono HBw0.out.size)
  clear hb HFi
  have dz : decide (Z < 0) = true := decide_eq_true hF
  go_wp2_with fail
  refine wp_region_quiet (C := fun w' => Below w6.heap.size w6 w') (by kernel_rfl) (by kernel_rfl) ((Below.refl _ _).drew) ?_
  dsimp only
  repeat (first
    | go_big_quiet_skip
    | (go_big_quiet_want
       apply Exists.intro
       refine ⟨fun W' hW' => ?_, ?_⟩
       · have hw : Below w6.heap.size w6 W' := hW'
         go_simp
         first
           | done
           | rfl
       go_big_quiet_on
       try simp only [Act.put, List.setIfInBounds_toArray, List.set_cons_zero, List.set_cons_succ]))
  refine wpQuiet_nil ?_
  intro w7 hb7
  have B7 : Hid (Below w3.heap.size w3 w7) := B6.out.trans (Below.mono hb7 B6.out.size)
  have H7 : Hid (Below w.heap.size w w7) := HBw0.out.trans (B7.out.mono HBw0.out.size)
  clear hb7
  obtain ⟨cb, -⟩ := HCA.out w7 B7.out
  have hq := C3.out _ B7.out
  have c0_ : w7.cell? ⟨w.heap.size + 2, 0, none⟩ = some (.slice none 0 0) := by rw [Lib.cell_of_heap hq]; rfl
  have c1_ : w7.cell? ⟨w.heap.size + 2, 1, none⟩ = some (.bool false) := by rw [Lib.cell_of_heap hq]; rfl
  have c2_ : w7.cell? ⟨w.heap.size + 2, 2, none⟩ = some (.int .i64 0) := by rw [Lib.cell_of_heap hq]; rfl
  have fz : ∀ j, w7.frozen? ⟨w.heap.size + 2, j, none⟩ = false := fun j => Lib.frozen_of_heap hq j
  have HE : Hid (∀ u0 u1 u2, Below w.heap.size w (((w7.setCell ⟨w.heap.size + 2, 0, none⟩ u0).setCell ⟨w.heap.size + 2, 1, none⟩ u1).setCell ⟨w.heap.size + 2, 2, none⟩ u2)) := fun u0 u1 u2 => below3 H7.out (Nat.le_add_right _ 2) u0 u1 u2
  clear hq HCA HCp
  go_wp2_with fail
  try simp only [Exit.inBlock, Exit.then]
  refine bodyPost_ret (v := .agg #[.slice a0 M.length c0, .bool false, .int .i64 4]) ?_ rfl ⟨rfl, HE.out _ _ _⟩
  rw [results_c1 rfl]; go_simp
  first | done | exact ⟨rfl, rfl, rfl⟩
set_option maxRecDepth 100000 in
set_option maxHeartbeats 4000000 in
theorem stored17_by1 (v : Value) (M : List KR) (n : ByteArray) (a b' c N : Int) (w : World) (hr : IsRow w 10 v M.length (kCells M)) (hl : M.length ≤ 1000) (hN : ∀ k ∈ M, k.y.t.n.size ≤ 200000) (hn : n.size ≤ 200000) (i : Nat) (hi : i < M.length) (hF : fndZ M n = (i : Int)) (e1 : ¬ M[i].y.t.nd = a) :
    Calls Tryz.prog 22 #[.agg #[v], .string n, idV a b' c, .int .i64 N] w fun e w' => e = .returned (.agg #[v, .bool false, .int .i64 4]) ∧ Below w.heap.size w w' := by
  obtain ⟨a0, c0, rfl⟩ := hr.form
  have HFi : Hid (∀ W, Below w.heap.size w W → Calls Tryz.prog 32 #[.agg #[.slice a0 M.length c0], .string n] W fun e w' => e = .returned (.int .i64 ((i : Int))) ∧ Below W.heap.size W w') := fun W hb => by
    have := find17_any _ M n W (hr.below hb) hl (fun k hk => by have := hN k hk; omega) (by omega)
    rw [hF] at this
    exact this
  obtain ⟨b, off, rfl, hlt, hcap, hc⟩ := kr_at hr (by omega)
  have hq := hc i hi
  have HQ : Hid (∀ W, Below w.heap.size w W → W.cell? ⟨b, off + i * 10, none⟩ = some (.string M[i].y.t.n) ∧ W.cell? ⟨b, off + i * 10 + 1, none⟩ = some (.string M[i].y.t.p) ∧ W.cell? ⟨b, off + i * 10 + 2, none⟩ = some (M[i].y.vo) ∧ W.cell? ⟨b, off + i * 10 + 3, none⟩ = some (M[i].y.va) ∧ W.cell? ⟨b, off + i * 10 + 4, none⟩ = some (M[i].y.vc) ∧ W.cell? ⟨b, off + i * 10 + 5, none⟩ = some (.int .i64 M[i].y.t.nd) ∧ W.cell? ⟨b, off + i * 10 + 6, none⟩ = some (.int .i64 M[i].y.t.lf) ∧ W.cell? ⟨b, off + i * 10 + 7, none⟩ = some (.int .i64 M[i].y.t.sq) ∧ W.cell? ⟨b, off + i * 10 + 8, none⟩ = some (.bool M[i].s) ∧ W.cell? ⟨b, off + i * 10 + 9, none⟩ = some (M[i].vw)) := fun W hb => by
    obtain ⟨q0, q1, q2, q3, q4, q5, q6, q7, q8, q9⟩ := hq
    exact ⟨(hb.cell (p := ⟨b, _, none⟩) hlt).trans q0, (hb.cell (p := ⟨b, _, none⟩) hlt).trans q1, (hb.cell (p := ⟨b, _, none⟩) hlt).trans q2, (hb.cell (p := ⟨b, _, none⟩) hlt).trans q3, (hb.cell (p := ⟨b, _, none⟩) hlt).trans q4, (hb.cell (p := ⟨b, _, none⟩) hlt).trans q5, (hb.cell (p := ⟨b, _, none⟩) hlt).trans q6, (hb.cell (p := ⟨b, _, none⟩) hlt).trans q7, (hb.cell (p := ⟨b, _, none⟩) hlt).trans q8, (hb.cell (p := ⟨b, _, none⟩) hlt).trans q9⟩
  generalize M[i]'hi = y at *
  obtain ⟨⟨⟨yn, yp, yown, yall, ych, ynd, ylf, ysq⟩, bo, do', ba, da, bc, dc⟩, ys, yl, bw, dw⟩ := y
  dsimp only at *
  try dsimp only [KR.vw] at *
  clear hc hq
  clear hr hN hn hF
  obtain ⟨w1, hw1⟩ : ∃ w1, w1 = w.alloc (.cells #[.slice (some ⟨b, off, none⟩) M.length c0] 27) := ⟨_, rfl⟩
  have B1 : Hid (Below w.heap.size w w1) := by show Below _ _ _; rw [hw1]; exact al_b _ _
  have hn1 : w1.heap[w.heap.size]? = some (.cells #[.slice (some ⟨b, off, none⟩) M.length c0] 27 (0, 0)) := by rw [hw1]; exact new_at _ _
  have C1 : Hid (∀ W, Below w1.heap.size w1 W → W.heap[w.heap.size]? = some (.cells #[.slice (some ⟨b, off, none⟩) M.length c0] 27 (0, 0))) := fun W h => (h.block _ (Array.getElem?_eq_some_iff.1 hn1).1).trans hn1
  clear hn1
  obtain ⟨w2, hw2⟩ : ∃ w2, w2 = w1.alloc (.cells #[.int .i64 a, .int .i64 b', .int .i64 c] 61) := ⟨_, rfl⟩
  have B2 : Hid (Below w1.heap.size w1 w2) := by show Below _ _ _; rw [hw2]; exact al_b _ _
  have hn2 : w2.heap[(w.heap.size + 1)]? = some (.cells #[.int .i64 a, .int .i64 b', .int .i64 c] 61 (0, 0)) := by rw [hw2]; rw [show w.heap.size + 1 = w1.heap.size by (rw [hw1]; simp)]; exact new_at _ _
  have C2 : Hid (∀ W, Below w2.heap.size w2 W → W.heap[(w.heap.size + 1)]? = some (.cells #[.int .i64 a, .int .i64 b', .int .i64 c] 61 (0, 0))) := fun W h => (h.block _ (Array.getElem?_eq_some_iff.1 hn2).1).trans hn2
  clear hn2
  obtain ⟨w3, hw3⟩ : ∃ w3, w3 = w2.alloc (.cells #[.slice none 0 0, .bool false, .int .i64 0] 73) := ⟨_, rfl⟩
  have B3 : Hid (Below w2.heap.size w2 w3) := by show Below _ _ _; rw [hw3]; exact al_b _ _
  have hn3 : w3.heap[(w.heap.size + 2)]? = some (.cells #[.slice none 0 0, .bool false, .int .i64 0] 73 (0, 0)) := by rw [hw3]; rw [show w.heap.size + 2 = w2.heap.size by (rw [hw2, hw1]; simp)]; exact new_at _ _
  have C3 : Hid (∀ W, Below w3.heap.size w3 W → W.heap[(w.heap.size + 2)]? = some (.cells #[.slice none 0 0, .bool false, .int .i64 0] 73 (0, 0))) := fun W h => (h.block _ (Array.getElem?_eq_some_iff.1 hn3).1).trans hn3
  clear hn3
  have Hz : Hid (w3.heap.size = w.heap.size + 3) := by show _ = _; rw [hw3, hw2, hw1]; simp
  have Bpq : Hid (Below w1.heap.size w1 w3) := B2.out.trans (B3.out.mono B2.out.size)
  have HBw0 : Hid (Below w.heap.size w w3) := B1.out.trans (Bpq.out.mono B1.out.size)
  have HCp : Hid (∀ W, Below w3.heap.size w3 W → W.heap[w.heap.size]? = some (.cells #[.slice (some ⟨b, off, none⟩) M.length c0] 27 (0, 0))) := fun W hb => C1.out W (Bpq.out.trans (hb.mono Bpq.out.size))
  have HCA : Hid (∀ W, Below w3.heap.size w3 W → W.cell? ⟨w.heap.size, 0, none⟩ = some (.slice (some ⟨b, off, none⟩) M.length c0) ∧ W.cell? ⟨w.heap.size + 1, 0, none⟩ = some (.int .i64 a) ∧ W.cell? ⟨w.heap.size + 1, 1, none⟩ = some (.int .i64 b') ∧ W.cell? ⟨w.heap.size + 1, 2, none⟩ = some (.int .i64 c)) := fun W hb => by
    have h1 := HCp.out W hb
    have h2 := C2.out W (B3.out.trans (hb.mono B3.out.size))
    exact ⟨by rw [Lib.cell_of_heap h1]; rfl, by rw [Lib.cell_of_heap h2]; rfl, by rw [Lib.cell_of_heap h2]; rfl, by rw [Lib.cell_of_heap h2]; rfl⟩
  obtain ⟨cb, i0_, i1_, i2_⟩ := HCA.out w3 (Below.refl _ _)
  rw [hw3, hw2, hw1] at cb i0_ i1_ i2_
  go_enter Tryz.func22, Tryz.ntmps22
  go_wp2_with fail
  rw [← hw1, ← hw2, ← hw3]
  clear hw1 hw2 hw3 cb i0_ i1_ i2_
  refine (HFi.out _ HBw0.out).mono ?_
  rintro e w6 ⟨rfl, hb⟩
  have B6 : Hid (Below w3.heap.size w3 w6) := hb
  have H6 : Hid (Below w.heap.size w w6) := HBw0.out.trans (hb.mono HBw0.out.size)
  clear hb HFi
  have dz : decide ((i : Int) < 0) = false := decide_eq_false (by omega)
  have p1 : (0 : Int) ≤ (i : Int) := by omega
  have p2 : (i : Int) < (M.length : Int) := by omega
  go_wp2_with fail
  refine wp_region_quiet (C := fun w' => Below w6.heap.size w6 w') (by kernel_rfl) (by kernel_rfl) ((Below.refl _ _).drew) ?_
  dsimp only
  repeat (first
    | go_big_quiet_skip
    | (go_big_quiet_want
       apply Exists.intro
       refine ⟨fun W' hW' => ?_, ?_⟩
       · have hw : Below w6.heap.size w6 W' := hW'
         obtain ⟨cb, i0_, i1_, i2_⟩ := HCA.out W' (B6.out.trans (hw.mono B6.out.size))
         obtain ⟨-, -, -, -, -, q5, q6, q7, -, q9⟩ := HQ.out W' (H6.out.trans (hw.mono H6.out.size))
         go_simp
         first
           | done
           | rfl
       go_big_quiet_on
       try simp only [Act.put, List.setIfInBounds_toArray, List.set_cons_zero, List.set_cons_succ]))
  refine wpQuiet_nil ?_
  intro w7 hb7
  have B7 : Hid (Below w3.heap.size w3 w7) := B6.out.trans (Below.mono hb7 B6.out.size)
  have H7 : Hid (Below w.heap.size w w7) := HBw0.out.trans (B7.out.mono HBw0.out.size)
  clear hb7
  obtain ⟨cb, -⟩ := HCA.out w7 B7.out
  have hq := C3.out _ B7.out
  have c0_ : w7.cell? ⟨w.heap.size + 2, 0, none⟩ = some (.slice none 0 0) := by rw [Lib.cell_of_heap hq]; rfl
  have c1_ : w7.cell? ⟨w.heap.size + 2, 1, none⟩ = some (.bool false) := by rw [Lib.cell_of_heap hq]; rfl
  have c2_ : w7.cell? ⟨w.heap.size + 2, 2, none⟩ = some (.int .i64 0) := by rw [Lib.cell_of_heap hq]; rfl
  have fz : ∀ j, w7.frozen? ⟨w.heap.size + 2, j, none⟩ = false := fun j => Lib.frozen_of_heap hq j
  have HE : Hid (∀ u0 u1 u2, Below w.heap.size w (((w7.setCell ⟨w.heap.size + 2, 0, none⟩ u0).setCell ⟨w.heap.size + 2, 1, none⟩ u1).setCell ⟨w.heap.size + 2, 2, none⟩ u2)) := fun u0 u1 u2 => below3 H7.out (Nat.le_add_right _ 2) u0 u1 u2
  clear hq HCA HCp HQ
  go_wp2_with fail
  try simp only [Exit.inBlock, Exit.then]
  refine bodyPost_ret (v := .agg #[.slice (some ⟨b, off, none⟩) M.length c0, .bool false, .int .i64 4]) ?_ rfl ⟨rfl, HE.out _ _ _⟩
  rw [results_c1 rfl]; go_simp
  first | done | exact ⟨rfl, rfl, rfl⟩
set_option maxRecDepth 100000 in
set_option maxHeartbeats 4000000 in
theorem stored17_by2 (v : Value) (M : List KR) (n : ByteArray) (a b' c N : Int) (w : World) (hr : IsRow w 10 v M.length (kCells M)) (hl : M.length ≤ 1000) (hN : ∀ k ∈ M, k.y.t.n.size ≤ 200000) (hn : n.size ≤ 200000) (i : Nat) (hi : i < M.length) (hF : fndZ M n = (i : Int)) (e1 : M[i].y.t.nd = a) (e2 : ¬ M[i].y.t.lf = b') :
    Calls Tryz.prog 22 #[.agg #[v], .string n, idV a b' c, .int .i64 N] w fun e w' => e = .returned (.agg #[v, .bool false, .int .i64 4]) ∧ Below w.heap.size w w' := by
  obtain ⟨a0, c0, rfl⟩ := hr.form
  have HFi : Hid (∀ W, Below w.heap.size w W → Calls Tryz.prog 32 #[.agg #[.slice a0 M.length c0], .string n] W fun e w' => e = .returned (.int .i64 ((i : Int))) ∧ Below W.heap.size W w') := fun W hb => by
    have := find17_any _ M n W (hr.below hb) hl (fun k hk => by have := hN k hk; omega) (by omega)
    rw [hF] at this
    exact this
  obtain ⟨b, off, rfl, hlt, hcap, hc⟩ := kr_at hr (by omega)
  have hq := hc i hi
  have HQ : Hid (∀ W, Below w.heap.size w W → W.cell? ⟨b, off + i * 10, none⟩ = some (.string M[i].y.t.n) ∧ W.cell? ⟨b, off + i * 10 + 1, none⟩ = some (.string M[i].y.t.p) ∧ W.cell? ⟨b, off + i * 10 + 2, none⟩ = some (M[i].y.vo) ∧ W.cell? ⟨b, off + i * 10 + 3, none⟩ = some (M[i].y.va) ∧ W.cell? ⟨b, off + i * 10 + 4, none⟩ = some (M[i].y.vc) ∧ W.cell? ⟨b, off + i * 10 + 5, none⟩ = some (.int .i64 M[i].y.t.nd) ∧ W.cell? ⟨b, off + i * 10 + 6, none⟩ = some (.int .i64 M[i].y.t.lf) ∧ W.cell? ⟨b, off + i * 10 + 7, none⟩ = some (.int .i64 M[i].y.t.sq) ∧ W.cell? ⟨b, off + i * 10 + 8, none⟩ = some (.bool M[i].s) ∧ W.cell? ⟨b, off + i * 10 + 9, none⟩ = some (M[i].vw)) := fun W hb => by
    obtain ⟨q0, q1, q2, q3, q4, q5, q6, q7, q8, q9⟩ := hq
    exact ⟨(hb.cell (p := ⟨b, _, none⟩) hlt).trans q0, (hb.cell (p := ⟨b, _, none⟩) hlt).trans q1, (hb.cell (p := ⟨b, _, none⟩) hlt).trans q2, (hb.cell (p := ⟨b, _, none⟩) hlt).trans q3, (hb.cell (p := ⟨b, _, none⟩) hlt).trans q4, (hb.cell (p := ⟨b, _, none⟩) hlt).trans q5, (hb.cell (p := ⟨b, _, none⟩) hlt).trans q6, (hb.cell (p := ⟨b, _, none⟩) hlt).trans q7, (hb.cell (p := ⟨b, _, none⟩) hlt).trans q8, (hb.cell (p := ⟨b, _, none⟩) hlt).trans q9⟩
  generalize M[i]'hi = y at *
  obtain ⟨⟨⟨yn, yp, yown, yall, ych, ynd, ylf, ysq⟩, bo, do', ba, da, bc, dc⟩, ys, yl, bw, dw⟩ := y
  dsimp only at *
  try dsimp only [KR.vw] at *
  clear hc hq
  clear hr hN hn hF
  subst e1
  obtain ⟨w1, hw1⟩ : ∃ w1, w1 = w.alloc (.cells #[.slice (some ⟨b, off, none⟩) M.length c0] 27) := ⟨_, rfl⟩
  have B1 : Hid (Below w.heap.size w w1) := by show Below _ _ _; rw [hw1]; exact al_b _ _
  have hn1 : w1.heap[w.heap.size]? = some (.cells #[.slice (some ⟨b, off, none⟩) M.length c0] 27 (0, 0)) := by rw [hw1]; exact new_at _ _
  have C1 : Hid (∀ W, Below w1.heap.size w1 W → W.heap[w.heap.size]? = some (.cells #[.slice (some ⟨b, off, none⟩) M.length c0] 27 (0, 0))) := fun W h => (h.block _ (Array.getElem?_eq_some_iff.1 hn1).1).trans hn1
  clear hn1
  obtain ⟨w2, hw2⟩ : ∃ w2, w2 = w1.alloc (.cells #[.int .i64 ynd, .int .i64 b', .int .i64 c] 61) := ⟨_, rfl⟩
  have B2 : Hid (Below w1.heap.size w1 w2) := by show Below _ _ _; rw [hw2]; exact al_b _ _
  have hn2 : w2.heap[(w.heap.size + 1)]? = some (.cells #[.int .i64 ynd, .int .i64 b', .int .i64 c] 61 (0, 0)) := by rw [hw2]; rw [show w.heap.size + 1 = w1.heap.size by (rw [hw1]; simp)]; exact new_at _ _
  have C2 : Hid (∀ W, Below w2.heap.size w2 W → W.heap[(w.heap.size + 1)]? = some (.cells #[.int .i64 ynd, .int .i64 b', .int .i64 c] 61 (0, 0))) := fun W h => (h.block _ (Array.getElem?_eq_some_iff.1 hn2).1).trans hn2
  clear hn2
  obtain ⟨w3, hw3⟩ : ∃ w3, w3 = w2.alloc (.cells #[.slice none 0 0, .bool false, .int .i64 0] 73) := ⟨_, rfl⟩
  have B3 : Hid (Below w2.heap.size w2 w3) := by show Below _ _ _; rw [hw3]; exact al_b _ _
  have hn3 : w3.heap[(w.heap.size + 2)]? = some (.cells #[.slice none 0 0, .bool false, .int .i64 0] 73 (0, 0)) := by rw [hw3]; rw [show w.heap.size + 2 = w2.heap.size by (rw [hw2, hw1]; simp)]; exact new_at _ _
  have C3 : Hid (∀ W, Below w3.heap.size w3 W → W.heap[(w.heap.size + 2)]? = some (.cells #[.slice none 0 0, .bool false, .int .i64 0] 73 (0, 0))) := fun W h => (h.block _ (Array.getElem?_eq_some_iff.1 hn3).1).trans hn3
  clear hn3
  have Hz : Hid (w3.heap.size = w.heap.size + 3) := by show _ = _; rw [hw3, hw2, hw1]; simp
  have Bpq : Hid (Below w1.heap.size w1 w3) := B2.out.trans (B3.out.mono B2.out.size)
  have HBw0 : Hid (Below w.heap.size w w3) := B1.out.trans (Bpq.out.mono B1.out.size)
  have HCp : Hid (∀ W, Below w3.heap.size w3 W → W.heap[w.heap.size]? = some (.cells #[.slice (some ⟨b, off, none⟩) M.length c0] 27 (0, 0))) := fun W hb => C1.out W (Bpq.out.trans (hb.mono Bpq.out.size))
  have HCA : Hid (∀ W, Below w3.heap.size w3 W → W.cell? ⟨w.heap.size, 0, none⟩ = some (.slice (some ⟨b, off, none⟩) M.length c0) ∧ W.cell? ⟨w.heap.size + 1, 0, none⟩ = some (.int .i64 ynd) ∧ W.cell? ⟨w.heap.size + 1, 1, none⟩ = some (.int .i64 b') ∧ W.cell? ⟨w.heap.size + 1, 2, none⟩ = some (.int .i64 c)) := fun W hb => by
    have h1 := HCp.out W hb
    have h2 := C2.out W (B3.out.trans (hb.mono B3.out.size))
    exact ⟨by rw [Lib.cell_of_heap h1]; rfl, by rw [Lib.cell_of_heap h2]; rfl, by rw [Lib.cell_of_heap h2]; rfl, by rw [Lib.cell_of_heap h2]; rfl⟩
  obtain ⟨cb, i0_, i1_, i2_⟩ := HCA.out w3 (Below.refl _ _)
  rw [hw3, hw2, hw1] at cb i0_ i1_ i2_
  go_enter Tryz.func22, Tryz.ntmps22
  go_wp2_with fail
  rw [← hw1, ← hw2, ← hw3]
  clear hw1 hw2 hw3 cb i0_ i1_ i2_
  refine (HFi.out _ HBw0.out).mono ?_
  rintro e w6 ⟨rfl, hb⟩
  have B6 : Hid (Below w3.heap.size w3 w6) := hb
  have H6 : Hid (Below w.heap.size w w6) := HBw0.out.trans (hb.mono HBw0.out.size)
  clear hb HFi
  have dz : decide ((i : Int) < 0) = false := decide_eq_false (by omega)
  have p1 : (0 : Int) ≤ (i : Int) := by omega
  have p2 : (i : Int) < (M.length : Int) := by omega
  go_wp2_with fail
  refine wp_region_quiet (C := fun w' => Below w6.heap.size w6 w') (by kernel_rfl) (by kernel_rfl) ((Below.refl _ _).drew) ?_
  dsimp only
  repeat (first
    | go_big_quiet_skip
    | (go_big_quiet_want
       apply Exists.intro
       refine ⟨fun W' hW' => ?_, ?_⟩
       · have hw : Below w6.heap.size w6 W' := hW'
         obtain ⟨cb, i0_, i1_, i2_⟩ := HCA.out W' (B6.out.trans (hw.mono B6.out.size))
         obtain ⟨-, -, -, -, -, q5, q6, q7, -, q9⟩ := HQ.out W' (H6.out.trans (hw.mono H6.out.size))
         go_simp
         first
           | done
           | rfl
       go_big_quiet_on
       try simp only [Act.put, List.setIfInBounds_toArray, List.set_cons_zero, List.set_cons_succ]))
  refine wpQuiet_nil ?_
  intro w7 hb7
  have B7 : Hid (Below w3.heap.size w3 w7) := B6.out.trans (Below.mono hb7 B6.out.size)
  have H7 : Hid (Below w.heap.size w w7) := HBw0.out.trans (B7.out.mono HBw0.out.size)
  clear hb7
  obtain ⟨cb, -⟩ := HCA.out w7 B7.out
  have hq := C3.out _ B7.out
  have c0_ : w7.cell? ⟨w.heap.size + 2, 0, none⟩ = some (.slice none 0 0) := by rw [Lib.cell_of_heap hq]; rfl
  have c1_ : w7.cell? ⟨w.heap.size + 2, 1, none⟩ = some (.bool false) := by rw [Lib.cell_of_heap hq]; rfl
  have c2_ : w7.cell? ⟨w.heap.size + 2, 2, none⟩ = some (.int .i64 0) := by rw [Lib.cell_of_heap hq]; rfl
  have fz : ∀ j, w7.frozen? ⟨w.heap.size + 2, j, none⟩ = false := fun j => Lib.frozen_of_heap hq j
  have HE : Hid (∀ u0 u1 u2, Below w.heap.size w (((w7.setCell ⟨w.heap.size + 2, 0, none⟩ u0).setCell ⟨w.heap.size + 2, 1, none⟩ u1).setCell ⟨w.heap.size + 2, 2, none⟩ u2)) := fun u0 u1 u2 => below3 H7.out (Nat.le_add_right _ 2) u0 u1 u2
  clear hq HCA HCp HQ
  go_wp2_with fail
  try simp only [Exit.inBlock, Exit.then]
  refine bodyPost_ret (v := .agg #[.slice (some ⟨b, off, none⟩) M.length c0, .bool false, .int .i64 4]) ?_ rfl ⟨rfl, HE.out _ _ _⟩
  rw [results_c1 rfl]; go_simp
  first | done | exact ⟨rfl, rfl, rfl⟩
set_option maxRecDepth 100000 in
set_option maxHeartbeats 4000000 in
theorem stored17_by3 (v : Value) (M : List KR) (n : ByteArray) (a b' c N : Int) (w : World) (hr : IsRow w 10 v M.length (kCells M)) (hl : M.length ≤ 1000) (hN : ∀ k ∈ M, k.y.t.n.size ≤ 200000) (hn : n.size ≤ 200000) (i : Nat) (hi : i < M.length) (hF : fndZ M n = (i : Int)) (e1 : M[i].y.t.nd = a) (e2 : M[i].y.t.lf = b') (e3 : ¬ M[i].y.t.sq = c) :
    Calls Tryz.prog 22 #[.agg #[v], .string n, idV a b' c, .int .i64 N] w fun e w' => e = .returned (.agg #[v, .bool false, .int .i64 4]) ∧ Below w.heap.size w w' := by
  obtain ⟨a0, c0, rfl⟩ := hr.form
  have HFi : Hid (∀ W, Below w.heap.size w W → Calls Tryz.prog 32 #[.agg #[.slice a0 M.length c0], .string n] W fun e w' => e = .returned (.int .i64 ((i : Int))) ∧ Below W.heap.size W w') := fun W hb => by
    have := find17_any _ M n W (hr.below hb) hl (fun k hk => by have := hN k hk; omega) (by omega)
    rw [hF] at this
    exact this
  obtain ⟨b, off, rfl, hlt, hcap, hc⟩ := kr_at hr (by omega)
  have hq := hc i hi
  have HQ : Hid (∀ W, Below w.heap.size w W → W.cell? ⟨b, off + i * 10, none⟩ = some (.string M[i].y.t.n) ∧ W.cell? ⟨b, off + i * 10 + 1, none⟩ = some (.string M[i].y.t.p) ∧ W.cell? ⟨b, off + i * 10 + 2, none⟩ = some (M[i].y.vo) ∧ W.cell? ⟨b, off + i * 10 + 3, none⟩ = some (M[i].y.va) ∧ W.cell? ⟨b, off + i * 10 + 4, none⟩ = some (M[i].y.vc) ∧ W.cell? ⟨b, off + i * 10 + 5, none⟩ = some (.int .i64 M[i].y.t.nd) ∧ W.cell? ⟨b, off + i * 10 + 6, none⟩ = some (.int .i64 M[i].y.t.lf) ∧ W.cell? ⟨b, off + i * 10 + 7, none⟩ = some (.int .i64 M[i].y.t.sq) ∧ W.cell? ⟨b, off + i * 10 + 8, none⟩ = some (.bool M[i].s) ∧ W.cell? ⟨b, off + i * 10 + 9, none⟩ = some (M[i].vw)) := fun W hb => by
    obtain ⟨q0, q1, q2, q3, q4, q5, q6, q7, q8, q9⟩ := hq
    exact ⟨(hb.cell (p := ⟨b, _, none⟩) hlt).trans q0, (hb.cell (p := ⟨b, _, none⟩) hlt).trans q1, (hb.cell (p := ⟨b, _, none⟩) hlt).trans q2, (hb.cell (p := ⟨b, _, none⟩) hlt).trans q3, (hb.cell (p := ⟨b, _, none⟩) hlt).trans q4, (hb.cell (p := ⟨b, _, none⟩) hlt).trans q5, (hb.cell (p := ⟨b, _, none⟩) hlt).trans q6, (hb.cell (p := ⟨b, _, none⟩) hlt).trans q7, (hb.cell (p := ⟨b, _, none⟩) hlt).trans q8, (hb.cell (p := ⟨b, _, none⟩) hlt).trans q9⟩
  generalize M[i]'hi = y at *
  obtain ⟨⟨⟨yn, yp, yown, yall, ych, ynd, ylf, ysq⟩, bo, do', ba, da, bc, dc⟩, ys, yl, bw, dw⟩ := y
  dsimp only at *
  try dsimp only [KR.vw] at *
  clear hc hq
  clear hr hN hn hF
  subst e1
  subst e2
  obtain ⟨w1, hw1⟩ : ∃ w1, w1 = w.alloc (.cells #[.slice (some ⟨b, off, none⟩) M.length c0] 27) := ⟨_, rfl⟩
  have B1 : Hid (Below w.heap.size w w1) := by show Below _ _ _; rw [hw1]; exact al_b _ _
  have hn1 : w1.heap[w.heap.size]? = some (.cells #[.slice (some ⟨b, off, none⟩) M.length c0] 27 (0, 0)) := by rw [hw1]; exact new_at _ _
  have C1 : Hid (∀ W, Below w1.heap.size w1 W → W.heap[w.heap.size]? = some (.cells #[.slice (some ⟨b, off, none⟩) M.length c0] 27 (0, 0))) := fun W h => (h.block _ (Array.getElem?_eq_some_iff.1 hn1).1).trans hn1
  clear hn1
  obtain ⟨w2, hw2⟩ : ∃ w2, w2 = w1.alloc (.cells #[.int .i64 ynd, .int .i64 ylf, .int .i64 c] 61) := ⟨_, rfl⟩
  have B2 : Hid (Below w1.heap.size w1 w2) := by show Below _ _ _; rw [hw2]; exact al_b _ _
  have hn2 : w2.heap[(w.heap.size + 1)]? = some (.cells #[.int .i64 ynd, .int .i64 ylf, .int .i64 c] 61 (0, 0)) := by rw [hw2]; rw [show w.heap.size + 1 = w1.heap.size by (rw [hw1]; simp)]; exact new_at _ _
  have C2 : Hid (∀ W, Below w2.heap.size w2 W → W.heap[(w.heap.size + 1)]? = some (.cells #[.int .i64 ynd, .int .i64 ylf, .int .i64 c] 61 (0, 0))) := fun W h => (h.block _ (Array.getElem?_eq_some_iff.1 hn2).1).trans hn2
  clear hn2
  obtain ⟨w3, hw3⟩ : ∃ w3, w3 = w2.alloc (.cells #[.slice none 0 0, .bool false, .int .i64 0] 73) := ⟨_, rfl⟩
  have B3 : Hid (Below w2.heap.size w2 w3) := by show Below _ _ _; rw [hw3]; exact al_b _ _
  have hn3 : w3.heap[(w.heap.size + 2)]? = some (.cells #[.slice none 0 0, .bool false, .int .i64 0] 73 (0, 0)) := by rw [hw3]; rw [show w.heap.size + 2 = w2.heap.size by (rw [hw2, hw1]; simp)]; exact new_at _ _
  have C3 : Hid (∀ W, Below w3.heap.size w3 W → W.heap[(w.heap.size + 2)]? = some (.cells #[.slice none 0 0, .bool false, .int .i64 0] 73 (0, 0))) := fun W h => (h.block _ (Array.getElem?_eq_some_iff.1 hn3).1).trans hn3
  clear hn3
  have Hz : Hid (w3.heap.size = w.heap.size + 3) := by show _ = _; rw [hw3, hw2, hw1]; simp
  have Bpq : Hid (Below w1.heap.size w1 w3) := B2.out.trans (B3.out.mono B2.out.size)
  have HBw0 : Hid (Below w.heap.size w w3) := B1.out.trans (Bpq.out.mono B1.out.size)
  have HCp : Hid (∀ W, Below w3.heap.size w3 W → W.heap[w.heap.size]? = some (.cells #[.slice (some ⟨b, off, none⟩) M.length c0] 27 (0, 0))) := fun W hb => C1.out W (Bpq.out.trans (hb.mono Bpq.out.size))
  have HCA : Hid (∀ W, Below w3.heap.size w3 W → W.cell? ⟨w.heap.size, 0, none⟩ = some (.slice (some ⟨b, off, none⟩) M.length c0) ∧ W.cell? ⟨w.heap.size + 1, 0, none⟩ = some (.int .i64 ynd) ∧ W.cell? ⟨w.heap.size + 1, 1, none⟩ = some (.int .i64 ylf) ∧ W.cell? ⟨w.heap.size + 1, 2, none⟩ = some (.int .i64 c)) := fun W hb => by
    have h1 := HCp.out W hb
    have h2 := C2.out W (B3.out.trans (hb.mono B3.out.size))
    exact ⟨by rw [Lib.cell_of_heap h1]; rfl, by rw [Lib.cell_of_heap h2]; rfl, by rw [Lib.cell_of_heap h2]; rfl, by rw [Lib.cell_of_heap h2]; rfl⟩
  obtain ⟨cb, i0_, i1_, i2_⟩ := HCA.out w3 (Below.refl _ _)
  rw [hw3, hw2, hw1] at cb i0_ i1_ i2_
  go_enter Tryz.func22, Tryz.ntmps22
  go_wp2_with fail
  rw [← hw1, ← hw2, ← hw3]
  clear hw1 hw2 hw3 cb i0_ i1_ i2_
  refine (HFi.out _ HBw0.out).mono ?_
  rintro e w6 ⟨rfl, hb⟩
  have B6 : Hid (Below w3.heap.size w3 w6) := hb
  have H6 : Hid (Below w.heap.size w w6) := HBw0.out.trans (hb.mono HBw0.out.size)
  clear hb HFi
  have dz : decide ((i : Int) < 0) = false := decide_eq_false (by omega)
  have p1 : (0 : Int) ≤ (i : Int) := by omega
  have p2 : (i : Int) < (M.length : Int) := by omega
  go_wp2_with fail
  refine wp_region_quiet (C := fun w' => Below w6.heap.size w6 w') (by kernel_rfl) (by kernel_rfl) ((Below.refl _ _).drew) ?_
  dsimp only
  repeat (first
    | go_big_quiet_skip
    | (go_big_quiet_want
       apply Exists.intro
       refine ⟨fun W' hW' => ?_, ?_⟩
       · have hw : Below w6.heap.size w6 W' := hW'
         obtain ⟨cb, i0_, i1_, i2_⟩ := HCA.out W' (B6.out.trans (hw.mono B6.out.size))
         obtain ⟨-, -, -, -, -, q5, q6, q7, -, q9⟩ := HQ.out W' (H6.out.trans (hw.mono H6.out.size))
         go_simp
         first
           | done
           | rfl
       go_big_quiet_on
       try simp only [Act.put, List.setIfInBounds_toArray, List.set_cons_zero, List.set_cons_succ]))
  refine wpQuiet_nil ?_
  intro w7 hb7
  have B7 : Hid (Below w3.heap.size w3 w7) := B6.out.trans (Below.mono hb7 B6.out.size)
  have H7 : Hid (Below w.heap.size w w7) := HBw0.out.trans (B7.out.mono HBw0.out.size)
  clear hb7
  obtain ⟨cb, -⟩ := HCA.out w7 B7.out
  have hq := C3.out _ B7.out
  have c0_ : w7.cell? ⟨w.heap.size + 2, 0, none⟩ = some (.slice none 0 0) := by rw [Lib.cell_of_heap hq]; rfl
  have c1_ : w7.cell? ⟨w.heap.size + 2, 1, none⟩ = some (.bool false) := by rw [Lib.cell_of_heap hq]; rfl
  have c2_ : w7.cell? ⟨w.heap.size + 2, 2, none⟩ = some (.int .i64 0) := by rw [Lib.cell_of_heap hq]; rfl
  have fz : ∀ j, w7.frozen? ⟨w.heap.size + 2, j, none⟩ = false := fun j => Lib.frozen_of_heap hq j
  have HE : Hid (∀ u0 u1 u2, Below w.heap.size w (((w7.setCell ⟨w.heap.size + 2, 0, none⟩ u0).setCell ⟨w.heap.size + 2, 1, none⟩ u1).setCell ⟨w.heap.size + 2, 2, none⟩ u2)) := fun u0 u1 u2 => below3 H7.out (Nat.le_add_right _ 2) u0 u1 u2
  clear hq HCA HCp HQ
  go_wp2_with fail
  try simp only [Exit.inBlock, Exit.then]
  refine bodyPost_ret (v := .agg #[.slice (some ⟨b, off, none⟩) M.length c0, .bool false, .int .i64 4]) ?_ rfl ⟨rfl, HE.out _ _ _⟩
  rw [results_c1 rfl]; go_simp
  first | done | exact ⟨rfl, rfl, rfl⟩
set_option maxRecDepth 100000 in
set_option maxHeartbeats 4000000 in
theorem stored17_has (v : Value) (M : List KR) (n : ByteArray) (a b' c N : Int) (w : World) (hr : IsRow w 10 v M.length (kCells M)) (hl : M.length ≤ 1000) (hN : ∀ k ∈ M, k.y.t.n.size ≤ 200000) (hn : n.size ≤ 200000) (i : Nat) (hi : i < M.length) (hF : fndZ M n = (i : Int)) (hB : M[i].y.t.nd = a ∧ M[i].y.t.lf = b' ∧ M[i].y.t.sq = c) (hw : IsRow w 1 M[i].vw M[i].l.length (iCells M[i].l)) (hwl : M[i].l.length ≤ 1000) (hH : ¬ N ∈ M[i].l) :
    Calls Tryz.prog 22 #[.agg #[v], .string n, idV a b' c, .int .i64 N] w fun e w' => e = .returned (.agg #[v, .bool false, .int .i64 4]) ∧ Below w.heap.size w w' := by
  obtain ⟨a0, c0, rfl⟩ := hr.form
  have HFi : Hid (∀ W, Below w.heap.size w W → Calls Tryz.prog 32 #[.agg #[.slice a0 M.length c0], .string n] W fun e w' => e = .returned (.int .i64 ((i : Int))) ∧ Below W.heap.size W w') := fun W hb => by
    have := find17_any _ M n W (hr.below hb) hl (fun k hk => by have := hN k hk; omega) (by omega)
    rw [hF] at this
    exact this
  have HHa : Hid (∀ W, Below w.heap.size w W → Calls Tryz.prog 52 #[M[i].vw, .int .i64 N] W fun e w' => e = .returned (.bool false) ∧ w' = W) := fun W hb => by
    have := has_any M[i].vw M[i].l N W (hw.below hb) (by omega)
    rw [decide_eq_false hH] at this
    exact this
  obtain ⟨b, off, rfl, hlt, hcap, hc⟩ := kr_at hr (by omega)
  have hq := hc i hi
  have HQ : Hid (∀ W, Below w.heap.size w W → W.cell? ⟨b, off + i * 10, none⟩ = some (.string M[i].y.t.n) ∧ W.cell? ⟨b, off + i * 10 + 1, none⟩ = some (.string M[i].y.t.p) ∧ W.cell? ⟨b, off + i * 10 + 2, none⟩ = some (M[i].y.vo) ∧ W.cell? ⟨b, off + i * 10 + 3, none⟩ = some (M[i].y.va) ∧ W.cell? ⟨b, off + i * 10 + 4, none⟩ = some (M[i].y.vc) ∧ W.cell? ⟨b, off + i * 10 + 5, none⟩ = some (.int .i64 M[i].y.t.nd) ∧ W.cell? ⟨b, off + i * 10 + 6, none⟩ = some (.int .i64 M[i].y.t.lf) ∧ W.cell? ⟨b, off + i * 10 + 7, none⟩ = some (.int .i64 M[i].y.t.sq) ∧ W.cell? ⟨b, off + i * 10 + 8, none⟩ = some (.bool M[i].s) ∧ W.cell? ⟨b, off + i * 10 + 9, none⟩ = some (M[i].vw)) := fun W hb => by
    obtain ⟨q0, q1, q2, q3, q4, q5, q6, q7, q8, q9⟩ := hq
    exact ⟨(hb.cell (p := ⟨b, _, none⟩) hlt).trans q0, (hb.cell (p := ⟨b, _, none⟩) hlt).trans q1, (hb.cell (p := ⟨b, _, none⟩) hlt).trans q2, (hb.cell (p := ⟨b, _, none⟩) hlt).trans q3, (hb.cell (p := ⟨b, _, none⟩) hlt).trans q4, (hb.cell (p := ⟨b, _, none⟩) hlt).trans q5, (hb.cell (p := ⟨b, _, none⟩) hlt).trans q6, (hb.cell (p := ⟨b, _, none⟩) hlt).trans q7, (hb.cell (p := ⟨b, _, none⟩) hlt).trans q8, (hb.cell (p := ⟨b, _, none⟩) hlt).trans q9⟩
  generalize M[i]'hi = y at *
  obtain ⟨⟨⟨yn, yp, yown, yall, ych, ynd, ylf, ysq⟩, bo, do', ba, da, bc, dc⟩, ys, yl, bw, dw⟩ := y
  dsimp only at *
  try dsimp only [KR.vw] at *
  clear hc hq
  clear hw
  obtain ⟨rfl, rfl, rfl⟩ := hB
  clear hr hN hn hF
  obtain ⟨w1, hw1⟩ : ∃ w1, w1 = w.alloc (.cells #[.slice (some ⟨b, off, none⟩) M.length c0] 27) := ⟨_, rfl⟩
  have B1 : Hid (Below w.heap.size w w1) := by show Below _ _ _; rw [hw1]; exact al_b _ _
  have hn1 : w1.heap[w.heap.size]? = some (.cells #[.slice (some ⟨b, off, none⟩) M.length c0] 27 (0, 0)) := by rw [hw1]; exact new_at _ _
  have C1 : Hid (∀ W, Below w1.heap.size w1 W → W.heap[w.heap.size]? = some (.cells #[.slice (some ⟨b, off, none⟩) M.length c0] 27 (0, 0))) := fun W h => (h.block _ (Array.getElem?_eq_some_iff.1 hn1).1).trans hn1
  clear hn1
  obtain ⟨w2, hw2⟩ : ∃ w2, w2 = w1.alloc (.cells #[.int .i64 ynd, .int .i64 ylf, .int .i64 ysq] 61) := ⟨_, rfl⟩
  have B2 : Hid (Below w1.heap.size w1 w2) := by show Below _ _ _; rw [hw2]; exact al_b _ _
  have hn2 : w2.heap[(w.heap.size + 1)]? = some (.cells #[.int .i64 ynd, .int .i64 ylf, .int .i64 ysq] 61 (0, 0)) := by rw [hw2]; rw [show w.heap.size + 1 = w1.heap.size by (rw [hw1]; simp)]; exact new_at _ _
  have C2 : Hid (∀ W, Below w2.heap.size w2 W → W.heap[(w.heap.size + 1)]? = some (.cells #[.int .i64 ynd, .int .i64 ylf, .int .i64 ysq] 61 (0, 0))) := fun W h => (h.block _ (Array.getElem?_eq_some_iff.1 hn2).1).trans hn2
  clear hn2
  obtain ⟨w3, hw3⟩ : ∃ w3, w3 = w2.alloc (.cells #[.slice none 0 0, .bool false, .int .i64 0] 73) := ⟨_, rfl⟩
  have B3 : Hid (Below w2.heap.size w2 w3) := by show Below _ _ _; rw [hw3]; exact al_b _ _
  have hn3 : w3.heap[(w.heap.size + 2)]? = some (.cells #[.slice none 0 0, .bool false, .int .i64 0] 73 (0, 0)) := by rw [hw3]; rw [show w.heap.size + 2 = w2.heap.size by (rw [hw2, hw1]; simp)]; exact new_at _ _
  have C3 : Hid (∀ W, Below w3.heap.size w3 W → W.heap[(w.heap.size + 2)]? = some (.cells #[.slice none 0 0, .bool false, .int .i64 0] 73 (0, 0))) := fun W h => (h.block _ (Array.getElem?_eq_some_iff.1 hn3).1).trans hn3
  clear hn3
  have Hz : Hid (w3.heap.size = w.heap.size + 3) := by show _ = _; rw [hw3, hw2, hw1]; simp
  have Bpq : Hid (Below w1.heap.size w1 w3) := B2.out.trans (B3.out.mono B2.out.size)
  have HBw0 : Hid (Below w.heap.size w w3) := B1.out.trans (Bpq.out.mono B1.out.size)
  have HCp : Hid (∀ W, Below w3.heap.size w3 W → W.heap[w.heap.size]? = some (.cells #[.slice (some ⟨b, off, none⟩) M.length c0] 27 (0, 0))) := fun W hb => C1.out W (Bpq.out.trans (hb.mono Bpq.out.size))
  have HCA : Hid (∀ W, Below w3.heap.size w3 W → W.cell? ⟨w.heap.size, 0, none⟩ = some (.slice (some ⟨b, off, none⟩) M.length c0) ∧ W.cell? ⟨w.heap.size + 1, 0, none⟩ = some (.int .i64 ynd) ∧ W.cell? ⟨w.heap.size + 1, 1, none⟩ = some (.int .i64 ylf) ∧ W.cell? ⟨w.heap.size + 1, 2, none⟩ = some (.int .i64 ysq)) := fun W hb => by
    have h1 := HCp.out W hb
    have h2 := C2.out W (B3.out.trans (hb.mono B3.out.size))
    exact ⟨by rw [Lib.cell_of_heap h1]; rfl, by rw [Lib.cell_of_heap h2]; rfl, by rw [Lib.cell_of_heap h2]; rfl, by rw [Lib.cell_of_heap h2]; rfl⟩
  obtain ⟨cb, i0_, i1_, i2_⟩ := HCA.out w3 (Below.refl _ _)
  rw [hw3, hw2, hw1] at cb i0_ i1_ i2_
  go_enter Tryz.func22, Tryz.ntmps22
  go_wp2_with fail
  rw [← hw1, ← hw2, ← hw3]
  clear hw1 hw2 hw3 cb i0_ i1_ i2_
  refine (HFi.out _ HBw0.out).mono ?_
  rintro e w6 ⟨rfl, hb⟩
  have B6 : Hid (Below w3.heap.size w3 w6) := hb
  have H6 : Hid (Below w.heap.size w w6) := HBw0.out.trans (hb.mono HBw0.out.size)
  clear hb HFi
  have dz : decide ((i : Int) < 0) = false := decide_eq_false (by omega)
  have p1 : (0 : Int) ≤ (i : Int) := by omega
  have p2 : (i : Int) < (M.length : Int) := by omega
  go_wp2_with fail
  refine wp_region_quiet (C := fun w' => Below w6.heap.size w6 w') (by kernel_rfl) (by kernel_rfl) ((Below.refl _ _).drew) ?_
  dsimp only
  repeat (first
    | go_big_quiet_skip
    | (go_big_quiet_want
       apply Exists.intro
       refine ⟨fun W' hW' => ?_, ?_⟩
       · have hw : Below w6.heap.size w6 W' := hW'
         obtain ⟨cb, i0_, i1_, i2_⟩ := HCA.out W' (B6.out.trans (hw.mono B6.out.size))
         obtain ⟨-, -, -, -, -, q5, q6, q7, -, q9⟩ := HQ.out W' (H6.out.trans (hw.mono H6.out.size))
         go_simp
         first
           | done
           | rfl
           | (go_at_call 52; (with_reducible refine Calls.mono (HHa.out W' (H6.out.trans (hw.mono H6.out.size))) ?_); rintro e w'' ⟨rfl, hb⟩; subst hb; exact ⟨rfl, hw⟩)
       go_big_quiet_on
       try simp only [Act.put, List.setIfInBounds_toArray, List.set_cons_zero, List.set_cons_succ]))
  refine wpQuiet_nil ?_
  intro w7 hb7
  have B7 : Hid (Below w3.heap.size w3 w7) := B6.out.trans (Below.mono hb7 B6.out.size)
  have H7 : Hid (Below w.heap.size w w7) := HBw0.out.trans (B7.out.mono HBw0.out.size)
  clear hb7
  obtain ⟨cb, -⟩ := HCA.out w7 B7.out
  have hq := C3.out _ B7.out
  have c0_ : w7.cell? ⟨w.heap.size + 2, 0, none⟩ = some (.slice none 0 0) := by rw [Lib.cell_of_heap hq]; rfl
  have c1_ : w7.cell? ⟨w.heap.size + 2, 1, none⟩ = some (.bool false) := by rw [Lib.cell_of_heap hq]; rfl
  have c2_ : w7.cell? ⟨w.heap.size + 2, 2, none⟩ = some (.int .i64 0) := by rw [Lib.cell_of_heap hq]; rfl
  have fz : ∀ j, w7.frozen? ⟨w.heap.size + 2, j, none⟩ = false := fun j => Lib.frozen_of_heap hq j
  have HE : Hid (∀ u0 u1 u2, Below w.heap.size w (((w7.setCell ⟨w.heap.size + 2, 0, none⟩ u0).setCell ⟨w.heap.size + 2, 1, none⟩ u1).setCell ⟨w.heap.size + 2, 2, none⟩ u2)) := fun u0 u1 u2 => below3 H7.out (Nat.le_add_right _ 2) u0 u1 u2
  clear hq HCA HCp HQ HHa
  go_wp2_with fail
  try simp only [Exit.inBlock, Exit.then]
  refine bodyPost_ret (v := .agg #[.slice (some ⟨b, off, none⟩) M.length c0, .bool false, .int .i64 4]) ?_ rfl ⟨rfl, HE.out _ _ _⟩
  rw [results_c1 rfl]; go_simp
  first | done | exact ⟨rfl, rfl, rfl⟩
end Go.Proofs.YtlndgepoekllkaaGreatDoor
