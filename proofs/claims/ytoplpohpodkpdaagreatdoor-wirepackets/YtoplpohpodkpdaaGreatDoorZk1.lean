/- CheckPacket of wire and of the reference: walks. -/
import Derived.Test.YtoplpohpodkpdaaGreatDoorZk0
import Derived.WalkKit
namespace Go.Proofs.YtoplpohpodkpdaaGreatDoor
open Go.RowKit

def nodB (n : Int) : Bool := decide (1 ≤ n) && decide (n ≤ 15)
def seqB (n : Int) : Bool := decide (0 ≤ n) && decide (n ≤ 1099511627775)
def inB (n a b : Int) : Bool := decide (a ≤ n) && decide (n ≤ b)
/-- A packet. -/
structure Pk where
  f : Int
  t : Int
  fl : Int
  tl : Int
  sq : Int
  ak : Int
  s : ByteArray
abbrev Pk.cells (x : Pk) : Array Value := #[.int .i64 x.f, .int .i64 x.t, .int .i64 x.fl, .int .i64 x.tl, .int .i64 x.sq, .int .i64 x.ak, .string x.s]
/-- May a packet be? -/
def pkB (x : Pk) : Bool := nodB x.f && (nodB x.t && (decide (x.f ≠ x.t) && (cntI x.fl && (cntI x.tl && (seqB x.sq && (seqB x.ak && (decide (x.s.size ≤ 32768) && (decide (x.s.size = 0) || decide (x.sq ≠ 0)))))))))
set_option maxRecDepth 100000 in
theorem isNode_any (n : Int) (w : World) : Calls Tryz.prog 15 #[.int .i64 n] w fun e w' => e = .returned (.bool (nodB n)) ∧ w' = w := by
  have hE : nodB n = (decide (1 ≤ n) && decide (n ≤ 15)) := rfl
  rw [hE]
  clear hE
  by_cases h1 : 1 ≤ n
  · have d1 : decide (1 ≤ n) = true := decide_eq_true h1
    rw [d1, Bool.true_and]
    go_enter Tryz.func15, Tryz.ntmps15
    go_wp2
    go_ret
    exact ⟨by first | rfl | simp, rfl⟩
  · have d1 : decide (1 ≤ n) = false := decide_eq_false h1
    rw [d1, Bool.false_and]
    go_enter Tryz.func15, Tryz.ntmps15
    go_wp2
    go_ret
    exact ⟨by first | rfl | simp, rfl⟩
set_option maxRecDepth 100000 in
theorem isSeq_any (n : Int) (w : World) : Calls Tryz.prog 17 #[.int .i64 n] w fun e w' => e = .returned (.bool (seqB n)) ∧ w' = w := by
  have hE : seqB n = (decide (0 ≤ n) && decide (n ≤ 1099511627775)) := rfl
  rw [hE]
  clear hE
  by_cases h1 : 0 ≤ n
  · have d1 : decide (0 ≤ n) = true := decide_eq_true h1
    rw [d1, Bool.true_and]
    go_enter Tryz.func17, Tryz.ntmps17
    go_wp2
    go_ret
    exact ⟨by first | rfl | simp, rfl⟩
  · have d1 : decide (0 ≤ n) = false := decide_eq_false h1
    rw [d1, Bool.false_and]
    go_enter Tryz.func17, Tryz.ntmps17
    go_wp2
    go_ret
    exact ⟨by first | rfl | simp, rfl⟩
set_option maxRecDepth 100000 in
theorem in_any (n : Int) (a b : Int) (w : World) : Calls Tryz.prog 18 #[.int .i64 n, .int .i64 a, .int .i64 b] w fun e w' => e = .returned (.bool (inB n a b)) ∧ w' = w := by
  have hE : inB n a b = (decide (a ≤ n) && decide (n ≤ b)) := rfl
  rw [hE]
  clear hE
  by_cases h1 : a ≤ n
  · have d1 : decide (a ≤ n) = true := decide_eq_true h1
    rw [d1, Bool.true_and]
    go_enter Tryz.func18, Tryz.ntmps18
    go_wp2
    go_ret
    exact ⟨by first | rfl | simp, rfl⟩
  · have d1 : decide (a ≤ n) = false := decide_eq_false h1
    rw [d1, Bool.false_and]
    go_enter Tryz.func18, Tryz.ntmps18
    go_wp2
    go_ret
    exact ⟨by first | rfl | simp, rfl⟩
theorem nil_of {s : ByteArray} (h : s.size = 0) : s = ⟨#[]⟩ := by
  cases s with
  | mk d =>
    have : d.size = 0 := h
    rw [Array.eq_empty_of_size_eq_zero this]
theorem ne_of {s : ByteArray} (h : ¬ s.size = 0) : (s.toList == ([] : List UInt8)) = false ∧ s.toList.isEmpty = false ∧ ¬ s.toList = [] := by
  have h1 : ¬ s.toList = [] := fun e => by
    rw [ByteArray.toList_eq] at e
    have h2 : s.data.toList.length = 0 := by rw [e]; rfl
    rw [Array.length_toList] at h2
    exact h h2
  refine ⟨?_, ?_, h1⟩
  · rw [beq_eq_false_iff_ne]; exact h1
  · cases hs : s.toList with
    | nil => exact absurd hs h1
    | cons x y => rfl
set_option maxRecDepth 100000 in
set_option maxHeartbeats 8000000 in
theorem checkPk_any (x : Pk) (w : World) : Calls Tryz.prog 7 #[.agg x.cells] w fun e w' => e = .returned (.bool (pkB x)) ∧ Below w.heap.size w w' := by
  obtain ⟨f, t, fl, tl, sq, ak, s⟩ := x
  have hE : pkB ⟨f, t, fl, tl, sq, ak, s⟩ = (nodB f && (nodB t && (decide (f ≠ t) && (cntI fl && (cntI tl && (seqB sq && (seqB ak && (decide (s.size ≤ 32768) && (decide (s.size = 0) || decide (sq ≠ 0)))))))))) := rfl
  obtain ⟨R, hR⟩ : ∃ R, pkB ⟨f, t, fl, tl, sq, ak, s⟩ = R := ⟨_, rfl⟩
  have HR : Hid ((nodB f && (nodB t && (decide (f ≠ t) && (cntI fl && (cntI tl && (seqB sq && (seqB ak && (decide (s.size ≤ 32768) && (decide (s.size = 0) || decide (sq ≠ 0)))))))))) = R) := by rw [← hE]; exact hR
  rw [hR]
  clear hE hR
  have H0 : Hid (∀ W, Calls Tryz.prog 15 #[.int .i64 f] W fun e w' => e = .returned (.bool (nodB f)) ∧ w' = W) := fun W => isNode_any f W
  have H1 : Hid (∀ W, Calls Tryz.prog 15 #[.int .i64 t] W fun e w' => e = .returned (.bool (nodB t)) ∧ w' = W) := fun W => isNode_any t W
  have H2 : Hid (∀ W, Calls Tryz.prog 16 #[.int .i64 fl] W fun e w' => e = .returned (.bool (cntI fl)) ∧ w' = W) := fun W => countsW_any fl W
  have H3 : Hid (∀ W, Calls Tryz.prog 16 #[.int .i64 tl] W fun e w' => e = .returned (.bool (cntI tl)) ∧ w' = W) := fun W => countsW_any tl W
  have H4 : Hid (∀ W, Calls Tryz.prog 17 #[.int .i64 sq] W fun e w' => e = .returned (.bool (seqB sq)) ∧ w' = W) := fun W => isSeq_any sq W
  have H5 : Hid (∀ W, Calls Tryz.prog 17 #[.int .i64 ak] W fun e w' => e = .returned (.bool (seqB ak)) ∧ w' = W) := fun W => isSeq_any ak W
  have hsq : seqB sq = true → 0 ≤ sq := fun h => by
    unfold seqB at h
    rw [Bool.and_eq_true, decide_eq_true_eq] at h
    exact h.1
  generalize nodB f = X0 at *
  generalize nodB t = X1 at *
  generalize cntI fl = X2 at *
  generalize cntI tl = X3 at *
  generalize seqB sq = X4 at *
  generalize seqB ak = X5 at *
  obtain ⟨w1, hw1⟩ : ∃ w1, w1 = w.alloc (.cells #[.int .i64 f, .int .i64 t, .int .i64 fl, .int .i64 tl, .int .i64 sq, .int .i64 ak, .string s] 23) := ⟨_, rfl⟩
  have B1 : Hid (Below w.heap.size w w1) := by show Below _ _ _; rw [hw1]; exact al_f _ _
  have hk : w1.heap[w.heap.size]? = some (.cells #[.int .i64 f, .int .i64 t, .int .i64 fl, .int .i64 tl, .int .i64 sq, .int .i64 ak, .string s] 23 (0, 0)) := by rw [hw1]; exact nw_at _ _
  have c0 : w1.cell? ⟨w.heap.size, 0, none⟩ = some (.int .i64 f) := by rw [Lib.cell_of_heap hk]; rfl
  have c1 : w1.cell? ⟨w.heap.size, 1, none⟩ = some (.int .i64 t) := by rw [Lib.cell_of_heap hk]; rfl
  have c2 : w1.cell? ⟨w.heap.size, 2, none⟩ = some (.int .i64 fl) := by rw [Lib.cell_of_heap hk]; rfl
  have c3 : w1.cell? ⟨w.heap.size, 3, none⟩ = some (.int .i64 tl) := by rw [Lib.cell_of_heap hk]; rfl
  have c4 : w1.cell? ⟨w.heap.size, 4, none⟩ = some (.int .i64 sq) := by rw [Lib.cell_of_heap hk]; rfl
  have c5 : w1.cell? ⟨w.heap.size, 5, none⟩ = some (.int .i64 ak) := by rw [Lib.cell_of_heap hk]; rfl
  have c6 : w1.cell? ⟨w.heap.size, 6, none⟩ = some (.string s) := by rw [Lib.cell_of_heap hk]; rfl
  clear hk
  rw [hw1] at c0 c1 c2 c3 c4 c5 c6
  show Calls _ _ #[.agg #[.int .i64 f, .int .i64 t, .int .i64 fl, .int .i64 tl, .int .i64 sq, .int .i64 ak, .string s]] _ _
  go_enter Tryz.func7, Tryz.ntmps7
  go_wp2_with fail
  rw [← hw1]
  rw [← hw1] at c0 c1 c2 c3 c4 c5 c6
  clear hw1
  refine (H0.out _).mono ?_
  rintro e w1 ⟨rfl, rfl⟩
  clear H0
  cases X0 with
  | false =>
    clear hsq
    have HZ : Hid (false = R) := by show _ = _; rw [← HR.out]; simp
    clear HR
    go_wp2
    go_ret
    exact ⟨by rw [← HZ.out]; rfl, B1.out⟩
  | true =>
  go_wp2_with fail
  refine (H1.out _).mono ?_
  rintro e w1 ⟨rfl, rfl⟩
  clear H1
  cases X1 with
  | false =>
    clear hsq
    have HZ : Hid (false = R) := by show _ = _; rw [← HR.out]; simp
    clear HR
    go_wp2
    go_ret
    exact ⟨by rw [← HZ.out]; rfl, B1.out⟩
  | true =>
  by_cases hne : f = t
  · subst hne
    clear hsq
    have HZ : Hid (false = R) := by show _ = _; rw [← HR.out]; simp
    clear HR
    go_wp2
    go_ret
    exact ⟨by rw [← HZ.out]; rfl, B1.out⟩
  have dne : (f != t) = true := by simp [hne]
  have HNe : Hid (decide (f ≠ t) = true) := decide_eq_true hne
  rw [HNe.out] at HR
  clear hne HNe
  go_wp2_with fail
  refine (H2.out _).mono ?_
  rintro e w1 ⟨rfl, rfl⟩
  clear H2
  cases X2 with
  | false =>
    clear hsq
    have HZ : Hid (false = R) := by show _ = _; rw [← HR.out]; simp
    clear HR
    go_wp2
    go_ret
    exact ⟨by rw [← HZ.out]; rfl, B1.out⟩
  | true =>
  go_wp2_with fail
  refine (H3.out _).mono ?_
  rintro e w1 ⟨rfl, rfl⟩
  clear H3
  cases X3 with
  | false =>
    clear hsq
    have HZ : Hid (false = R) := by show _ = _; rw [← HR.out]; simp
    clear HR
    go_wp2
    go_ret
    exact ⟨by rw [← HZ.out]; rfl, B1.out⟩
  | true =>
  go_wp2_with fail
  refine (H4.out _).mono ?_
  rintro e w1 ⟨rfl, rfl⟩
  clear H4
  cases X4 with
  | false =>
    clear hsq
    have HZ : Hid (false = R) := by show _ = _; rw [← HR.out]; simp
    clear HR
    go_wp2
    go_ret
    exact ⟨by rw [← HZ.out]; rfl, B1.out⟩
  | true =>
  go_wp2_with fail
  refine (H5.out _).mono ?_
  rintro e w1 ⟨rfl, rfl⟩
  clear H5
  cases X5 with
  | false =>
    clear hsq
    have HZ : Hid (false = R) := by show _ = _; rw [← HR.out]; simp
    clear HR
    go_wp2
    go_ret
    exact ⟨by rw [← HZ.out]; rfl, B1.out⟩
  | true =>
  have hs0 := hsq (by trivial)
  clear hsq
  by_cases hl : s.size ≤ 32768
  rotate_left
  · have d1 : decide ((s.size : Int) ≤ 32768) = false := decide_eq_false (by omega)
    have HZ : Hid (false = R) := by show _ = _; rw [← HR.out, decide_eq_false hl]; simp
    clear HR
    go_wp2
    go_ret
    exact ⟨by rw [← HZ.out]; rfl, B1.out⟩
  have d1 : decide ((s.size : Int) ≤ 32768) = true := decide_eq_true (by omega)
  rw [decide_eq_true hl] at HR
  by_cases he : s.size = 0
  · have e := nil_of he
    have HZ : Hid (true = R) := by show _ = _; rw [← HR.out, decide_eq_true he]; simp
    subst e
    clear he HR
    by_cases hz : sq = 0
    · subst hz
      go_wp2
      go_ret
      exact ⟨by rw [← HZ.out]; rfl, B1.out⟩
    · have z1 : (sq != 0) = true := by simp [hz]
      have z2 : decide (0 < sq) = true := decide_eq_true (by omega)
      go_wp2
      go_ret
      exact ⟨by rw [← HZ.out]; rfl, B1.out⟩
  · obtain ⟨n1, n2, n3⟩ := ne_of he
    rw [decide_eq_false he] at HR
    by_cases hz : sq = 0
    · have HZ : Hid (false = R) := by show _ = _; rw [← HR.out]; simp [hz]
      subst hz
      clear HR
      go_wp2
      go_ret
      exact ⟨by rw [← HZ.out]; rfl, B1.out⟩
    · have z1 : (sq != 0) = true := by simp [hz]
      have z2 : decide (0 < sq) = true := decide_eq_true (by omega)
      have HZ : Hid (true = R) := by show _ = _; rw [← HR.out]; simp [hz]
      clear HR
      go_wp2
      go_ret
      exact ⟨by rw [← HZ.out]; rfl, B1.out⟩
set_option maxRecDepth 100000 in
set_option maxHeartbeats 8000000 in
theorem refCheckPk_any (x : Pk) (w : World) : Calls Tryz.prog 8 #[.agg x.cells] w fun e w' => e = .returned (.bool (pkB x)) ∧ Below w.heap.size w w' := by
  obtain ⟨f, t, fl, tl, sq, ak, s⟩ := x
  have hE : pkB ⟨f, t, fl, tl, sq, ak, s⟩ = (nodB f && (nodB t && (decide (f ≠ t) && (cntI fl && (cntI tl && (seqB sq && (seqB ak && (decide (s.size ≤ 32768) && (decide (s.size = 0) || decide (sq ≠ 0)))))))))) := rfl
  obtain ⟨R, hR⟩ : ∃ R, pkB ⟨f, t, fl, tl, sq, ak, s⟩ = R := ⟨_, rfl⟩
  have HR : Hid ((nodB f && (nodB t && (decide (f ≠ t) && (cntI fl && (cntI tl && (seqB sq && (seqB ak && (decide (s.size ≤ 32768) && (decide (s.size = 0) || decide (sq ≠ 0)))))))))) = R) := by rw [← hE]; exact hR
  rw [hR]
  clear hE hR
  have H0 : Hid (∀ W, Calls Tryz.prog 18 #[.int .i64 f, .int .i64 1, .int .i64 15] W fun e w' => e = .returned (.bool (nodB f)) ∧ w' = W) := fun W => in_any f 1 15 W
  have H1 : Hid (∀ W, Calls Tryz.prog 18 #[.int .i64 t, .int .i64 1, .int .i64 15] W fun e w' => e = .returned (.bool (nodB t)) ∧ w' = W) := fun W => in_any t 1 15 W
  have H2 : Hid (∀ W, Calls Tryz.prog 18 #[.int .i64 fl, .int .i64 1, .int .i64 1099511627775] W fun e w' => e = .returned (.bool (cntI fl)) ∧ w' = W) := fun W => in_any fl 1 1099511627775 W
  have H3 : Hid (∀ W, Calls Tryz.prog 18 #[.int .i64 tl, .int .i64 1, .int .i64 1099511627775] W fun e w' => e = .returned (.bool (cntI tl)) ∧ w' = W) := fun W => in_any tl 1 1099511627775 W
  have H4 : Hid (∀ W, Calls Tryz.prog 18 #[.int .i64 sq, .int .i64 0, .int .i64 1099511627775] W fun e w' => e = .returned (.bool (seqB sq)) ∧ w' = W) := fun W => in_any sq 0 1099511627775 W
  have H5 : Hid (∀ W, Calls Tryz.prog 18 #[.int .i64 ak, .int .i64 0, .int .i64 1099511627775] W fun e w' => e = .returned (.bool (seqB ak)) ∧ w' = W) := fun W => in_any ak 0 1099511627775 W
  have hsq : seqB sq = true → 0 ≤ sq := fun h => by
    unfold seqB at h
    rw [Bool.and_eq_true, decide_eq_true_eq] at h
    exact h.1
  generalize nodB f = X0 at *
  generalize nodB t = X1 at *
  generalize cntI fl = X2 at *
  generalize cntI tl = X3 at *
  generalize seqB sq = X4 at *
  generalize seqB ak = X5 at *
  obtain ⟨w1, hw1⟩ : ∃ w1, w1 = w.alloc (.cells #[.int .i64 f, .int .i64 t, .int .i64 fl, .int .i64 tl, .int .i64 sq, .int .i64 ak, .string s] 28) := ⟨_, rfl⟩
  have B1 : Hid (Below w.heap.size w w1) := by show Below _ _ _; rw [hw1]; exact al_f _ _
  have hk : w1.heap[w.heap.size]? = some (.cells #[.int .i64 f, .int .i64 t, .int .i64 fl, .int .i64 tl, .int .i64 sq, .int .i64 ak, .string s] 28 (0, 0)) := by rw [hw1]; exact nw_at _ _
  have c0 : w1.cell? ⟨w.heap.size, 0, none⟩ = some (.int .i64 f) := by rw [Lib.cell_of_heap hk]; rfl
  have c1 : w1.cell? ⟨w.heap.size, 1, none⟩ = some (.int .i64 t) := by rw [Lib.cell_of_heap hk]; rfl
  have c2 : w1.cell? ⟨w.heap.size, 2, none⟩ = some (.int .i64 fl) := by rw [Lib.cell_of_heap hk]; rfl
  have c3 : w1.cell? ⟨w.heap.size, 3, none⟩ = some (.int .i64 tl) := by rw [Lib.cell_of_heap hk]; rfl
  have c4 : w1.cell? ⟨w.heap.size, 4, none⟩ = some (.int .i64 sq) := by rw [Lib.cell_of_heap hk]; rfl
  have c5 : w1.cell? ⟨w.heap.size, 5, none⟩ = some (.int .i64 ak) := by rw [Lib.cell_of_heap hk]; rfl
  have c6 : w1.cell? ⟨w.heap.size, 6, none⟩ = some (.string s) := by rw [Lib.cell_of_heap hk]; rfl
  clear hk
  rw [hw1] at c0 c1 c2 c3 c4 c5 c6
  show Calls _ _ #[.agg #[.int .i64 f, .int .i64 t, .int .i64 fl, .int .i64 tl, .int .i64 sq, .int .i64 ak, .string s]] _ _
  go_enter Tryz.func8, Tryz.ntmps8
  go_wp2_with fail
  rw [← hw1]
  rw [← hw1] at c0 c1 c2 c3 c4 c5 c6
  clear hw1
  refine (H0.out _).mono ?_
  rintro e w1 ⟨rfl, rfl⟩
  clear H0
  cases X0 with
  | false =>
    clear hsq
    have HZ : Hid (false = R) := by show _ = _; rw [← HR.out]; simp
    clear HR
    go_wp2
    go_ret
    exact ⟨by rw [← HZ.out]; rfl, B1.out⟩
  | true =>
  go_wp2_with fail
  refine (H1.out _).mono ?_
  rintro e w1 ⟨rfl, rfl⟩
  clear H1
  cases X1 with
  | false =>
    clear hsq
    have HZ : Hid (false = R) := by show _ = _; rw [← HR.out]; simp
    clear HR
    go_wp2
    go_ret
    exact ⟨by rw [← HZ.out]; rfl, B1.out⟩
  | true =>
  by_cases hne : f = t
  · subst hne
    clear hsq
    have HZ : Hid (false = R) := by show _ = _; rw [← HR.out]; simp
    clear HR
    go_wp2
    go_ret
    exact ⟨by rw [← HZ.out]; rfl, B1.out⟩
  have dne : (f != t) = true := by simp [hne]
  have HNe : Hid (decide (f ≠ t) = true) := decide_eq_true hne
  rw [HNe.out] at HR
  clear hne HNe
  go_wp2_with fail
  refine (H2.out _).mono ?_
  rintro e w1 ⟨rfl, rfl⟩
  clear H2
  cases X2 with
  | false =>
    clear hsq
    have HZ : Hid (false = R) := by show _ = _; rw [← HR.out]; simp
    clear HR
    go_wp2
    go_ret
    exact ⟨by rw [← HZ.out]; rfl, B1.out⟩
  | true =>
  go_wp2_with fail
  refine (H3.out _).mono ?_
  rintro e w1 ⟨rfl, rfl⟩
  clear H3
  cases X3 with
  | false =>
    clear hsq
    have HZ : Hid (false = R) := by show _ = _; rw [← HR.out]; simp
    clear HR
    go_wp2
    go_ret
    exact ⟨by rw [← HZ.out]; rfl, B1.out⟩
  | true =>
  go_wp2_with fail
  refine (H4.out _).mono ?_
  rintro e w1 ⟨rfl, rfl⟩
  clear H4
  cases X4 with
  | false =>
    clear hsq
    have HZ : Hid (false = R) := by show _ = _; rw [← HR.out]; simp
    clear HR
    go_wp2
    go_ret
    exact ⟨by rw [← HZ.out]; rfl, B1.out⟩
  | true =>
  go_wp2_with fail
  refine (H5.out _).mono ?_
  rintro e w1 ⟨rfl, rfl⟩
  clear H5
  cases X5 with
  | false =>
    clear hsq
    have HZ : Hid (false = R) := by show _ = _; rw [← HR.out]; simp
    clear HR
    go_wp2
    go_ret
    exact ⟨by rw [← HZ.out]; rfl, B1.out⟩
  | true =>
  have hs0 := hsq (by trivial)
  clear hsq
  by_cases hl : s.size ≤ 32768
  rotate_left
  · have d1 : decide ((s.size : Int) ≤ 32768) = false := decide_eq_false (by omega)
    have HZ : Hid (false = R) := by show _ = _; rw [← HR.out, decide_eq_false hl]; simp
    clear HR
    go_wp2
    go_ret
    exact ⟨by rw [← HZ.out]; rfl, B1.out⟩
  have d1 : decide ((s.size : Int) ≤ 32768) = true := decide_eq_true (by omega)
  rw [decide_eq_true hl] at HR
  by_cases he : s.size = 0
  · have e := nil_of he
    have HZ : Hid (true = R) := by show _ = _; rw [← HR.out, decide_eq_true he]; simp
    subst e
    clear he HR
    by_cases hz : sq = 0
    · subst hz
      go_wp2
      go_ret
      exact ⟨by rw [← HZ.out]; rfl, B1.out⟩
    · have z1 : (sq != 0) = true := by simp [hz]
      have z2 : decide (0 < sq) = true := decide_eq_true (by omega)
      go_wp2
      go_ret
      exact ⟨by rw [← HZ.out]; rfl, B1.out⟩
  · obtain ⟨n1, n2, n3⟩ := ne_of he
    rw [decide_eq_false he] at HR
    by_cases hz : sq = 0
    · have HZ : Hid (false = R) := by show _ = _; rw [← HR.out]; simp [hz]
      subst hz
      clear HR
      go_wp2
      go_ret
      exact ⟨by rw [← HZ.out]; rfl, B1.out⟩
    · have z1 : (sq != 0) = true := by simp [hz]
      have z2 : decide (0 < sq) = true := decide_eq_true (by omega)
      have HZ : Hid (true = R) := by show _ = _; rw [← HR.out]; simp [hz]
      clear HR
      go_wp2
      go_ret
      exact ⟨by rw [← HZ.out]; rfl, B1.out⟩
end Go.Proofs.YtoplpohpodkpdaaGreatDoor
/- Plain mathematics of the numbers' bytes: no program in sight. -/
namespace Go.Proofs.YtoplpohpodkpdaaGreatDoor.Q
open Go.RowKit
def qsize (n : Int) : Int := if n < 0 ∨ 4611686018427387903 < n then 0 else if n < 64 then 1 else if n < 16384 then 2 else if n < 1073741824 then 4 else 8

theorem qsize_1 {n : Int} (h0 : 0 ≤ n) (h1 : n < 64) : qsize n = 1 := by unfold qsize; rw [if_neg (by omega), if_pos (by omega)]
theorem qsize_2 {n : Int} (h0 : 64 ≤ n) (h1 : n < 16384) : qsize n = 2 := by unfold qsize; rw [if_neg (by omega), if_neg (by omega), if_pos (by omega)]
theorem qsize_4 {n : Int} (h0 : 16384 ≤ n) (h1 : n < 1073741824) : qsize n = 4 := by unfold qsize; rw [if_neg (by omega), if_neg (by omega), if_neg (by omega), if_pos (by omega)]
theorem qsize_8 {n : Int} (h0 : 1073741824 ≤ n) (h1 : n ≤ 4611686018427387903) : qsize n = 8 := by unfold qsize; rw [if_neg (by omega), if_neg (by omega), if_neg (by omega), if_neg (by omega)]
theorem qsize_0 {n : Int} (h0 : n < 0 ∨ 4611686018427387903 < n) : qsize n = 0 := by unfold qsize; rw [if_pos (by omega)]
def numI (n : Int) : List Int :=
  if n < 0 ∨ 4611686018427387903 < n then []
  else if n < 64 then [n]
  else if n < 16384 then [64 + n / 256, n % 256]
  else if n < 1073741824 then [128 + n / 16777216, n / 65536 % 256, n / 256 % 256, n % 256]
  else [192 + n / 72057594037927936, n / 281474976710656 % 256, n / 1099511627776 % 256, n / 4294967296 % 256, n / 16777216 % 256, n / 65536 % 256, n / 256 % 256, n % 256]
theorem numI_0 {n : Int} (h0 : n < 0 ∨ 4611686018427387903 < n) : numI n = [] := by unfold numI; rw [if_pos h0]
theorem numI_1 {n : Int} (h0 : 0 ≤ n) (h1 : n < 64) : numI n = [n] := by unfold numI; rw [if_neg (by omega), if_pos (by omega)]
theorem numI_2 {n : Int} (h0 : 64 ≤ n) (h1 : n < 16384) : numI n = [64 + n / 256, n % 256] := by unfold numI; rw [if_neg (by omega), if_neg (by omega), if_pos (by omega)]
theorem numI_4 {n : Int} (h0 : 16384 ≤ n) (h1 : n < 1073741824) : numI n = [128 + n / 16777216, n / 65536 % 256, n / 256 % 256, n % 256] := by unfold numI; rw [if_neg (by omega), if_neg (by omega), if_neg (by omega), if_pos (by omega)]
theorem numI_8 {n : Int} (h0 : 1073741824 ≤ n) (h1 : n ≤ 4611686018427387903) : numI n = [192 + n / 72057594037927936, n / 281474976710656 % 256, n / 1099511627776 % 256, n / 4294967296 % 256, n / 16777216 % 256, n / 65536 % 256, n / 256 % 256, n % 256] := by unfold numI; rw [if_neg (by omega), if_neg (by omega), if_neg (by omega), if_neg (by omega)]
theorem or_all : (List.range 64).all (fun a => bits BinOp.or IntKind.u8 (a : Int) 64 == 64 + (a : Int) && (bits BinOp.or IntKind.u8 (a : Int) 128 == 128 + (a : Int) && (bits BinOp.or IntKind.u8 (a : Int) 192 == 192 + (a : Int) && bits BinOp.or IntKind.u8 (a : Int) 0 == (a : Int)))) = true := by decide +kernel
theorem or_at (a : Int) (h0 : 0 ≤ a) (h1 : a < 64) : bits BinOp.or IntKind.u8 a 64 = 64 + a ∧ bits BinOp.or IntKind.u8 a 128 = 128 + a ∧ bits BinOp.or IntKind.u8 a 192 = 192 + a ∧ bits BinOp.or IntKind.u8 a 0 = a := by
  have h := List.all_eq_true.1 or_all a.toNat (by simp; omega)
  rw [Int.toNat_of_nonneg h0] at h
  simp only [Bool.and_eq_true, beq_iff_eq] at h
  exact ⟨h.1, h.2.1, h.2.2.1, h.2.2.2⟩


/-- A byte of a text, as a number; 0 beyond its end. -/
def bt (s : ByteArray) (i : Nat) : Int := if h : i < s.size then ((s[i]'h).toNat : Int) else 0
theorem bt_eq {s : ByteArray} {i : Nat} (h : i < s.size) : ((s[i]'h).toNat : Int) = bt s i := by unfold bt; rw [dif_pos h]
theorem bt_rng (s : ByteArray) (i : Nat) : 0 ≤ bt s i ∧ bt s i < 256 := by
  unfold bt; split
  · rename_i h; have := (s[i]'h).toNat_lt; omega
  · omega
/-- How many bytes the form at the front of bytes has. -/
def gsz (s : ByteArray) : Nat := if bt s 0 < 64 then 1 else if bt s 0 < 128 then 2 else if bt s 0 < 192 then 4 else 8
/-- The number that they say. -/
def gval (s : ByteArray) : Int := if bt s 0 < 64 then bt s 0 % 64 else if bt s 0 < 128 then (bt s 0 % 64) * 256 + bt s 1 else if bt s 0 < 192 then (((bt s 0 % 64) * 256 + bt s 1) * 256 + bt s 2) * 256 + bt s 3 else (((((((bt s 0 % 64) * 256 + bt s 1) * 256 + bt s 2) * 256 + bt s 3) * 256 + bt s 4) * 256 + bt s 5) * 256 + bt s 6) * 256 + bt s 7
/-- The error: 7, if they end too early; 3, if there is a shorter form. -/
def getE (s : ByteArray) : Int := if s.size < gsz s then 7 else if qsize (gval s) = gsz s then 0 else 3
def getV (s : ByteArray) : Int := if getE s = 0 then gval s else 0
def getRest (s : ByteArray) : ByteArray := if getE s = 0 then s.extract (gsz s) s.size else ⟨#[]⟩
theorem gsz_pos (s : ByteArray) : 1 ≤ gsz s := by unfold gsz; (repeat' split) <;> omega
end Go.Proofs.YtoplpohpodkpdaaGreatDoor.Q
/- The program's own walks: quic.Size and the reference's, math/bits.TrailingZeros at 1, 2, 4, 8, quic.Num. -/
namespace Go.Proofs.YtoplpohpodkpdaaGreatDoor.Q
open Go.RowKit

set_option maxHeartbeats 400000 in
theorem refSize_any (n : Int) (w : World) :
    Calls Tryz.prog 30 #[.int .i64 n] w fun e w' => e = .returned (.int .i64 (qsize n)) ∧ w' = w := by
  go_enter Tryz.func30, Tryz.ntmps30
  go_wp2
  all_goals
    go_ret
    refine ⟨ret_int ?_, rfl⟩
    unfold qsize
    repeat (first | rw [if_pos (by omega)] | rw [if_neg (by omega)])

set_option maxHeartbeats 400000 in
theorem size_any (n : Int) (w : World) :
    Calls Tryz.prog 43 #[.int .i64 n] w fun e w' => e = .returned (.int .i64 (qsize n)) ∧ w' = w := by
  go_enter Tryz.func43, Tryz.ntmps43
  go_wp2
  all_goals
    go_ret
    refine ⟨ret_int ?_, rfl⟩
    unfold qsize
    repeat (first | rw [if_pos (by omega)] | rw [if_neg (by omega)])


structure Tab (w : World) : Prop where
  c0 : w.cell? ⟨2, 0, none⟩ = some (.int .u8 0)
  c1 : w.cell? ⟨2, 1, none⟩ = some (.int .u8 1)
  c3 : w.cell? ⟨2, 3, none⟩ = some (.int .u8 2)
  c7 : w.cell? ⟨2, 7, none⟩ = some (.int .u8 3)



theorem tzkey_1 : IntKind.u64.wrap (bits BinOp.and IntKind.u64 1 (IntKind.u64.wrap (-1)) * 285870213051353865) / 288230376151711744 = 0 := by decide +kernel
set_option maxHeartbeats 400000 in
theorem tz_1 (w : World) (h : Tab w) : Calls Tryz.prog 67 #[.int .u64 1] w fun e w' => e = .returned (.int .i64 0) ∧ w' = w := by
  have hc := h.c0
  go_enter Tryz.func67, Tryz.ntmps67
  go_wp2_with (first | simp only [tzkey_1] | go_in)
  go_ret
  exact ⟨rfl, rfl⟩

theorem tzkey_2 : IntKind.u64.wrap (bits BinOp.and IntKind.u64 2 (IntKind.u64.wrap (-2)) * 285870213051353865) / 288230376151711744 = 1 := by decide +kernel
set_option maxHeartbeats 400000 in
theorem tz_2 (w : World) (h : Tab w) : Calls Tryz.prog 67 #[.int .u64 2] w fun e w' => e = .returned (.int .i64 1) ∧ w' = w := by
  have hc := h.c1
  go_enter Tryz.func67, Tryz.ntmps67
  go_wp2_with (first | simp only [tzkey_2] | go_in)
  go_ret
  exact ⟨rfl, rfl⟩

theorem tzkey_4 : IntKind.u64.wrap (bits BinOp.and IntKind.u64 4 (IntKind.u64.wrap (-4)) * 285870213051353865) / 288230376151711744 = 3 := by decide +kernel
set_option maxHeartbeats 400000 in
theorem tz_4 (w : World) (h : Tab w) : Calls Tryz.prog 67 #[.int .u64 4] w fun e w' => e = .returned (.int .i64 2) ∧ w' = w := by
  have hc := h.c3
  go_enter Tryz.func67, Tryz.ntmps67
  go_wp2_with (first | simp only [tzkey_4] | go_in)
  go_ret
  exact ⟨rfl, rfl⟩

theorem tzkey_8 : IntKind.u64.wrap (bits BinOp.and IntKind.u64 8 (IntKind.u64.wrap (-8)) * 285870213051353865) / 288230376151711744 = 7 := by decide +kernel
set_option maxHeartbeats 400000 in
theorem tz_8 (w : World) (h : Tab w) : Calls Tryz.prog 67 #[.int .u64 8] w fun e w' => e = .returned (.int .i64 3) ∧ w' = w := by
  have hc := h.c7
  go_enter Tryz.func67, Tryz.ntmps67
  go_wp2_with (first | simp only [tzkey_8] | go_in)
  go_ret
  exact ⟨rfl, rfl⟩


theorem Tab.below {B : Nat} {w w' : World} (h : Tab w) (hb : Below B w w') (hB : 2 < B) : Tab w' :=
  ⟨(hb.cell (p := ⟨2, 0, none⟩) hB).trans h.c0, (hb.cell (p := ⟨2, 1, none⟩) hB).trans h.c1, (hb.cell (p := ⟨2, 3, none⟩) hB).trans h.c3, (hb.cell (p := ⟨2, 7, none⟩) hB).trans h.c7⟩
theorem Tab.size {w : World} (h : Tab w) : 2 < w.heap.size := by
  exact block_lt_of_cell h.c0




theorem cv_any (w : World) (xs : List Int) (l : Nat) (hl : xs.length = l) (C : Array Value) (hC : C = (xs.map (Value.int .u8)).toArray) :
    (convert 74 9 (.slice (some ⟨w.heap.size, 0, none⟩) l l)).run Tryz.prog (w.alloc (.cells C 5)).drew = .ok (.string (strOfNums xs)) (w.alloc (.cells C 5)).drew := by
  refine run_convert_bytes_arg _ 74 5 Tryz.underlying74 Tryz.underlying5 w.heap.size 0 l l xs hl ?_ 9 Tryz.underlying9
  intro i hi
  subst hC
  rw [World.cell?_drew, World.cell?_alloc_at _ _ _ _ rfl]
  have : i < xs.length := by omega
  simp [List.getD, this]

theorem mk1 (w : World) : (Instr.makeSlice 74 (.int .i64 1) (.int .i64 1)).run Tryz.prog w = .ok (.slice (some ⟨w.heap.size, 0, none⟩) 1 1) (w.alloc (.cells #[.int .u8 0] 5)) := by kernel_rfl
theorem cv1 (w : World) (a : Int) : (convert 74 9 (.slice (some ⟨w.heap.size, 0, none⟩) 1 1)).run Tryz.prog (w.alloc (.cells #[.int .u8 a] 5)).drew = .ok (.string (strOfNums [a])) (w.alloc (.cells #[.int .u8 a] 5)).drew :=
  cv_any w [a] 1 rfl _ rfl
set_option maxHeartbeats 800000 in
theorem num_1 (n : Int) (w : World) (h0 : 0 ≤ n) (h1 : n < 64) (hT : Tab w) :
    Calls Tryz.prog 37 #[.int .i64 n] w fun e w' => e = .returned (.string (strOfNums (numI n))) ∧ Below w.heap.size w w' := by
  have hm := mk1
  have hcv := cv1
  have hsz := hT.size
  go_enter Tryz.func37, Tryz.ntmps37
  go_wp2_with (go_at_call 43; refine (size_any _ _).mono ?_; rw [qsize_1 h0 h1]; rintro e _ ⟨rfl, rfl⟩)
  refine wp_loop_rounds 2 ?_
  rw [rounds_succ]
  go_wp2
  rw [rounds_succ]
  go_wp2
  go_region_with (go_at_call 67; refine (tz_1 _ ?_).mono ?_; exact hT.below (by repeat (first | exact Below.refl _ _ | refine Below.drew ?_ | refine Below.alloc ?_ (Nat.le_refl _) _)) hsz; rintro e _ ⟨rfl, rfl⟩)
  all_goals go_wp2
  all_goals go_ret
  all_goals
    refine ⟨ret_str ?_, (((Below.refl _ _).alloc (Nat.le_refl _) _).drew)⟩
    rw [numI_1 h0 h1, (or_at _ (by omega) (by omega)).2.2.2]

theorem mk2 (w : World) : (Instr.makeSlice 74 (.int .i64 2) (.int .i64 2)).run Tryz.prog w = .ok (.slice (some ⟨w.heap.size, 0, none⟩) 2 2) (w.alloc (.cells #[.int .u8 0, .int .u8 0] 5)) := by kernel_rfl
theorem cv2 (w : World) (a b : Int) : (convert 74 9 (.slice (some ⟨w.heap.size, 0, none⟩) 2 2)).run Tryz.prog (w.alloc (.cells #[.int .u8 a, .int .u8 b] 5)).drew = .ok (.string (strOfNums [a, b])) (w.alloc (.cells #[.int .u8 a, .int .u8 b] 5)).drew :=
  cv_any w [a, b] 2 rfl _ rfl
set_option maxHeartbeats 800000 in
theorem num_2 (n : Int) (w : World) (h0 : 64 ≤ n) (h1 : n < 16384) (hT : Tab w) :
    Calls Tryz.prog 37 #[.int .i64 n] w fun e w' => e = .returned (.string (strOfNums (numI n))) ∧ Below w.heap.size w w' := by
  have hm := mk2
  have hcv := cv2
  have hsz := hT.size
  go_enter Tryz.func37, Tryz.ntmps37
  go_wp2_with (go_at_call 43; refine (size_any _ _).mono ?_; rw [qsize_2 h0 h1]; rintro e _ ⟨rfl, rfl⟩)
  refine wp_loop_rounds 3 ?_
  rw [rounds_succ]
  go_wp2
  rw [rounds_succ]
  go_wp2
  rw [rounds_succ]
  go_wp2
  go_region_with (go_at_call 67; refine (tz_2 _ ?_).mono ?_; exact hT.below (by repeat (first | exact Below.refl _ _ | refine Below.drew ?_ | refine Below.alloc ?_ (Nat.le_refl _) _)) hsz; rintro e _ ⟨rfl, rfl⟩)
  all_goals go_wp2
  all_goals go_ret
  all_goals
    refine ⟨ret_str ?_, (((Below.refl _ _).alloc (Nat.le_refl _) _).drew)⟩
    rw [numI_2 h0 h1, (or_at _ (by omega) (by omega)).1]

theorem mk4 (w : World) : (Instr.makeSlice 74 (.int .i64 4) (.int .i64 4)).run Tryz.prog w = .ok (.slice (some ⟨w.heap.size, 0, none⟩) 4 4) (w.alloc (.cells #[.int .u8 0, .int .u8 0, .int .u8 0, .int .u8 0] 5)) := by kernel_rfl
theorem cv4 (w : World) (a b c d : Int) : (convert 74 9 (.slice (some ⟨w.heap.size, 0, none⟩) 4 4)).run Tryz.prog (w.alloc (.cells #[.int .u8 a, .int .u8 b, .int .u8 c, .int .u8 d] 5)).drew = .ok (.string (strOfNums [a, b, c, d])) (w.alloc (.cells #[.int .u8 a, .int .u8 b, .int .u8 c, .int .u8 d] 5)).drew :=
  cv_any w [a, b, c, d] 4 rfl _ rfl
set_option maxHeartbeats 800000 in
theorem num_4 (n : Int) (w : World) (h0 : 16384 ≤ n) (h1 : n < 1073741824) (hT : Tab w) :
    Calls Tryz.prog 37 #[.int .i64 n] w fun e w' => e = .returned (.string (strOfNums (numI n))) ∧ Below w.heap.size w w' := by
  have hm := mk4
  have hcv := cv4
  have hsz := hT.size
  go_enter Tryz.func37, Tryz.ntmps37
  go_wp2_with (go_at_call 43; refine (size_any _ _).mono ?_; rw [qsize_4 h0 h1]; rintro e _ ⟨rfl, rfl⟩)
  refine wp_loop_rounds 5 ?_
  rw [rounds_succ]
  go_wp2
  rw [rounds_succ]
  go_wp2
  rw [rounds_succ]
  go_wp2
  rw [rounds_succ]
  go_wp2
  rw [rounds_succ]
  go_wp2
  go_region_with (go_at_call 67; refine (tz_4 _ ?_).mono ?_; exact hT.below (by repeat (first | exact Below.refl _ _ | refine Below.drew ?_ | refine Below.alloc ?_ (Nat.le_refl _) _)) hsz; rintro e _ ⟨rfl, rfl⟩)
  all_goals go_wp2
  all_goals go_ret
  all_goals
    refine ⟨ret_str ?_, (((Below.refl _ _).alloc (Nat.le_refl _) _).drew)⟩
    rw [numI_4 h0 h1, (or_at _ (by omega) (by omega)).2.1]
    all_goals (simp only [List.cons.injEq, and_true]; omega)

theorem mk8 (w : World) : (Instr.makeSlice 74 (.int .i64 8) (.int .i64 8)).run Tryz.prog w = .ok (.slice (some ⟨w.heap.size, 0, none⟩) 8 8) (w.alloc (.cells #[.int .u8 0, .int .u8 0, .int .u8 0, .int .u8 0, .int .u8 0, .int .u8 0, .int .u8 0, .int .u8 0] 5)) := by kernel_rfl
theorem cv8 (w : World) (a b c d e f g h : Int) : (convert 74 9 (.slice (some ⟨w.heap.size, 0, none⟩) 8 8)).run Tryz.prog (w.alloc (.cells #[.int .u8 a, .int .u8 b, .int .u8 c, .int .u8 d, .int .u8 e, .int .u8 f, .int .u8 g, .int .u8 h] 5)).drew = .ok (.string (strOfNums [a, b, c, d, e, f, g, h])) (w.alloc (.cells #[.int .u8 a, .int .u8 b, .int .u8 c, .int .u8 d, .int .u8 e, .int .u8 f, .int .u8 g, .int .u8 h] 5)).drew :=
  cv_any w [a, b, c, d, e, f, g, h] 8 rfl _ rfl
set_option maxHeartbeats 800000 in
theorem num_8 (n : Int) (w : World) (h0 : 1073741824 ≤ n) (h1 : n ≤ 4611686018427387903) (hT : Tab w) :
    Calls Tryz.prog 37 #[.int .i64 n] w fun e w' => e = .returned (.string (strOfNums (numI n))) ∧ Below w.heap.size w w' := by
  have hm := mk8
  have hcv := cv8
  have hsz := hT.size
  go_enter Tryz.func37, Tryz.ntmps37
  go_wp2_with (go_at_call 43; refine (size_any _ _).mono ?_; rw [qsize_8 h0 h1]; rintro e _ ⟨rfl, rfl⟩)
  refine wp_loop_rounds 9 ?_
  rw [rounds_succ]
  go_wp2
  rw [rounds_succ]
  go_wp2
  rw [rounds_succ]
  go_wp2
  rw [rounds_succ]
  go_wp2
  rw [rounds_succ]
  go_wp2
  rw [rounds_succ]
  go_wp2
  rw [rounds_succ]
  go_wp2
  rw [rounds_succ]
  go_wp2
  rw [rounds_succ]
  go_wp2
  go_region_with (go_at_call 67; refine (tz_8 _ ?_).mono ?_; exact hT.below (by repeat (first | exact Below.refl _ _ | refine Below.drew ?_ | refine Below.alloc ?_ (Nat.le_refl _) _)) hsz; rintro e _ ⟨rfl, rfl⟩)
  all_goals go_wp2
  all_goals go_ret
  all_goals
    refine ⟨ret_str ?_, (((Below.refl _ _).alloc (Nat.le_refl _) _).drew)⟩
    rw [numI_8 h0 h1, (or_at _ (by omega) (by omega)).2.2.1]
    all_goals (simp only [List.cons.injEq, and_true]; omega)

set_option maxHeartbeats 400000 in
theorem num_0 (n : Int) (w : World) (h0 : n < 0 ∨ 4611686018427387903 < n) :
    Calls Tryz.prog 37 #[.int .i64 n] w fun e w' => e = .returned (.string (strOfNums (numI n))) ∧ Below w.heap.size w w' := by
  go_enter Tryz.func37, Tryz.ntmps37
  go_wp2_with (go_at_call 43; refine (size_any _ _).mono ?_; rw [qsize_0 h0]; rintro e _ ⟨rfl, rfl⟩)
  go_ret
  exact ⟨by rw [numI_0 h0]; rfl, Below.refl _ _⟩

/-- quic.Num: the bytes of every number. -/
theorem num_any (n : Int) (w : World) (hT : Tab w) :
    Calls Tryz.prog 37 #[.int .i64 n] w fun e w' => e = .returned (.string (strOfNums (numI n))) ∧ Below w.heap.size w w' := by
  by_cases h0 : n < 0 ∨ 4611686018427387903 < n
  · exact num_0 n w h0
  by_cases h1 : n < 64
  · exact num_1 n w (by omega) h1 hT
  by_cases h2 : n < 16384
  · exact num_2 n w (by omega) h2 hT
  by_cases h4 : n < 1073741824
  · exact num_4 n w (by omega) h4 hT
  · exact num_8 n w (by omega) (by omega) hT
end Go.Proofs.YtoplpohpodkpdaaGreatDoor.Q
