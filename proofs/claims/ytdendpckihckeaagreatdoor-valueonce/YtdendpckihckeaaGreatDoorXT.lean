/- ValueScans: for every text the law returns true. -/
import Derived.Test.YtdendpckihckeaaGreatDoorXS
import Derived.Deep.RegionHeld3
namespace Go.Proofs.YtdendpckihckeaaGreatDoor
open Go.RowKit

theorem few3_any (s : ByteArray) (w : World) : Calls Tryz.prog 8 #[.string s] w fun e w' => e = .returned (.bool (decide (s.size ≤ 2000))) ∧ w' = w := by
  by_cases h : s.size ≤ 2000
  · have h' : decide ((s.size : Int) ≤ 2000) = true := by simp; omega
    rw [decide_eq_true h]
    go_enter Tryz.func8, Tryz.ntmps8
    go_wp2
    go_ret
    exact ⟨rfl, rfl⟩
  · have h' : decide ((s.size : Int) ≤ 2000) = false := by simp; omega
    rw [decide_eq_false h]
    go_enter Tryz.func8, Tryz.ntmps8
    go_wp2
    go_ret
    exact ⟨rfl, rfl⟩
theorem VE.v {w : World} (h : VE w) : VT w := ⟨h.u, h.t, h.m⟩
/-- Two values, a reading and a value of the document that lie in four blocks, and what was there before. -/
abbrev S14 (w0 : World) (b1 b2 b3 b4 : Nat) (k n : Int) (t r : ByteArray) (e k' n' : Int) (t' : ByteArray) (w : World) : Prop :=
  w.cell? ⟨b1, 0, none⟩ = some (.int .i64 k) ∧ w.cell? ⟨b1, 1, none⟩ = some (.int .i64 n) ∧ w.cell? ⟨b1, 2, none⟩ = some (.string t) ∧ w.cell? ⟨b2, 0, none⟩ = some (.int .i64 k) ∧ w.cell? ⟨b2, 1, none⟩ = some (.int .i64 n) ∧ w.cell? ⟨b2, 2, none⟩ = some (.string t) ∧ w.cell? ⟨b2, 3, none⟩ = some (.string r) ∧ w.cell? ⟨b2, 4, none⟩ = some (.int .i64 e) ∧ w.cell? ⟨b3, 0, none⟩ = some (.int .i64 k') ∧ w.cell? ⟨b3, 1, none⟩ = some (.int .i64 n') ∧ w.cell? ⟨b3, 2, none⟩ = some (.string t') ∧ w.cell? ⟨b4, 0, none⟩ = some (.int .i64 k') ∧ w.cell? ⟨b4, 1, none⟩ = some (.int .i64 n') ∧ w.cell? ⟨b4, 2, none⟩ = some (.string t') ∧ b1 < w.heap.size ∧ b2 < w.heap.size ∧ b3 < w.heap.size ∧ b4 < w.heap.size ∧ Below w0.heap.size w0 w
theorem S14_call {w0 W w' : World} {b1 b2 b3 b4 : Nat} {k n : Int} {t r : ByteArray} {e k' n' : Int} {t' : ByteArray} (hb : Below W.heap.size W w') (h : S14 w0 b1 b2 b3 b4 k n t r e k' n' t' W) : S14 w0 b1 b2 b3 b4 k n t r e k' n' t' w' := by
  obtain ⟨a0, a1, a2, a3, a4, a5, a6, a7, a8, a9, a10, a11, a12, a13, l1, l2, l3, l4, hB⟩ := h
  exact ⟨(hb.cell (p := ⟨b1, 0, none⟩) l1).trans a0, (hb.cell (p := ⟨b1, 1, none⟩) l1).trans a1, (hb.cell (p := ⟨b1, 2, none⟩) l1).trans a2, (hb.cell (p := ⟨b2, 0, none⟩) l2).trans a3, (hb.cell (p := ⟨b2, 1, none⟩) l2).trans a4, (hb.cell (p := ⟨b2, 2, none⟩) l2).trans a5, (hb.cell (p := ⟨b2, 3, none⟩) l2).trans a6, (hb.cell (p := ⟨b2, 4, none⟩) l2).trans a7, (hb.cell (p := ⟨b3, 0, none⟩) l3).trans a8, (hb.cell (p := ⟨b3, 1, none⟩) l3).trans a9, (hb.cell (p := ⟨b3, 2, none⟩) l3).trans a10, (hb.cell (p := ⟨b4, 0, none⟩) l4).trans a11, (hb.cell (p := ⟨b4, 1, none⟩) l4).trans a12, (hb.cell (p := ⟨b4, 2, none⟩) l4).trans a13, Nat.lt_of_lt_of_le l1 hb.size, Nat.lt_of_lt_of_le l2 hb.size, Nat.lt_of_lt_of_le l3 hb.size, Nat.lt_of_lt_of_le l4 hb.size, hB.trans (hb.mono hB.size)⟩
theorem S14_drew {w0 W : World} {b1 b2 b3 b4 : Nat} {k n : Int} {t r : ByteArray} {e k' n' : Int} {t' : ByteArray} (h : S14 w0 b1 b2 b3 b4 k n t r e k' n' t' W) : S14 w0 b1 b2 b3 b4 k n t r e k' n' t' W.drew := by
  obtain ⟨a0, a1, a2, a3, a4, a5, a6, a7, a8, a9, a10, a11, a12, a13, l1, l2, l3, l4, hB⟩ := h
  exact ⟨a0, a1, a2, a3, a4, a5, a6, a7, a8, a9, a10, a11, a12, a13, l1, l2, l3, l4, hB.drew⟩
theorem S14_below {w0 W : World} {b1 b2 b3 b4 : Nat} {k n : Int} {t r : ByteArray} {e k' n' : Int} {t' : ByteArray} (h : S14 w0 b1 b2 b3 b4 k n t r e k' n' t' W) : Below w0.heap.size w0 W := h.2.2.2.2.2.2.2.2.2.2.2.2.2.2.2.2.2.2
abbrev v3cells (k n : Int) (s : ByteArray) : Obj := .cells #[.int .i64 k, .int .i64 n, .string s] 25
abbrev v5cells (k n : Int) (s r : ByteArray) (e : Int) : Obj := .cells #[.int .i64 k, .int .i64 n, .string s, .string r, .int .i64 e] 31
abbrev v3refs (k n : Int) (s : ByteArray) : Obj := .cells #[.int .i64 k, .int .i64 n, .string s] 29
theorem al_below (w : World) (o : Obj) : Below w.heap.size w (w.alloc o) := (Below.refl _ _).alloc (Nat.le_refl _) _
theorem S14_start {w w1 w2 w3 w4 : World} (k n : Int) (t r : ByteArray) (e k' n' : Int) (t' : ByteArray) (hb1 : Below w.heap.size w w1) (hb2 : Below (w1.alloc (v3cells k n t)).heap.size (w1.alloc (v3cells k n t)) w2) (hb3 : Below (w2.alloc (v5cells k n t r e)).heap.size (w2.alloc (v5cells k n t r e)) w3) (hb4 : Below (w3.alloc (v3cells k' n' t')).heap.size (w3.alloc (v3cells k' n' t')) w4) :
    S14 w w1.heap.size w2.heap.size w3.heap.size w4.heap.size k n t r e k' n' t' (w4.alloc (v3refs k' n' t')) := by
  have z1 : (w1.alloc (v3cells k n t)).heap.size = w1.heap.size + 1 := by simp [v3cells]
  have z2 : (w2.alloc (v5cells k n t r e)).heap.size = w2.heap.size + 1 := by simp [v5cells]
  have z3 : (w3.alloc (v3cells k' n' t')).heap.size = w3.heap.size + 1 := by simp [v3cells]
  have z4 : (w4.alloc (v3refs k' n' t')).heap.size = w4.heap.size + 1 := by simp [v3refs]
  have s1 := hb1.size
  have s2 := hb2.size
  have s3 := hb3.size
  have s4 := hb4.size
  have A4 := al_below w4 (v3refs k' n' t')
  have B3 := hb4.trans (A4.mono s4)
  have B2 := hb3.trans (((al_below w3 (v3cells k' n' t')).trans (B3.mono (by omega))).mono s3)
  have B1 := hb2.trans (((al_below w2 (v5cells k n t r e)).trans (B2.mono (by omega))).mono s2)
  have B0 := hb1.trans (((al_below w1 (v3cells k n t)).trans (B1.mono (by omega))).mono s1)
  have e1 : ∀ j, (w4.alloc (v3refs k' n' t')).cell? ⟨w1.heap.size, j, none⟩ = #[Value.int .i64 k, .int .i64 n, .string t][j]? := fun j => (B1.cell (p := ⟨w1.heap.size, j, none⟩) (show w1.heap.size < _ by omega)).trans (by simp [v3cells])
  have e2 : ∀ j, (w4.alloc (v3refs k' n' t')).cell? ⟨w2.heap.size, j, none⟩ = #[Value.int .i64 k, .int .i64 n, .string t, .string r, .int .i64 e][j]? := fun j => (B2.cell (p := ⟨w2.heap.size, j, none⟩) (show w2.heap.size < _ by omega)).trans (by simp [v5cells])
  have e3 : ∀ j, (w4.alloc (v3refs k' n' t')).cell? ⟨w3.heap.size, j, none⟩ = #[Value.int .i64 k', .int .i64 n', .string t'][j]? := fun j => (B3.cell (p := ⟨w3.heap.size, j, none⟩) (show w3.heap.size < _ by omega)).trans (by simp [v3cells])
  have e4 : ∀ j, (w4.alloc (v3refs k' n' t')).cell? ⟨w4.heap.size, j, none⟩ = #[Value.int .i64 k', .int .i64 n', .string t'][j]? := fun j => by simp [v3refs]
  exact ⟨e1 0, e1 1, e1 2, e2 0, e2 1, e2 2, e2 3, e2 4, e3 0, e3 1, e3 2, e4 0, e4 1, e4 2, by omega, by omega, by omega, by omega, B0⟩
set_option maxRecDepth 100000 in
set_option maxHeartbeats 8000000 in
theorem scans_few (s : ByteArray) (w : World) (h1 : s.size ≤ 2000) (h : VE w) :
    Calls Tryz.prog 3 #[.string s] w fun e w' => e = .returned (.bool true) ∧ Below w.heap.size w w' := by
  have g1 : decide (s.size ≤ 2000) = true := by simpa using h1
  have hr1 := fun w h => scan_any s w (by omega) h
  have hr2 := fun w => refScan_any s w (by omega)
  have hr3 := fun w h => parse_any s w (by omega) h
  have hr4 := fun w => refParse_any s w (by omega)
  generalize scn s.data.toList = x at *
  generalize prs s.data.toList = y at *
  obtain ⟨k, n, t, r, e⟩ := x
  obtain ⟨k', n', t', r', e'⟩ := y
  simp only [scV, scS] at hr1 hr2 hr3 hr4
  generalize str t = T at *
  generalize str r = R at *
  generalize str t' = T' at *
  have HR : Hid (∀ w, VE w → Calls Tryz.prog 10 #[.string s] w fun e0 w' => e0 = .returned (.tuple #[vv k n T, .string R, .int .i64 e]) ∧ Below w.heap.size w w') := hr1
  have HF : Hid (∀ w, Calls Tryz.prog 11 #[.string s] w fun e0 w' => e0 = .returned (vs k n T R e) ∧ Below w.heap.size w w') := hr2
  have HP : Hid (∀ w, VE w → Calls Tryz.prog 12 #[.string s] w fun e0 w' => e0 = .returned (.tuple #[vv k' n' T', .int .i64 e']) ∧ Below w.heap.size w w') := hr3
  have HQ : Hid (∀ w, Calls Tryz.prog 13 #[.string s] w fun e0 w' => e0 = .returned (.tuple #[vv k' n' T', .int .i64 e']) ∧ Below w.heap.size w w') := hr4
  clear hr1 hr2 hr3 hr4
  go_enter Tryz.func3, Tryz.ntmps3
  go_wp2_with fail
  refine (few3_any _ _).mono ?_
  rintro e0 w0 ⟨rfl, rfl⟩
  rw [g1]
  go_wp2_with fail
  refine (HR.out _ h).mono ?_
  rintro e0 w1 ⟨rfl, hb1⟩
  go_wp2_with fail
  refine (HF.out _).mono ?_
  rintro e0 w2 ⟨rfl, hb2⟩
  have hs1 := hb1.size
  have hB2 : Below w0.heap.size w0 w2 := hb1.trans (((al_below w1 (v3cells k n T)).trans (hb2.mono (al_below w1 _).size)).mono hs1)
  have hs2 := hB2.size
  go_wp2_with fail
  refine (HP.out _ (h.below (hB2.alloc hs2 _))).mono ?_
  rintro e0 w3 ⟨rfl, hb3⟩
  go_wp2_with fail
  refine (HQ.out _).mono ?_
  rintro e0 w4 ⟨rfl, hb4⟩
  have hS := S14_start k n T R e k' n' T' hb1 hb2 hb3 hb4
  clear hb1 hb2 hb3 hb4 HR HF HP HQ hB2 hs1 hs2
  go_wp2_with fail
  generalize w4.alloc (v3refs k' n' T') = W at *
  generalize w1.heap.size = b1 at *
  generalize w2.heap.size = b2 at *
  generalize w3.heap.size = b3 at *
  generalize w4.heap.size = b4 at *
  go_region_held3 (fun w' => S14 w0 b1 b2 b3 b4 k n T R e k' n' T' w') (first | assumption | exact S14_call (by assumption) (by assumption) | exact S14_drew (by assumption))
    (first
      | (go_at_call 9; refine (awake_any _ ?_).mono ?_; exact (h.below (S14_below (by assumption))).v; rintro e0 w' ⟨rfl, hb⟩)
      | (go_at_call 14; refine (ref_any _ _ _ _).mono ?_; rintro e0 w' ⟨rfl, hb⟩))
  rename_i hS3
  have hB3 := S14_below hS3
  clear hS3 hS
  go_wp2
  go_ret
  exact ⟨rfl, hB3⟩
set_option maxRecDepth 100000 in
set_option maxHeartbeats 1000000 in
theorem valueScans_walk (s : ByteArray) (w : World) (_hs : s.size ≤ 140737488355328) (h : VE w) :
    Calls Tryz.prog 3 #[.string s] w fun e w' => e = .returned (.bool true) ∧ Below w.heap.size w w' := by
  by_cases h1 : s.size ≤ 2000
  · exact scans_few s w h1 h
  · have g1 : decide (s.size ≤ 2000) = false := by simpa using h1
    go_enter Tryz.func3, Tryz.ntmps3
    go_wp2_with fail
    refine (few3_any _ _).mono ?_
    rintro e0 w0 ⟨rfl, rfl⟩
    rw [g1]
    go_wp2_with fail
    refine (awake_any _ h.v).mono ?_
    rintro e0 w1 ⟨rfl, hb1⟩
    go_wp2
    go_ret
    exact ⟨rfl, hb1⟩
end Go.Proofs.YtdendpckihckeaaGreatDoor
