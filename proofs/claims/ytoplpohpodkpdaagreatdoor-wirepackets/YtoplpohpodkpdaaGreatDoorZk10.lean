/- ReadPacket of wire: its walk. -/
import Derived.Test.YtoplpohpodkpdaaGreatDoorZk4
import Derived.Test.YtoplpohpodkpdaaGreatDoorZk9
import Derived.Deep.RegionHeld3
namespace Go.Proofs.YtoplpohpodkpdaaGreatDoor
open Go.RowKit

abbrev zPk : Pk := ⟨0, 0, 0, 0, 0, 0, ⟨#[]⟩⟩
def pkOf : List It → Pk
  | [a, b, c, d, e, f, g] => ⟨a.n, b.n, c.n, d.n, e.n, f.n, g.s⟩
  | _ => zPk
abbrev k7 : List Int := [1, 1, 1, 1, 1, 1, 4]
/-- Which packet bytes say, and whether they say one. -/
def rdB (s : ByteArray) : Bool := decide ((Q.takeR s k7).2.2 = 0) && ((Q.takeR s k7).2.1.toList.isEmpty && pkB (pkOf (Q.takeR s k7).1))
def rdX (s : ByteArray) : Pk := if rdB s = true then pkOf (Q.takeR s k7).1 else zPk
def rdE (s : ByteArray) : Int := if rdB s = true then 0 else 3
theorem tk_ok : ∀ (ks : List Int) (acc : List It) (s : ByteArray), (Q.tk acc s ks).2.2 = 0 → (Q.tk acc s ks).1.length = acc.length + ks.length
  | [], acc, s, _ => by simp [Q.tk]
  | k :: ks, acc, s, h => by
    unfold Q.tk at h ⊢
    by_cases he : Q.tE s k = 0
    · rw [if_pos he] at h ⊢
      rw [tk_ok ks _ _ h, List.length_append, List.length_cons, List.length_cons]
      simp
      omega
    · rw [if_neg he] at h
      exact absurd h he
theorem seven {l : List It} (h : l.length = 7) : ∃ y0 y1 y2 y3 y4 y5 y6, l = [y0, y1, y2, y3, y4, y5, y6] := by
  match l, h with
  | [a, b, c, d, e, f, g], _ => exact ⟨a, b, c, d, e, f, g, rfl⟩
theorem take7 {s : ByteArray} (h : (Q.takeR s k7).2.2 = 0) : (Q.takeR s k7).1.length = 7 := by
  have e : Q.takeR s k7 = Q.tk [] s k7 := by unfold Q.takeR; rw [if_pos (by decide)]
  rw [e] at h ⊢
  exact tk_ok k7 [] s h
theorem row_k7 {w : World} {g : Nat} {ty : TypeId} {z : Nat × Nat} (h : w.heap[g]? = some (.cells #[.int .i64 1, .int .i64 1, .int .i64 1, .int .i64 1, .int .i64 1, .int .i64 1, .int .i64 4] ty z)) : IsRow w 1 (.slice (some ⟨g, 0, none⟩) 7 7) k7.length (Q.intCells k7) := by
  refine ⟨rfl, .inr ⟨g, 0, 7, rfl, (Array.getElem?_eq_some_iff.1 h).1, Nat.le_refl _, by decide, fun j u hu => ?_⟩⟩
  rw [Nat.zero_add, Lib.cell_of_heap h]
  have e : Q.intCells k7 = [.int .i64 1, .int .i64 1, .int .i64 1, .int .i64 1, .int .i64 1, .int .i64 1, .int .i64 4] := rfl
  rw [e] at hu
  rw [← hu]
  simp
theorem heap_st {w : World} {g : Nat} {C : Array Value} {ty : TypeId} {z : Nat × Nat} (h : w.heap[g]? = some (.cells C ty z)) (j : Nat) (v : Value) : (w.setCell ⟨g, j, none⟩ v).heap[g]? = some (.cells (C.setIfInBounds j v) ty z) := by
  show (w.heap.modify g _)[g]? = _
  rw [Array.getElem?_modify, if_pos rfl, h]
  rfl
/-- What ReadPacket leaves. -/
def RdPost (x : Pk) (z : Int) (w : World) (e : Ending) (w' : World) : Prop := e = .returned (.tuple #[.agg x.cells, .int .i64 z]) ∧ Below w.heap.size w w'
set_option maxRecDepth 100000 in
set_option maxHeartbeats 8000000 in
theorem readPacket_any (s : ByteArray) (w : World) (hs : s.size ≤ 140737488355328) : Calls Tryz.prog 5 #[.string s] w fun e w' => RdPost (rdX s) (rdE s) w e w' := by
  obtain ⟨w1, hw1⟩ : ∃ w1, w1 = w.alloc (.cells #[.int .i64 0, .int .i64 0, .int .i64 0, .int .i64 0, .int .i64 0, .int .i64 0, .string ⟨#[]⟩] 23) := ⟨_, rfl⟩
  have B1 : Hid (Below w.heap.size w w1) := by show Below _ _ _; rw [hw1]; exact al_f _ _
  have hk : w1.heap[w.heap.size]? = some (.cells #[.int .i64 0, .int .i64 0, .int .i64 0, .int .i64 0, .int .i64 0, .int .i64 0, .string ⟨#[]⟩] 23 (0, 0)) := by rw [hw1]; exact nw_at _ _
  have HK : Hid (∀ W, Below w1.heap.size w1 W → W.heap[w.heap.size]? = some (.cells #[.int .i64 0, .int .i64 0, .int .i64 0, .int .i64 0, .int .i64 0, .int .i64 0, .string ⟨#[]⟩] 23 (0, 0))) := fun W hb => (hb.block _ (Array.getElem?_eq_some_iff.1 hk).1).trans hk
  clear hk
  obtain ⟨w2, hw2⟩ : ∃ w2, w2 = w1.alloc (.cells #[.int .i64 1, .int .i64 1, .int .i64 1, .int .i64 1, .int .i64 1, .int .i64 1, .int .i64 4] 3) := ⟨_, rfl⟩
  have B2 : Hid (Below w1.heap.size w1 w2) := by show Below _ _ _; rw [hw2]; exact al_f _ _
  have hk : w2.heap[w1.heap.size]? = some (.cells #[.int .i64 1, .int .i64 1, .int .i64 1, .int .i64 1, .int .i64 1, .int .i64 1, .int .i64 4] 3 (0, 0)) := by rw [hw2]; exact nw_at _ _
  have HRw : Hid (IsRow w2 1 (.slice (some ⟨w1.heap.size, 0, none⟩) 7 7) k7.length (Q.intCells k7)) := row_k7 hk
  have hz1 : w1.heap.size = w.heap.size + 1 := by rw [hw1]; simp
  clear hk
  obtain ⟨TE, hTE⟩ : ∃ x, (Q.takeR s k7).2.2 = x := ⟨_, rfl⟩
  obtain ⟨X, hX⟩ : ∃ x, rdX s = x := ⟨_, rfl⟩
  obtain ⟨E, hE⟩ : ∃ x, rdE s = x := ⟨_, rfl⟩
  rw [hX, hE]
  by_cases hte : TE = 0
  rotate_left
  · have hb0 : rdB s = false := by unfold rdB; rw [hTE, decide_eq_false hte]; rfl
    obtain rfl : zPk = X := by rw [← hX]; unfold rdX; rw [hb0]; rfl
    obtain rfl : (3 : Int) = E := by rw [← hE]; unfold rdE; rw [hb0]; rfl
    have HC : Hid (Calls Tryz.prog 13 #[.string s, .slice (some ⟨w1.heap.size, 0, none⟩) 7 7] w2 fun e w' => Q.RowPost [] TE w2 e w') := Q.row_err' s _ k7 w2 hs HRw.out (by decide) TE hTE (by rw [bne_iff_ne]; exact hte)
    have dte : (TE != 0) = true := by rw [bne_iff_ne]; exact hte
    clear hX hE hTE hb0 hte
    clear HRw hs
    go_enter Tryz.func5, Tryz.ntmps5
    go_wp2_with fail
    rw [← hz1, ← hw1, ← hw2]
    clear hw1 hw2 hz1
    refine HC.out.mono ?_
    rintro e w3 ⟨v3, rfl, -, hb⟩
    have B3 : Hid (Below w1.heap.size w1 w3) := bT B2.out hb
    have Bw3 : Hid (Below w.heap.size w w3) := bT B1.out B3.out
    clear hb HC
    have hk := HK.out w3 B3.out
    have m0 : w3.cell? ⟨w.heap.size, 0, none⟩ = some (.int .i64 0) := by rw [Lib.cell_of_heap hk]; rfl
    have m1 : w3.cell? ⟨w.heap.size, 1, none⟩ = some (.int .i64 0) := by rw [Lib.cell_of_heap hk]; rfl
    have m2 : w3.cell? ⟨w.heap.size, 2, none⟩ = some (.int .i64 0) := by rw [Lib.cell_of_heap hk]; rfl
    have m3 : w3.cell? ⟨w.heap.size, 3, none⟩ = some (.int .i64 0) := by rw [Lib.cell_of_heap hk]; rfl
    have m4 : w3.cell? ⟨w.heap.size, 4, none⟩ = some (.int .i64 0) := by rw [Lib.cell_of_heap hk]; rfl
    have m5 : w3.cell? ⟨w.heap.size, 5, none⟩ = some (.int .i64 0) := by rw [Lib.cell_of_heap hk]; rfl
    have m6 : w3.cell? ⟨w.heap.size, 6, none⟩ = some (.string ⟨#[]⟩) := by rw [Lib.cell_of_heap hk]; rfl
    have mf : ∀ j, w3.frozen? ⟨w.heap.size, j, none⟩ = false := fun j => Lib.frozen_of_heap hk j
    obtain ⟨wz, hwz⟩ : ∃ wz, wz = (((((((w3.setCell ⟨w.heap.size, 0, none⟩ (.int .i64 0)).setCell ⟨w.heap.size, 1, none⟩ (.int .i64 0)).setCell ⟨w.heap.size, 2, none⟩ (.int .i64 0)).setCell ⟨w.heap.size, 3, none⟩ (.int .i64 0)).setCell ⟨w.heap.size, 4, none⟩ (.int .i64 0)).setCell ⟨w.heap.size, 5, none⟩ (.int .i64 0)).setCell ⟨w.heap.size, 6, none⟩ (.string ⟨#[]⟩)) := ⟨_, rfl⟩
    have Bz : Hid (Below w.heap.size w wz) := by show Below _ _ _; rw [hwz]; exact (((((((Bw3.out.setCell (p := ⟨w.heap.size, 0, none⟩) (Nat.le_refl _) (.int .i64 0)).setCell (p := ⟨w.heap.size, 1, none⟩) (Nat.le_refl _) (.int .i64 0)).setCell (p := ⟨w.heap.size, 2, none⟩) (Nat.le_refl _) (.int .i64 0)).setCell (p := ⟨w.heap.size, 3, none⟩) (Nat.le_refl _) (.int .i64 0)).setCell (p := ⟨w.heap.size, 4, none⟩) (Nat.le_refl _) (.int .i64 0)).setCell (p := ⟨w.heap.size, 5, none⟩) (Nat.le_refl _) (.int .i64 0)).setCell (p := ⟨w.heap.size, 6, none⟩) (Nat.le_refl _) (.string ⟨#[]⟩))
    have hz : wz.heap[w.heap.size]? = some (.cells #[.int .i64 0, .int .i64 0, .int .i64 0, .int .i64 0, .int .i64 0, .int .i64 0, .string ⟨#[]⟩] 23 (0, 0)) := by rw [hwz]; exact (heap_st (heap_st (heap_st (heap_st (heap_st (heap_st (heap_st hk 0 (.int .i64 0)) 1 (.int .i64 0)) 2 (.int .i64 0)) 3 (.int .i64 0)) 4 (.int .i64 0)) 5 (.int .i64 0)) 6 (.string ⟨#[]⟩))
    have HZ : Hid (wz.heap[w.heap.size]? = some (.cells #[.int .i64 0, .int .i64 0, .int .i64 0, .int .i64 0, .int .i64 0, .int .i64 0, .string ⟨#[]⟩] 23 (0, 0))) := hz
    clear hk hz
    go_wp2_with fail
    rw [← hwz]
    clear hwz m0 m1 m2 m3 m4 m5 m6 mf
    have hk := HZ.out
    have d0 : wz.cell? ⟨w.heap.size, 0, none⟩ = some (.int .i64 0) := by rw [Lib.cell_of_heap hk]; rfl
    have d1 : wz.cell? ⟨w.heap.size, 1, none⟩ = some (.int .i64 0) := by rw [Lib.cell_of_heap hk]; rfl
    have d2 : wz.cell? ⟨w.heap.size, 2, none⟩ = some (.int .i64 0) := by rw [Lib.cell_of_heap hk]; rfl
    have d3 : wz.cell? ⟨w.heap.size, 3, none⟩ = some (.int .i64 0) := by rw [Lib.cell_of_heap hk]; rfl
    have d4 : wz.cell? ⟨w.heap.size, 4, none⟩ = some (.int .i64 0) := by rw [Lib.cell_of_heap hk]; rfl
    have d5 : wz.cell? ⟨w.heap.size, 5, none⟩ = some (.int .i64 0) := by rw [Lib.cell_of_heap hk]; rfl
    have d6 : wz.cell? ⟨w.heap.size, 6, none⟩ = some (.string ⟨#[]⟩) := by rw [Lib.cell_of_heap hk]; rfl
    clear hk
    try simp only [Exit.inBlock, Exit.then]
    refine bodyPost_ret (v := .tuple #[.agg #[.int .i64 0, .int .i64 0, .int .i64 0, .int .i64 0, .int .i64 0, .int .i64 0, .string ⟨#[]⟩], .int .i64 3]) ?_ rfl ⟨rfl, Bz.out⟩
    rw [results_ct rfl]; go_simp
  subst hte
  by_cases hre : (Q.takeR s k7).2.1.toList.isEmpty = true
  rotate_left
  · have hb0 : rdB s = false := by unfold rdB; rw [Bool.eq_false_iff.2 hre]; simp
    obtain rfl : zPk = X := by rw [← hX]; unfold rdX; rw [hb0]; rfl
    obtain rfl : (3 : Int) = E := by rw [← hE]; unfold rdE; rw [hb0]; rfl
    have HC : Hid (Calls Tryz.prog 13 #[.string s, .slice (some ⟨w1.heap.size, 0, none⟩) 7 7] w2 fun e w' => Q.RowPost [] 2 w2 e w') := Q.row_long s _ k7 w2 hs HRw.out (by decide) hTE (Bool.eq_false_iff.2 hre)
    clear hX hE hTE hb0 hre
    clear HRw hs
    go_enter Tryz.func5, Tryz.ntmps5
    go_wp2_with fail
    rw [← hz1, ← hw1, ← hw2]
    clear hw1 hw2 hz1
    refine HC.out.mono ?_
    rintro e w3 ⟨v3, rfl, -, hb⟩
    have B3 : Hid (Below w1.heap.size w1 w3) := bT B2.out hb
    have Bw3 : Hid (Below w.heap.size w w3) := bT B1.out B3.out
    clear hb HC
    have hk := HK.out w3 B3.out
    have m0 : w3.cell? ⟨w.heap.size, 0, none⟩ = some (.int .i64 0) := by rw [Lib.cell_of_heap hk]; rfl
    have m1 : w3.cell? ⟨w.heap.size, 1, none⟩ = some (.int .i64 0) := by rw [Lib.cell_of_heap hk]; rfl
    have m2 : w3.cell? ⟨w.heap.size, 2, none⟩ = some (.int .i64 0) := by rw [Lib.cell_of_heap hk]; rfl
    have m3 : w3.cell? ⟨w.heap.size, 3, none⟩ = some (.int .i64 0) := by rw [Lib.cell_of_heap hk]; rfl
    have m4 : w3.cell? ⟨w.heap.size, 4, none⟩ = some (.int .i64 0) := by rw [Lib.cell_of_heap hk]; rfl
    have m5 : w3.cell? ⟨w.heap.size, 5, none⟩ = some (.int .i64 0) := by rw [Lib.cell_of_heap hk]; rfl
    have m6 : w3.cell? ⟨w.heap.size, 6, none⟩ = some (.string ⟨#[]⟩) := by rw [Lib.cell_of_heap hk]; rfl
    have mf : ∀ j, w3.frozen? ⟨w.heap.size, j, none⟩ = false := fun j => Lib.frozen_of_heap hk j
    obtain ⟨wz, hwz⟩ : ∃ wz, wz = (((((((w3.setCell ⟨w.heap.size, 0, none⟩ (.int .i64 0)).setCell ⟨w.heap.size, 1, none⟩ (.int .i64 0)).setCell ⟨w.heap.size, 2, none⟩ (.int .i64 0)).setCell ⟨w.heap.size, 3, none⟩ (.int .i64 0)).setCell ⟨w.heap.size, 4, none⟩ (.int .i64 0)).setCell ⟨w.heap.size, 5, none⟩ (.int .i64 0)).setCell ⟨w.heap.size, 6, none⟩ (.string ⟨#[]⟩)) := ⟨_, rfl⟩
    have Bz : Hid (Below w.heap.size w wz) := by show Below _ _ _; rw [hwz]; exact (((((((Bw3.out.setCell (p := ⟨w.heap.size, 0, none⟩) (Nat.le_refl _) (.int .i64 0)).setCell (p := ⟨w.heap.size, 1, none⟩) (Nat.le_refl _) (.int .i64 0)).setCell (p := ⟨w.heap.size, 2, none⟩) (Nat.le_refl _) (.int .i64 0)).setCell (p := ⟨w.heap.size, 3, none⟩) (Nat.le_refl _) (.int .i64 0)).setCell (p := ⟨w.heap.size, 4, none⟩) (Nat.le_refl _) (.int .i64 0)).setCell (p := ⟨w.heap.size, 5, none⟩) (Nat.le_refl _) (.int .i64 0)).setCell (p := ⟨w.heap.size, 6, none⟩) (Nat.le_refl _) (.string ⟨#[]⟩))
    have hz : wz.heap[w.heap.size]? = some (.cells #[.int .i64 0, .int .i64 0, .int .i64 0, .int .i64 0, .int .i64 0, .int .i64 0, .string ⟨#[]⟩] 23 (0, 0)) := by rw [hwz]; exact (heap_st (heap_st (heap_st (heap_st (heap_st (heap_st (heap_st hk 0 (.int .i64 0)) 1 (.int .i64 0)) 2 (.int .i64 0)) 3 (.int .i64 0)) 4 (.int .i64 0)) 5 (.int .i64 0)) 6 (.string ⟨#[]⟩))
    have HZ : Hid (wz.heap[w.heap.size]? = some (.cells #[.int .i64 0, .int .i64 0, .int .i64 0, .int .i64 0, .int .i64 0, .int .i64 0, .string ⟨#[]⟩] 23 (0, 0))) := hz
    clear hk hz
    go_wp2_with fail
    rw [← hwz]
    clear hwz m0 m1 m2 m3 m4 m5 m6 mf
    have hk := HZ.out
    have d0 : wz.cell? ⟨w.heap.size, 0, none⟩ = some (.int .i64 0) := by rw [Lib.cell_of_heap hk]; rfl
    have d1 : wz.cell? ⟨w.heap.size, 1, none⟩ = some (.int .i64 0) := by rw [Lib.cell_of_heap hk]; rfl
    have d2 : wz.cell? ⟨w.heap.size, 2, none⟩ = some (.int .i64 0) := by rw [Lib.cell_of_heap hk]; rfl
    have d3 : wz.cell? ⟨w.heap.size, 3, none⟩ = some (.int .i64 0) := by rw [Lib.cell_of_heap hk]; rfl
    have d4 : wz.cell? ⟨w.heap.size, 4, none⟩ = some (.int .i64 0) := by rw [Lib.cell_of_heap hk]; rfl
    have d5 : wz.cell? ⟨w.heap.size, 5, none⟩ = some (.int .i64 0) := by rw [Lib.cell_of_heap hk]; rfl
    have d6 : wz.cell? ⟨w.heap.size, 6, none⟩ = some (.string ⟨#[]⟩) := by rw [Lib.cell_of_heap hk]; rfl
    clear hk
    try simp only [Exit.inBlock, Exit.then]
    refine bodyPost_ret (v := .tuple #[.agg #[.int .i64 0, .int .i64 0, .int .i64 0, .int .i64 0, .int .i64 0, .int .i64 0, .string ⟨#[]⟩], .int .i64 3]) ?_ rfl ⟨rfl, Bz.out⟩
    rw [results_ct rfl]; go_simp
  obtain ⟨y0, y1, y2, y3, y4, y5, y6, hl⟩ := seven (take7 hTE)
  have hbq : rdB s = pkB (pkOf [y0, y1, y2, y3, y4, y5, y6]) := by unfold rdB; rw [hTE, hre, hl]; rfl
  have HC : Hid (Calls Tryz.prog 13 #[.string s, .slice (some ⟨w1.heap.size, 0, none⟩) 7 7] w2 fun e w' => Q.RowPost [y0, y1, y2, y3, y4, y5, y6] 0 w2 e w') := Q.row_all' s _ k7 w2 hs HRw.out (by decide) hTE hre [y0, y1, y2, y3, y4, y5, y6] hl
  obtain ⟨BQ, hBQ⟩ : ∃ x, pkB (pkOf [y0, y1, y2, y3, y4, y5, y6]) = x := ⟨_, rfl⟩
  have hX2 : X = if BQ = true then pkOf [y0, y1, y2, y3, y4, y5, y6] else zPk := by rw [← hX]; unfold rdX; rw [hbq, hBQ, hl]
  have hE2 : E = if BQ = true then 0 else 3 := by rw [← hE]; unfold rdE; rw [hbq, hBQ]
  have HCk : Hid (∀ W, Calls Tryz.prog 7 #[.agg #[.int .i64 y0.n, .int .i64 y1.n, .int .i64 y2.n, .int .i64 y3.n, .int .i64 y4.n, .int .i64 y5.n, .string y6.s]] W fun e w' => e = .returned (.bool BQ) ∧ Below W.heap.size W w') := fun W => by
    have h0 := checkPk_any (pkOf [y0, y1, y2, y3, y4, y5, y6]) W
    rw [hBQ] at h0
    exact h0
  clear hX hE hbq hBQ HRw hs hTE hre hl
  go_enter Tryz.func5, Tryz.ntmps5
  go_wp2_with fail
  rw [← hz1, ← hw1, ← hw2]
  clear hw1 hw2 hz1
  refine HC.out.mono ?_
  rintro e w3 ⟨v3, rfl, hr, hb⟩
  obtain ⟨av, cv, rfl⟩ := hr.form
  have B3 : Hid (Below w1.heap.size w1 w3) := bT B2.out hb
  have Bw3 : Hid (Below w.heap.size w w3) := bT B1.out B3.out
  obtain ⟨b0, o0, hv0, hlt0, -, u0, t0⟩ := items_at hr 0 (by simp)
  obtain ⟨b1, o1, hv1, hlt1, -, u1, t1⟩ := items_at hr 1 (by simp)
  obtain ⟨b2, o2, hv2, hlt2, -, u2, t2⟩ := items_at hr 2 (by simp)
  obtain ⟨b3, o3, hv3, hlt3, -, u3, t3⟩ := items_at hr 3 (by simp)
  obtain ⟨b4, o4, hv4, hlt4, -, u4, t4⟩ := items_at hr 4 (by simp)
  obtain ⟨b5, o5, hv5, hlt5, -, u5, t5⟩ := items_at hr 5 (by simp)
  obtain ⟨b6, o6, hv6, hlt6, -, u6, t6⟩ := items_at hr 6 (by simp)
  subst hv0
  simp only [Option.some.injEq, Addr.mk.injEq] at hv1
  obtain ⟨rfl, rfl, -⟩ := hv1
  simp only [Option.some.injEq, Addr.mk.injEq] at hv2
  obtain ⟨rfl, rfl, -⟩ := hv2
  simp only [Option.some.injEq, Addr.mk.injEq] at hv3
  obtain ⟨rfl, rfl, -⟩ := hv3
  simp only [Option.some.injEq, Addr.mk.injEq] at hv4
  obtain ⟨rfl, rfl, -⟩ := hv4
  simp only [Option.some.injEq, Addr.mk.injEq] at hv5
  obtain ⟨rfl, rfl, -⟩ := hv5
  simp only [Option.some.injEq, Addr.mk.injEq] at hv6
  obtain ⟨rfl, rfl, -⟩ := hv6
  have HS : Hid (∀ W, Below w3.heap.size w3 W → W.cell? ⟨b0, o0 + 1, none⟩ = some (.int .i64 y0.n) ∧ W.cell? ⟨b0, o0 + 4, none⟩ = some (.int .i64 y1.n) ∧ W.cell? ⟨b0, o0 + 7, none⟩ = some (.int .i64 y2.n) ∧ W.cell? ⟨b0, o0 + 10, none⟩ = some (.int .i64 y3.n) ∧ W.cell? ⟨b0, o0 + 13, none⟩ = some (.int .i64 y4.n) ∧ W.cell? ⟨b0, o0 + 16, none⟩ = some (.int .i64 y5.n) ∧ W.cell? ⟨b0, o0 + 20, none⟩ = some (.string y6.s)) := fun W hb2 => by
    have e : ∀ o v, w3.cell? ⟨b0, o, none⟩ = some v → W.cell? ⟨b0, o, none⟩ = some v := fun o v h => (hb2.cell (p := ⟨b0, o, none⟩) hlt0).trans h
    exact ⟨e _ _ u0, e _ _ u1, e _ _ u2, e _ _ u3, e _ _ u4, e _ _ u5, e _ _ t6⟩
  clear hb hr HC u0 t0 u1 t1 u2 t2 u3 t3 u4 t4 u5 t5 u6 t6 hlt0 hlt1 hlt2 hlt3 hlt4 hlt5 hlt6
  have HBd : Hid (Below w3.heap.size w3 w3.drew) := (Below.refl _ _).drew
  go_wp2_with fail
  refine wp_region_held_drew (S := fun W => W.cell? ⟨b0, o0 + 1, none⟩ = some (.int .i64 y0.n) ∧ W.cell? ⟨b0, o0 + 4, none⟩ = some (.int .i64 y1.n) ∧ W.cell? ⟨b0, o0 + 7, none⟩ = some (.int .i64 y2.n) ∧ W.cell? ⟨b0, o0 + 10, none⟩ = some (.int .i64 y3.n) ∧ W.cell? ⟨b0, o0 + 13, none⟩ = some (.int .i64 y4.n) ∧ W.cell? ⟨b0, o0 + 16, none⟩ = some (.int .i64 y5.n) ∧ W.cell? ⟨b0, o0 + 20, none⟩ = some (.string y6.s)) (by kernel_rfl) (HS.out _ HBd.out) (fun hHeld => ?_)
  generalize hw0 : w3.drew = v0 at *
  clear hw0
  refine wpAnyH_take (i := 0) (v := ?_) rfl (by kernel_rfl) (by kernel_rfl) (by kernel_rfl) (fun _ _ _ h => h) (Or.inl ⟨by rfl, ?_⟩) hHeld ?_
  rotate_left 1
  · intro w9 hSw; obtain ⟨g0, g1, g2, g3, g4, g5, g6⟩ := hSw; go_simp; try with_reducible rfl
  change wpAnyH _ _ _ _ _ _ _ (Act.put _ (some 16) _) _
  simp only [Act.put, List.setIfInBounds_toArray, List.set_cons_zero, List.set_cons_succ]
  refine wpAnyH_take (i := 1) (v := ?_) rfl (by kernel_rfl) (by kernel_rfl) (by kernel_rfl) (fun _ _ _ h => h) (Or.inl ⟨by rfl, ?_⟩) hHeld ?_
  rotate_left 1
  · intro w9 hSw; obtain ⟨g0, g1, g2, g3, g4, g5, g6⟩ := hSw; go_simp; try with_reducible rfl
  change wpAnyH _ _ _ _ _ _ _ (Act.put _ (some 17) _) _
  simp only [Act.put, List.setIfInBounds_toArray, List.set_cons_zero, List.set_cons_succ]
  refine wpAnyH_take (i := 2) (v := ?_) rfl (by kernel_rfl) (by kernel_rfl) (by kernel_rfl) (fun _ _ _ h => h) (Or.inl ⟨by rfl, ?_⟩) hHeld ?_
  rotate_left 1
  · intro w9 hSw; obtain ⟨g0, g1, g2, g3, g4, g5, g6⟩ := hSw; go_simp; try with_reducible rfl
  change wpAnyH _ _ _ _ _ _ _ (Act.put _ (some 18) _) _
  simp only [Act.put, List.setIfInBounds_toArray, List.set_cons_zero, List.set_cons_succ]
  refine wpAnyH_take (i := 3) (v := ?_) rfl (by kernel_rfl) (by kernel_rfl) (by kernel_rfl) (fun _ _ _ h => h) (Or.inl ⟨by rfl, ?_⟩) hHeld ?_
  rotate_left 1
  · intro w9 hSw; obtain ⟨g0, g1, g2, g3, g4, g5, g6⟩ := hSw; go_simp; try with_reducible rfl
  change wpAnyH _ _ _ _ _ _ _ (Act.put _ (some 19) _) _
  simp only [Act.put, List.setIfInBounds_toArray, List.set_cons_zero, List.set_cons_succ]
  refine wpAnyH_take (i := 4) (v := ?_) rfl (by kernel_rfl) (by kernel_rfl) (by kernel_rfl) (fun _ _ _ h => h) (Or.inl ⟨by rfl, ?_⟩) hHeld ?_
  rotate_left 1
  · intro w9 hSw; obtain ⟨g0, g1, g2, g3, g4, g5, g6⟩ := hSw; go_simp; try with_reducible rfl
  change wpAnyH _ _ _ _ _ _ _ (Act.put _ (some 20) _) _
  simp only [Act.put, List.setIfInBounds_toArray, List.set_cons_zero, List.set_cons_succ]
  refine wpAnyH_take (i := 5) (v := ?_) rfl (by kernel_rfl) (by kernel_rfl) (by kernel_rfl) (fun _ _ _ h => h) (Or.inl ⟨by rfl, ?_⟩) hHeld ?_
  rotate_left 1
  · intro w9 hSw; obtain ⟨g0, g1, g2, g3, g4, g5, g6⟩ := hSw; go_simp; try with_reducible rfl
  change wpAnyH _ _ _ _ _ _ _ (Act.put _ (some 21) _) _
  simp only [Act.put, List.setIfInBounds_toArray, List.set_cons_zero, List.set_cons_succ]
  refine wpAnyH_take (i := 6) (v := ?_) rfl (by kernel_rfl) (by kernel_rfl) (by kernel_rfl) (fun _ _ _ h => h) (Or.inl ⟨by rfl, ?_⟩) hHeld ?_
  rotate_left 1
  · intro w9 hSw; obtain ⟨g0, g1, g2, g3, g4, g5, g6⟩ := hSw; go_simp; try with_reducible rfl
  change wpAnyH _ _ _ _ _ _ _ (Act.put _ (some 22) _) _
  simp only [Act.put, List.setIfInBounds_toArray, List.set_cons_zero, List.set_cons_succ]
  refine wpAnyH_take (i := 7) (v := ?_) rfl (by kernel_rfl) (by kernel_rfl) (by kernel_rfl) (fun _ _ _ h => h) (Or.inl ⟨by rfl, ?_⟩) hHeld ?_
  rotate_left 1
  · intro w9 hSw; obtain ⟨g0, g1, g2, g3, g4, g5, g6⟩ := hSw; go_simp; try with_reducible rfl
  change wpAnyH _ _ _ _ _ _ _ (Act.put _ (some 23) _) _
  simp only [Act.put, List.setIfInBounds_toArray, List.set_cons_zero, List.set_cons_succ]
  refine wpAnyH_take (i := 8) (v := ?_) rfl (by kernel_rfl) (by kernel_rfl) (by kernel_rfl) (fun _ _ _ h => h) (Or.inl ⟨by rfl, ?_⟩) hHeld ?_
  rotate_left 1
  · intro w9 hSw; obtain ⟨g0, g1, g2, g3, g4, g5, g6⟩ := hSw; go_simp; try with_reducible rfl
  change wpAnyH _ _ _ _ _ _ _ (Act.put _ (some 24) _) _
  simp only [Act.put, List.setIfInBounds_toArray, List.set_cons_zero, List.set_cons_succ]
  refine wpAnyH_take (i := 9) (v := ?_) rfl (by kernel_rfl) (by kernel_rfl) (by kernel_rfl) (fun _ _ _ h => h) (Or.inl ⟨by rfl, ?_⟩) hHeld ?_
  rotate_left 1
  · intro w9 hSw; obtain ⟨g0, g1, g2, g3, g4, g5, g6⟩ := hSw; go_simp; try with_reducible rfl
  change wpAnyH _ _ _ _ _ _ _ (Act.put _ (some 25) _) _
  simp only [Act.put, List.setIfInBounds_toArray, List.set_cons_zero, List.set_cons_succ]
  refine wpAnyH_take (i := 10) (v := ?_) rfl (by kernel_rfl) (by kernel_rfl) (by kernel_rfl) (fun _ _ _ h => h) (Or.inl ⟨by rfl, ?_⟩) hHeld ?_
  rotate_left 1
  · intro w9 hSw; obtain ⟨g0, g1, g2, g3, g4, g5, g6⟩ := hSw; go_simp; try with_reducible rfl
  change wpAnyH _ _ _ _ _ _ _ (Act.put _ (some 26) _) _
  simp only [Act.put, List.setIfInBounds_toArray, List.set_cons_zero, List.set_cons_succ]
  refine wpAnyH_take (i := 11) (v := ?_) rfl (by kernel_rfl) (by kernel_rfl) (by kernel_rfl) (fun _ _ _ h => h) (Or.inl ⟨by rfl, ?_⟩) hHeld ?_
  rotate_left 1
  · intro w9 hSw; obtain ⟨g0, g1, g2, g3, g4, g5, g6⟩ := hSw; go_simp; try with_reducible rfl
  change wpAnyH _ _ _ _ _ _ _ (Act.put _ (some 27) _) _
  simp only [Act.put, List.setIfInBounds_toArray, List.set_cons_zero, List.set_cons_succ]
  refine wpAnyH_take (i := 12) (v := ?_) rfl (by kernel_rfl) (by kernel_rfl) (by kernel_rfl) (fun _ _ _ h => h) (Or.inl ⟨by rfl, ?_⟩) hHeld ?_
  rotate_left 1
  · intro w9 hSw; obtain ⟨g0, g1, g2, g3, g4, g5, g6⟩ := hSw; go_simp; try with_reducible rfl
  change wpAnyH _ _ _ _ _ _ _ (Act.put _ (some 28) _) _
  simp only [Act.put, List.setIfInBounds_toArray, List.set_cons_zero, List.set_cons_succ]
  refine wpAnyH_take (i := 13) (v := ?_) rfl (by kernel_rfl) (by kernel_rfl) (by kernel_rfl) (fun _ _ _ h => h) (Or.inl ⟨by rfl, ?_⟩) hHeld ?_
  rotate_left 1
  · intro w9 hSw; obtain ⟨g0, g1, g2, g3, g4, g5, g6⟩ := hSw; go_simp; try with_reducible rfl
  change wpAnyH _ _ _ _ _ _ _ (Act.put _ (some 29) _) _
  simp only [Act.put, List.setIfInBounds_toArray, List.set_cons_zero, List.set_cons_succ]
  refine wpAnyH_take (i := 14) (v := ?_) rfl (by kernel_rfl) (by kernel_rfl) (by kernel_rfl) (fun _ _ _ h => h) (Or.inl ⟨by rfl, ?_⟩) hHeld ?_
  rotate_left 1
  · intro w9 hSw; obtain ⟨g0, g1, g2, g3, g4, g5, g6⟩ := hSw; go_simp; try with_reducible rfl
  change wpAnyH _ _ _ _ _ _ _ (Act.put _ (some 30) _) _
  simp only [Act.put, List.setIfInBounds_toArray, List.set_cons_zero, List.set_cons_succ]
  refine wpAnyH_take (i := 15) (v := ?_) rfl (by kernel_rfl) (by kernel_rfl) (by kernel_rfl) (fun _ _ _ h => h) (Or.inl ⟨by rfl, ?_⟩) hHeld ?_
  rotate_left 1
  · intro w9 hSw; obtain ⟨g0, g1, g2, g3, g4, g5, g6⟩ := hSw; go_simp; try with_reducible rfl
  change wpAnyH _ _ _ _ _ _ _ (Act.put _ (some 31) _) _
  simp only [Act.put, List.setIfInBounds_toArray, List.set_cons_zero, List.set_cons_succ]
  refine wpAnyH_take (i := 16) (v := ?_) rfl (by kernel_rfl) (by kernel_rfl) (by kernel_rfl) (fun _ _ _ h => h) (Or.inl ⟨by rfl, ?_⟩) hHeld ?_
  rotate_left 1
  · intro w9 hSw; obtain ⟨g0, g1, g2, g3, g4, g5, g6⟩ := hSw; go_simp; try with_reducible rfl
  change wpAnyH _ _ _ _ _ _ _ (Act.put _ (some 32) _) _
  simp only [Act.put, List.setIfInBounds_toArray, List.set_cons_zero, List.set_cons_succ]
  refine wpAnyH_take (i := 17) (v := ?_) rfl (by kernel_rfl) (by kernel_rfl) (by kernel_rfl) (fun _ _ _ h => h) (Or.inl ⟨by rfl, ?_⟩) hHeld ?_
  rotate_left 1
  · intro w9 hSw; obtain ⟨g0, g1, g2, g3, g4, g5, g6⟩ := hSw; go_simp; try with_reducible rfl
  change wpAnyH _ _ _ _ _ _ _ (Act.put _ (some 33) _) _
  simp only [Act.put, List.setIfInBounds_toArray, List.set_cons_zero, List.set_cons_succ]
  refine wpAnyH_take (i := 18) (v := ?_) rfl (by kernel_rfl) (by kernel_rfl) (by kernel_rfl) (fun _ _ _ h => h) (Or.inl ⟨by rfl, ?_⟩) hHeld ?_
  rotate_left 1
  · intro w9 hSw; obtain ⟨g0, g1, g2, g3, g4, g5, g6⟩ := hSw; go_simp; try with_reducible rfl
  change wpAnyH _ _ _ _ _ _ _ (Act.put _ (some 34) _) _
  simp only [Act.put, List.setIfInBounds_toArray, List.set_cons_zero, List.set_cons_succ]
  refine wpAnyH_take (i := 19) (v := ?_) rfl (by kernel_rfl) (by kernel_rfl) (by kernel_rfl) (fun _ _ _ h => h) (Or.inl ⟨by rfl, ?_⟩) hHeld ?_
  rotate_left 1
  · intro w9 hSw; obtain ⟨g0, g1, g2, g3, g4, g5, g6⟩ := hSw; go_simp; try with_reducible rfl
  change wpAnyH _ _ _ _ _ _ _ (Act.put _ (some 35) _) _
  simp only [Act.put, List.setIfInBounds_toArray, List.set_cons_zero, List.set_cons_succ]
  refine wpAnyH_take (i := 20) (v := ?_) rfl (by kernel_rfl) (by kernel_rfl) (by kernel_rfl) (fun _ _ _ h => h) (Or.inl ⟨by rfl, ?_⟩) hHeld ?_
  rotate_left 1
  · intro w9 hSw; obtain ⟨g0, g1, g2, g3, g4, g5, g6⟩ := hSw; go_simp; try with_reducible rfl
  change wpAnyH _ _ _ _ _ _ _ (Act.put _ (some 36) _) _
  simp only [Act.put, List.setIfInBounds_toArray, List.set_cons_zero, List.set_cons_succ]
  refine wpAnyH_take (i := 21) (v := ?_) rfl (by kernel_rfl) (by kernel_rfl) (by kernel_rfl) (fun _ _ _ h => h) (Or.inl ⟨by rfl, ?_⟩) hHeld ?_
  rotate_left 1
  · intro w9 hSw; obtain ⟨g0, g1, g2, g3, g4, g5, g6⟩ := hSw; go_simp; try with_reducible rfl
  change wpAnyH _ _ _ _ _ _ _ (Act.put _ (some 37) _) _
  simp only [Act.put, List.setIfInBounds_toArray, List.set_cons_zero, List.set_cons_succ]
  refine wpAnyH_take (i := 22) (v := ?_) rfl (by kernel_rfl) (by kernel_rfl) (by kernel_rfl) (fun _ _ _ h => h) (Or.inl ⟨by rfl, ?_⟩) hHeld ?_
  rotate_left 1
  · intro w9 hSw; obtain ⟨g0, g1, g2, g3, g4, g5, g6⟩ := hSw; go_simp; try with_reducible rfl
  change wpAnyH _ _ _ _ _ _ _ (Act.put _ (some 38) _) _
  simp only [Act.put, List.setIfInBounds_toArray, List.set_cons_zero, List.set_cons_succ]
  refine wpAnyH_take (i := 23) (v := ?_) rfl (by kernel_rfl) (by kernel_rfl) (by kernel_rfl) (fun _ _ _ h => h) (Or.inl ⟨by rfl, ?_⟩) hHeld ?_
  rotate_left 1
  · intro w9 hSw; obtain ⟨g0, g1, g2, g3, g4, g5, g6⟩ := hSw; go_simp; try with_reducible rfl
  change wpAnyH _ _ _ _ _ _ _ (Act.put _ (some 39) _) _
  simp only [Act.put, List.setIfInBounds_toArray, List.set_cons_zero, List.set_cons_succ]
  refine wpAnyH_take (i := 24) (v := ?_) rfl (by kernel_rfl) (by kernel_rfl) (by kernel_rfl) (fun _ _ _ h => h) (Or.inl ⟨by rfl, ?_⟩) hHeld ?_
  rotate_left 1
  · intro w9 hSw; obtain ⟨g0, g1, g2, g3, g4, g5, g6⟩ := hSw; go_simp; try with_reducible rfl
  change wpAnyH _ _ _ _ _ _ _ (Act.put _ (some 40) _) _
  simp only [Act.put, List.setIfInBounds_toArray, List.set_cons_zero, List.set_cons_succ]
  refine wpAnyH_take (i := 25) (v := ?_) rfl (by kernel_rfl) (by kernel_rfl) (by kernel_rfl) (fun _ _ _ h => h) (Or.inl ⟨by rfl, ?_⟩) hHeld ?_
  rotate_left 1
  · intro w9 hSw; obtain ⟨g0, g1, g2, g3, g4, g5, g6⟩ := hSw; go_simp; try with_reducible rfl
  change wpAnyH _ _ _ _ _ _ _ (Act.put _ (some 41) _) _
  simp only [Act.put, List.setIfInBounds_toArray, List.set_cons_zero, List.set_cons_succ]
  refine wpAnyH_take (i := 26) (v := ?_) rfl (by kernel_rfl) (by kernel_rfl) (by kernel_rfl) (fun _ _ _ h => h) (Or.inl ⟨by rfl, ?_⟩) hHeld ?_
  rotate_left 1
  · intro w9 hSw; obtain ⟨g0, g1, g2, g3, g4, g5, g6⟩ := hSw; go_simp; try with_reducible rfl
  change wpAnyH _ _ _ _ _ _ _ (Act.put _ (some 42) _) _
  simp only [Act.put, List.setIfInBounds_toArray, List.set_cons_zero, List.set_cons_succ]
  refine wpAnyH_take (i := 27) (v := ?_) rfl (by kernel_rfl) (by kernel_rfl) (by kernel_rfl) (fun _ _ _ h => h) (Or.inl ⟨by rfl, ?_⟩) hHeld ?_
  rotate_left 1
  · intro w9 hSw; obtain ⟨g0, g1, g2, g3, g4, g5, g6⟩ := hSw; go_simp; try with_reducible rfl
  change wpAnyH _ _ _ _ _ _ _ (Act.put _ (some 43) _) _
  simp only [Act.put, List.setIfInBounds_toArray, List.set_cons_zero, List.set_cons_succ]
  refine wpAnyH_take (i := 28) (v := ?_) rfl (by kernel_rfl) (by kernel_rfl) (by kernel_rfl) (fun _ _ _ h => h) (Or.inl ⟨by rfl, ?_⟩) hHeld ?_
  rotate_left 1
  · intro w9 hSw; obtain ⟨g0, g1, g2, g3, g4, g5, g6⟩ := hSw; go_simp; try with_reducible rfl
  change wpAnyH _ _ _ _ _ _ _ (Act.put _ (some 44) _) _
  simp only [Act.put, List.setIfInBounds_toArray, List.set_cons_zero, List.set_cons_succ]
  obtain ⟨v1, hv1⟩ : ∃ v1, v1 = v0.alloc (.cells #[.int .i64 0, .int .i64 0, .int .i64 0, .int .i64 0, .int .i64 0, .int .i64 0, .string ⟨#[]⟩] 23) := ⟨_, rfl⟩
  have E1 : Hid (Below v0.heap.size v0 v1) := by show Below _ _ _; rw [hv1]; exact al_f _ _
  have hn1 : v1.heap[v0.heap.size]? = some (.cells #[.int .i64 0, .int .i64 0, .int .i64 0, .int .i64 0, .int .i64 0, .int .i64 0, .string ⟨#[]⟩] 23 (0, 0)) := by rw [hv1]; exact nw_at _ _
  have Hn1 : Hid (v1.heap[v0.heap.size]? = some (.cells #[.int .i64 0, .int .i64 0, .int .i64 0, .int .i64 0, .int .i64 0, .int .i64 0, .string ⟨#[]⟩] 23 (0, 0))) := hn1
  clear hn1
  refine wpAnyH_ready (rs := [29]) (by kernel_rfl) (by simp) ?_
  refine AllReadyH.cons rfl (fun K hK => ?_) AllReadyH.nil
  go_simp
  rw [← hv1]
  clear hv1
  refine hK.out _ _ (HS.out _ (bT HBd.out E1.out)) (fun hHeld => ?_)
  clear hK K
  have hk := Hn1.out
  have m0 : v1.cell? ⟨v0.heap.size, 0, none⟩ = some (.int .i64 0) := by rw [Lib.cell_of_heap hk]; rfl
  have m1 : v1.cell? ⟨v0.heap.size, 1, none⟩ = some (.int .i64 0) := by rw [Lib.cell_of_heap hk]; rfl
  have m2 : v1.cell? ⟨v0.heap.size, 2, none⟩ = some (.int .i64 0) := by rw [Lib.cell_of_heap hk]; rfl
  have m3 : v1.cell? ⟨v0.heap.size, 3, none⟩ = some (.int .i64 0) := by rw [Lib.cell_of_heap hk]; rfl
  have m4 : v1.cell? ⟨v0.heap.size, 4, none⟩ = some (.int .i64 0) := by rw [Lib.cell_of_heap hk]; rfl
  have m5 : v1.cell? ⟨v0.heap.size, 5, none⟩ = some (.int .i64 0) := by rw [Lib.cell_of_heap hk]; rfl
  have m6 : v1.cell? ⟨v0.heap.size, 6, none⟩ = some (.string ⟨#[]⟩) := by rw [Lib.cell_of_heap hk]; rfl
  have mf : ∀ j, v1.frozen? ⟨v0.heap.size, j, none⟩ = false := fun j => Lib.frozen_of_heap hk j
  clear hk
  obtain ⟨v2, hv2⟩ : ∃ v2, v2 = (((((((v1.setCell ⟨v0.heap.size, 0, none⟩ (.int .i64 y0.n)).setCell ⟨v0.heap.size, 1, none⟩ (.int .i64 y1.n)).setCell ⟨v0.heap.size, 2, none⟩ (.int .i64 y2.n)).setCell ⟨v0.heap.size, 3, none⟩ (.int .i64 y3.n)).setCell ⟨v0.heap.size, 4, none⟩ (.int .i64 y4.n)).setCell ⟨v0.heap.size, 5, none⟩ (.int .i64 y5.n)).setCell ⟨v0.heap.size, 6, none⟩ (.string y6.s)) := ⟨_, rfl⟩
  have E2 : Hid (Below v0.heap.size v0 v2) := by show Below _ _ _; rw [hv2]; exact (((((((E1.out.setCell (p := ⟨v0.heap.size, 0, none⟩) (Nat.le_refl _) (.int .i64 y0.n)).setCell (p := ⟨v0.heap.size, 1, none⟩) (Nat.le_refl _) (.int .i64 y1.n)).setCell (p := ⟨v0.heap.size, 2, none⟩) (Nat.le_refl _) (.int .i64 y2.n)).setCell (p := ⟨v0.heap.size, 3, none⟩) (Nat.le_refl _) (.int .i64 y3.n)).setCell (p := ⟨v0.heap.size, 4, none⟩) (Nat.le_refl _) (.int .i64 y4.n)).setCell (p := ⟨v0.heap.size, 5, none⟩) (Nat.le_refl _) (.int .i64 y5.n)).setCell (p := ⟨v0.heap.size, 6, none⟩) (Nat.le_refl _) (.string y6.s))
  have HP : Hid (v2.heap[v0.heap.size]? = some (.cells #[.int .i64 y0.n, .int .i64 y1.n, .int .i64 y2.n, .int .i64 y3.n, .int .i64 y4.n, .int .i64 y5.n, .string y6.s] 23 (0, 0))) := by show _ = _; rw [hv2]; exact (heap_st (heap_st (heap_st (heap_st (heap_st (heap_st (heap_st Hn1.out 0 (.int .i64 y0.n)) 1 (.int .i64 y1.n)) 2 (.int .i64 y2.n)) 3 (.int .i64 y3.n)) 4 (.int .i64 y4.n)) 5 (.int .i64 y5.n)) 6 (.string y6.s))
  refine wpAnyH_ready (rs := [30]) (by kernel_rfl) (by simp) ?_
  refine AllReadyH.cons rfl (fun K hK => ?_) AllReadyH.nil
  go_simp
  rw [← hv2]
  clear hv2 m0 m1 m2 m3 m4 m5 m6 mf
  refine hK.out _ _ (HS.out _ (bT HBd.out E2.out)) (fun hHeld => ?_)
  clear hK K
  refine wpAnyH_done (by kernel_rfl) ?_ _
  clear hHeld E1 Hn1
  have D2 : Hid (Below w3.heap.size w3 v2) := bT HBd.out E2.out
  clear E2 HS HBd
  have hk := HP.out
  have c0 : v2.cell? ⟨v0.heap.size, 0, none⟩ = some (.int .i64 y0.n) := by rw [Lib.cell_of_heap hk]; rfl
  have c1 : v2.cell? ⟨v0.heap.size, 1, none⟩ = some (.int .i64 y1.n) := by rw [Lib.cell_of_heap hk]; rfl
  have c2 : v2.cell? ⟨v0.heap.size, 2, none⟩ = some (.int .i64 y2.n) := by rw [Lib.cell_of_heap hk]; rfl
  have c3 : v2.cell? ⟨v0.heap.size, 3, none⟩ = some (.int .i64 y3.n) := by rw [Lib.cell_of_heap hk]; rfl
  have c4 : v2.cell? ⟨v0.heap.size, 4, none⟩ = some (.int .i64 y4.n) := by rw [Lib.cell_of_heap hk]; rfl
  have c5 : v2.cell? ⟨v0.heap.size, 5, none⟩ = some (.int .i64 y5.n) := by rw [Lib.cell_of_heap hk]; rfl
  have c6 : v2.cell? ⟨v0.heap.size, 6, none⟩ = some (.string y6.s) := by rw [Lib.cell_of_heap hk]; rfl
  clear hk
  go_wp2_with fail
  clear c0 c1 c2 c3 c4 c5 c6
  refine (HCk.out _).mono ?_
  rintro e w5 ⟨rfl, hb⟩
  have B5 : Hid (Below w1.heap.size w1 w5) := bT (bT B3.out D2.out) hb
  have Bw5 : Hid (Below w.heap.size w w5) := bT B1.out B5.out
  have HP5 : Hid (w5.heap[v0.heap.size]? = some (.cells #[.int .i64 y0.n, .int .i64 y1.n, .int .i64 y2.n, .int .i64 y3.n, .int .i64 y4.n, .int .i64 y5.n, .string y6.s] 23 (0, 0))) := (hb.block _ (Array.getElem?_eq_some_iff.1 HP.out).1).trans HP.out
  clear hb HCk HP D2
  cases BQ with
  | false =>
    obtain rfl : X = zPk := hX2
    obtain rfl : E = 3 := hE2
    clear HP5
    have hk := HK.out w5 B5.out
    have m0 : w5.cell? ⟨w.heap.size, 0, none⟩ = some (.int .i64 0) := by rw [Lib.cell_of_heap hk]; rfl
    have m1 : w5.cell? ⟨w.heap.size, 1, none⟩ = some (.int .i64 0) := by rw [Lib.cell_of_heap hk]; rfl
    have m2 : w5.cell? ⟨w.heap.size, 2, none⟩ = some (.int .i64 0) := by rw [Lib.cell_of_heap hk]; rfl
    have m3 : w5.cell? ⟨w.heap.size, 3, none⟩ = some (.int .i64 0) := by rw [Lib.cell_of_heap hk]; rfl
    have m4 : w5.cell? ⟨w.heap.size, 4, none⟩ = some (.int .i64 0) := by rw [Lib.cell_of_heap hk]; rfl
    have m5 : w5.cell? ⟨w.heap.size, 5, none⟩ = some (.int .i64 0) := by rw [Lib.cell_of_heap hk]; rfl
    have m6 : w5.cell? ⟨w.heap.size, 6, none⟩ = some (.string ⟨#[]⟩) := by rw [Lib.cell_of_heap hk]; rfl
    have mf : ∀ j, w5.frozen? ⟨w.heap.size, j, none⟩ = false := fun j => Lib.frozen_of_heap hk j
    obtain ⟨wz, hwz⟩ : ∃ wz, wz = (((((((w5.setCell ⟨w.heap.size, 0, none⟩ (.int .i64 0)).setCell ⟨w.heap.size, 1, none⟩ (.int .i64 0)).setCell ⟨w.heap.size, 2, none⟩ (.int .i64 0)).setCell ⟨w.heap.size, 3, none⟩ (.int .i64 0)).setCell ⟨w.heap.size, 4, none⟩ (.int .i64 0)).setCell ⟨w.heap.size, 5, none⟩ (.int .i64 0)).setCell ⟨w.heap.size, 6, none⟩ (.string ⟨#[]⟩)) := ⟨_, rfl⟩
    have Bz : Hid (Below w.heap.size w wz) := by show Below _ _ _; rw [hwz]; exact (((((((Bw5.out.setCell (p := ⟨w.heap.size, 0, none⟩) (Nat.le_refl _) (.int .i64 0)).setCell (p := ⟨w.heap.size, 1, none⟩) (Nat.le_refl _) (.int .i64 0)).setCell (p := ⟨w.heap.size, 2, none⟩) (Nat.le_refl _) (.int .i64 0)).setCell (p := ⟨w.heap.size, 3, none⟩) (Nat.le_refl _) (.int .i64 0)).setCell (p := ⟨w.heap.size, 4, none⟩) (Nat.le_refl _) (.int .i64 0)).setCell (p := ⟨w.heap.size, 5, none⟩) (Nat.le_refl _) (.int .i64 0)).setCell (p := ⟨w.heap.size, 6, none⟩) (Nat.le_refl _) (.string ⟨#[]⟩))
    have hz : wz.heap[w.heap.size]? = some (.cells #[.int .i64 0, .int .i64 0, .int .i64 0, .int .i64 0, .int .i64 0, .int .i64 0, .string ⟨#[]⟩] 23 (0, 0)) := by rw [hwz]; exact (heap_st (heap_st (heap_st (heap_st (heap_st (heap_st (heap_st hk 0 (.int .i64 0)) 1 (.int .i64 0)) 2 (.int .i64 0)) 3 (.int .i64 0)) 4 (.int .i64 0)) 5 (.int .i64 0)) 6 (.string ⟨#[]⟩))
    have HZ : Hid (wz.heap[w.heap.size]? = some (.cells #[.int .i64 0, .int .i64 0, .int .i64 0, .int .i64 0, .int .i64 0, .int .i64 0, .string ⟨#[]⟩] 23 (0, 0))) := hz
    clear hk hz
    go_wp2_with fail
    rw [← hwz]
    clear hwz m0 m1 m2 m3 m4 m5 m6 mf
    have hk := HZ.out
    have d0 : wz.cell? ⟨w.heap.size, 0, none⟩ = some (.int .i64 0) := by rw [Lib.cell_of_heap hk]; rfl
    have d1 : wz.cell? ⟨w.heap.size, 1, none⟩ = some (.int .i64 0) := by rw [Lib.cell_of_heap hk]; rfl
    have d2 : wz.cell? ⟨w.heap.size, 2, none⟩ = some (.int .i64 0) := by rw [Lib.cell_of_heap hk]; rfl
    have d3 : wz.cell? ⟨w.heap.size, 3, none⟩ = some (.int .i64 0) := by rw [Lib.cell_of_heap hk]; rfl
    have d4 : wz.cell? ⟨w.heap.size, 4, none⟩ = some (.int .i64 0) := by rw [Lib.cell_of_heap hk]; rfl
    have d5 : wz.cell? ⟨w.heap.size, 5, none⟩ = some (.int .i64 0) := by rw [Lib.cell_of_heap hk]; rfl
    have d6 : wz.cell? ⟨w.heap.size, 6, none⟩ = some (.string ⟨#[]⟩) := by rw [Lib.cell_of_heap hk]; rfl
    clear hk
    try simp only [Exit.inBlock, Exit.then]
    refine bodyPost_ret (v := .tuple #[.agg #[.int .i64 0, .int .i64 0, .int .i64 0, .int .i64 0, .int .i64 0, .int .i64 0, .string ⟨#[]⟩], .int .i64 3]) ?_ rfl ⟨rfl, Bz.out⟩
    rw [results_ct rfl]; go_simp
  | true =>
    obtain rfl : X = pkOf [y0, y1, y2, y3, y4, y5, y6] := hX2
    obtain rfl : E = 0 := hE2
    have hk0 := HP5.out
    have c0 : w5.cell? ⟨v0.heap.size, 0, none⟩ = some (.int .i64 y0.n) := by rw [Lib.cell_of_heap hk0]; rfl
    have c1 : w5.cell? ⟨v0.heap.size, 1, none⟩ = some (.int .i64 y1.n) := by rw [Lib.cell_of_heap hk0]; rfl
    have c2 : w5.cell? ⟨v0.heap.size, 2, none⟩ = some (.int .i64 y2.n) := by rw [Lib.cell_of_heap hk0]; rfl
    have c3 : w5.cell? ⟨v0.heap.size, 3, none⟩ = some (.int .i64 y3.n) := by rw [Lib.cell_of_heap hk0]; rfl
    have c4 : w5.cell? ⟨v0.heap.size, 4, none⟩ = some (.int .i64 y4.n) := by rw [Lib.cell_of_heap hk0]; rfl
    have c5 : w5.cell? ⟨v0.heap.size, 5, none⟩ = some (.int .i64 y5.n) := by rw [Lib.cell_of_heap hk0]; rfl
    have c6 : w5.cell? ⟨v0.heap.size, 6, none⟩ = some (.string y6.s) := by rw [Lib.cell_of_heap hk0]; rfl
    clear hk0
    have hk := HK.out w5 B5.out
    have m0 : w5.cell? ⟨w.heap.size, 0, none⟩ = some (.int .i64 0) := by rw [Lib.cell_of_heap hk]; rfl
    have m1 : w5.cell? ⟨w.heap.size, 1, none⟩ = some (.int .i64 0) := by rw [Lib.cell_of_heap hk]; rfl
    have m2 : w5.cell? ⟨w.heap.size, 2, none⟩ = some (.int .i64 0) := by rw [Lib.cell_of_heap hk]; rfl
    have m3 : w5.cell? ⟨w.heap.size, 3, none⟩ = some (.int .i64 0) := by rw [Lib.cell_of_heap hk]; rfl
    have m4 : w5.cell? ⟨w.heap.size, 4, none⟩ = some (.int .i64 0) := by rw [Lib.cell_of_heap hk]; rfl
    have m5 : w5.cell? ⟨w.heap.size, 5, none⟩ = some (.int .i64 0) := by rw [Lib.cell_of_heap hk]; rfl
    have m6 : w5.cell? ⟨w.heap.size, 6, none⟩ = some (.string ⟨#[]⟩) := by rw [Lib.cell_of_heap hk]; rfl
    have mf : ∀ j, w5.frozen? ⟨w.heap.size, j, none⟩ = false := fun j => Lib.frozen_of_heap hk j
    obtain ⟨wz, hwz⟩ : ∃ wz, wz = (((((((w5.setCell ⟨w.heap.size, 0, none⟩ (.int .i64 y0.n)).setCell ⟨w.heap.size, 1, none⟩ (.int .i64 y1.n)).setCell ⟨w.heap.size, 2, none⟩ (.int .i64 y2.n)).setCell ⟨w.heap.size, 3, none⟩ (.int .i64 y3.n)).setCell ⟨w.heap.size, 4, none⟩ (.int .i64 y4.n)).setCell ⟨w.heap.size, 5, none⟩ (.int .i64 y5.n)).setCell ⟨w.heap.size, 6, none⟩ (.string y6.s)) := ⟨_, rfl⟩
    have Bz : Hid (Below w.heap.size w wz) := by show Below _ _ _; rw [hwz]; exact (((((((Bw5.out.setCell (p := ⟨w.heap.size, 0, none⟩) (Nat.le_refl _) (.int .i64 y0.n)).setCell (p := ⟨w.heap.size, 1, none⟩) (Nat.le_refl _) (.int .i64 y1.n)).setCell (p := ⟨w.heap.size, 2, none⟩) (Nat.le_refl _) (.int .i64 y2.n)).setCell (p := ⟨w.heap.size, 3, none⟩) (Nat.le_refl _) (.int .i64 y3.n)).setCell (p := ⟨w.heap.size, 4, none⟩) (Nat.le_refl _) (.int .i64 y4.n)).setCell (p := ⟨w.heap.size, 5, none⟩) (Nat.le_refl _) (.int .i64 y5.n)).setCell (p := ⟨w.heap.size, 6, none⟩) (Nat.le_refl _) (.string y6.s))
    have hz : wz.heap[w.heap.size]? = some (.cells #[.int .i64 y0.n, .int .i64 y1.n, .int .i64 y2.n, .int .i64 y3.n, .int .i64 y4.n, .int .i64 y5.n, .string y6.s] 23 (0, 0)) := by rw [hwz]; exact (heap_st (heap_st (heap_st (heap_st (heap_st (heap_st (heap_st hk 0 (.int .i64 y0.n)) 1 (.int .i64 y1.n)) 2 (.int .i64 y2.n)) 3 (.int .i64 y3.n)) 4 (.int .i64 y4.n)) 5 (.int .i64 y5.n)) 6 (.string y6.s))
    have HZ : Hid (wz.heap[w.heap.size]? = some (.cells #[.int .i64 y0.n, .int .i64 y1.n, .int .i64 y2.n, .int .i64 y3.n, .int .i64 y4.n, .int .i64 y5.n, .string y6.s] 23 (0, 0))) := hz
    clear hk hz
    go_wp2_with fail
    rw [← hwz]
    clear hwz m0 m1 m2 m3 m4 m5 m6 mf
    have hk := HZ.out
    have d0 : wz.cell? ⟨w.heap.size, 0, none⟩ = some (.int .i64 y0.n) := by rw [Lib.cell_of_heap hk]; rfl
    have d1 : wz.cell? ⟨w.heap.size, 1, none⟩ = some (.int .i64 y1.n) := by rw [Lib.cell_of_heap hk]; rfl
    have d2 : wz.cell? ⟨w.heap.size, 2, none⟩ = some (.int .i64 y2.n) := by rw [Lib.cell_of_heap hk]; rfl
    have d3 : wz.cell? ⟨w.heap.size, 3, none⟩ = some (.int .i64 y3.n) := by rw [Lib.cell_of_heap hk]; rfl
    have d4 : wz.cell? ⟨w.heap.size, 4, none⟩ = some (.int .i64 y4.n) := by rw [Lib.cell_of_heap hk]; rfl
    have d5 : wz.cell? ⟨w.heap.size, 5, none⟩ = some (.int .i64 y5.n) := by rw [Lib.cell_of_heap hk]; rfl
    have d6 : wz.cell? ⟨w.heap.size, 6, none⟩ = some (.string y6.s) := by rw [Lib.cell_of_heap hk]; rfl
    clear hk
    try simp only [Exit.inBlock, Exit.then]
    refine bodyPost_ret (v := .tuple #[.agg #[.int .i64 y0.n, .int .i64 y1.n, .int .i64 y2.n, .int .i64 y3.n, .int .i64 y4.n, .int .i64 y5.n, .string y6.s], .int .i64 0]) ?_ rfl ⟨rfl, Bz.out⟩
    rw [results_ct rfl]; go_simp
end Go.Proofs.YtoplpohpodkpdaaGreatDoor
