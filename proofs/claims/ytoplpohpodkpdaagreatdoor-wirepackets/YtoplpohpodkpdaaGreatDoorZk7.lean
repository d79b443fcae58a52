/- wire.read, Read at the bytes of the examples: walks. -/
import Derived.Test.YtoplpohpodkpdaaGreatDoorZk4
import Derived.Test.YtoplpohpodkpdaaGreatDoorZk6
import Derived.Deep.RegionHeld3
import Derived.Laws.Tables
import Derived.Laws.CopyOwn
namespace Go.Proofs.YtoplpohpodkpdaaGreatDoor
open Go.RowKit

theorem heap_stM {w : World} {g : Nat} {C : Array Value} {ty : TypeId} {z : Nat × Nat} (h : w.heap[g]? = some (.cells C ty z)) (j : Nat) (v : Value) : (w.setCell ⟨g, j, none⟩ v).heap[g]? = some (.cells (C.setIfInBounds j v) ty z) := by
  show (w.heap.modify g _)[g]? = _
  rw [Array.getElem?_modify, if_pos rfl, h]
  rfl
theorem heap_ne {w : World} {g b : Nat} (h : b ≠ g) (j : Nat) (v : Value) : (w.setCell ⟨g, j, none⟩ v).heap[b]? = w.heap[b]? := by
  show (w.heap.modify g _)[b]? = _
  rw [Array.getElem?_modify, if_neg (fun e => h e.symm)]
theorem row_11 {w : World} {g : Nat} {ty : TypeId} {z : Nat × Nat} (h : w.heap[g]? = some (.cells #[.int .i64 1, .int .i64 1] ty z)) : IsRow w 1 (.slice (some ⟨g, 0, none⟩) 2 2) ([1, 1] : List Int).length (Q.intCells [1, 1]) := by
  refine ⟨rfl, .inr ⟨g, 0, 2, rfl, (Array.getElem?_eq_some_iff.1 h).1, Nat.le_refl _, by decide, fun j u hu => ?_⟩⟩
  rw [Nat.zero_add, Lib.cell_of_heap h]
  have e : Q.intCells [1, 1] = [.int .i64 1, .int .i64 1] := rfl
  rw [e] at hu
  rw [← hu]
  simp
abbrev mZ : Array Value := msgC 0 0 0 0 0 ⟨#[]⟩
theorem mZ_no (o : Nat) : ¬ mZ[o]? = some (.int .i64 1) := fun h => by
  have h2 := Array.mem_of_getElem? h
  simp at h2
theorem takeRR : Q.takeR ⟨#[14, 3]⟩ [1, 1] = ([(⟨1, 14, ⟨#[]⟩⟩ : It), ⟨1, 3, ⟨#[]⟩⟩], ⟨#[]⟩, 0) := by kernel_rfl
set_option maxRecDepth 100000 in
set_option maxHeartbeats 8000000 in
theorem readR (w : World) (hH : ∀ p ∈ pts, ∀ W, Below w.heap.size w W → Calls Tryz.prog 32 #[.agg mR, .int .i64 p] W fun e w' => e = .returned (.bool false) ∧ Below W.heap.size W w') :
    Calls Tryz.prog 22 #[.string ⟨#[14, 3]⟩] w fun e w' => e = .returned (.tuple #[.agg mR, .int .i64 0]) ∧ Below w.heap.size w w' := by
  have HH : Hid (∀ p ∈ pts, ∀ W, Below w.heap.size w W → Calls Tryz.prog 32 #[.agg mR, .int .i64 p] W fun e w' => e = .returned (.bool false) ∧ Below W.heap.size W w') := hH
  have HI : Hid (∀ W, Calls Tryz.prog 31 #[.int .i64 14] W fun e w' => e = .returned (.bool true) ∧ w' = W) := fun W => isKindW_any 14 W (by decide) (by decide)
  clear hH
  obtain ⟨w1, hw1⟩ : ∃ w1, w1 = w.alloc (.cells (mZ) 45) := ⟨_, rfl⟩
  have B1 : Hid (Below w.heap.size w w1) := by show Below _ _ _; rw [hw1]; exact al_f _ _
  have hk1 : w1.heap[w.heap.size]? = some (.cells (mZ) 45 (0, 0)) := by rw [hw1]; exact nw_at _ _
  have K1 : Hid (∀ W, Below w1.heap.size w1 W → W.heap[w.heap.size]? = some (.cells (mZ) 45 (0, 0))) := fun W hb => (hb.block _ (Array.getElem?_eq_some_iff.1 hk1).1).trans hk1
  clear hk1
  obtain ⟨w2, hw2⟩ : ∃ w2, w2 = w1.alloc (.cells (#[.int .i64 1, .int .i64 1]) 3) := ⟨_, rfl⟩
  have B2 : Hid (Below w1.heap.size w1 w2) := by show Below _ _ _; rw [hw2]; exact al_f _ _
  have hk2 : w2.heap[w1.heap.size]? = some (.cells (#[.int .i64 1, .int .i64 1]) 3 (0, 0)) := by rw [hw2]; exact nw_at _ _
  have K2 : Hid (∀ W, Below w2.heap.size w2 W → W.heap[w1.heap.size]? = some (.cells (#[.int .i64 1, .int .i64 1]) 3 (0, 0))) := fun W hb => (hb.block _ (Array.getElem?_eq_some_iff.1 hk2).1).trans hk2
  clear hk2
  have hz1 : w1.heap.size = w.heap.size + 1 := by rw [hw1]; simp
  have HC : Hid (Calls Tryz.prog 25 #[.string ⟨#[14, 3]⟩, .slice (some ⟨w1.heap.size, 0, none⟩) 2 2] w2 fun e w' => ∃ v, e = .returned (.tuple #[v, .string ⟨#[]⟩, .int .i64 0]) ∧ IsRow w' 3 v [(⟨1, 14, ⟨#[]⟩⟩ : It), ⟨1, 3, ⟨#[]⟩⟩].length (itCells [(⟨1, 14, ⟨#[]⟩⟩ : It), ⟨1, 3, ⟨#[]⟩⟩]) ∧ Below w2.heap.size w2 w') := by
    have h0 := Q.take_any ⟨#[14, 3]⟩ _ [1, 1] w2 (by decide) (row_11 (K2.out w2 (Below.refl _ _))) (by decide)
    rw [takeRR] at h0
    exact h0
  clear K2
  go_enter Tryz.func22, Tryz.ntmps22
  go_wp2_with fail
  rw [← hz1, ← hw1, ← hw2]
  clear hw1 hw2 hz1
  refine HC.out.mono ?_
  as_aux_lemma =>
    rintro e w3 ⟨v3, rfl, hr, hb⟩
    obtain ⟨av, cv, rfl⟩ := hr.form
    have B3 : Hid (Below w1.heap.size w1 w3) := bT B2.out hb
    have Bw3 : Hid (Below w.heap.size w w3) := bT B1.out B3.out
    obtain ⟨b0, o0, hv0, hlt0, u0a, u0, -⟩ := items_at hr 0 (by simp)
    obtain ⟨b1, o1, hv1, hlt1, -, u1, -⟩ := items_at hr 1 (by simp)
    subst hv0
    simp only [Option.some.injEq, Addr.mk.injEq] at hv1
    obtain ⟨rfl, rfl, -⟩ := hv1
    have hne : b0 ≠ w.heap.size := fun e => by
      rw [e, Lib.cell_of_heap (K1.out w3 B3.out)] at u0a
      exact mZ_no _ u0a
    have HN : Hid (b0 ≠ w.heap.size) := hne
    have HS3 : Hid (∀ W : World, W.heap[b0]? = w3.heap[b0]? → W.cell? ⟨b0, o0 + 1, none⟩ = some (.int .i64 14) ∧ W.cell? ⟨b0, o0 + 4, none⟩ = some (.int .i64 3)) := fun W hb2 => ⟨(World.cell?_of_block (a := ⟨b0, o0 + 1, none⟩) hb2).trans u0, (World.cell?_of_block (a := ⟨b0, o0 + 4, none⟩) hb2).trans u1⟩
    have HS : Hid (∀ W, Below w3.heap.size w3 W → W.heap[b0]? = w3.heap[b0]?) := fun W hb2 => hb2.block _ hlt0
    clear hb hr HC u0a u0 u1 hlt0 hlt1 hne
    have HBd : Hid (Below w3.heap.size w3 w3.drew) := (Below.refl _ _).drew
    go_wp2_with fail
    refine wp_region_held_drew (S := fun W => W.cell? ⟨b0, o0 + 1, none⟩ = some (.int .i64 14) ∧ W.cell? ⟨b0, o0 + 4, none⟩ = some (.int .i64 3)) (by kernel_rfl) (HS3.out _ (HS.out _ HBd.out)) (fun hHeld => ?_)
    generalize hw0 : w3.drew = v0 at *
    clear hw0
    refine wpAnyH_take (i := 0) (v := ?_) rfl (by kernel_rfl) (by kernel_rfl) (by kernel_rfl) (fun _ _ _ h => h) (Or.inl ⟨by rfl, ?_⟩) hHeld ?_
    rotate_left 1
    · intro w9 hSw; obtain ⟨g0, g1⟩ := hSw; go_simp; try with_reducible rfl
    change wpAnyH _ _ _ _ _ _ _ (Act.put _ (some 17) _) _
    simp only [Act.put, List.setIfInBounds_toArray, List.set_cons_zero, List.set_cons_succ]
    refine wpAnyH_take (i := 1) (v := ?_) rfl (by kernel_rfl) (by kernel_rfl) (by kernel_rfl) (fun _ _ _ h => h) (Or.inl ⟨by rfl, ?_⟩) hHeld ?_
    rotate_left 1
    · intro w9 hSw; obtain ⟨g0, g1⟩ := hSw; go_simp; try with_reducible rfl
    change wpAnyH _ _ _ _ _ _ _ (Act.put _ (some 18) _) _
    simp only [Act.put, List.setIfInBounds_toArray, List.set_cons_zero, List.set_cons_succ]
    refine wpAnyH_take (i := 2) (v := ?_) rfl (by kernel_rfl) (by kernel_rfl) (by kernel_rfl) (fun _ _ _ h => h) (Or.inl ⟨by rfl, ?_⟩) hHeld ?_
    rotate_left 1
    · intro w9 hSw; obtain ⟨g0, g1⟩ := hSw; go_simp; try with_reducible rfl
    change wpAnyH _ _ _ _ _ _ _ (Act.put _ (some 19) _) _
    simp only [Act.put, List.setIfInBounds_toArray, List.set_cons_zero, List.set_cons_succ]
    refine wpAnyH_take (i := 3) (v := ?_) rfl (by kernel_rfl) (by kernel_rfl) (by kernel_rfl) (fun _ _ _ h => h) (Or.inl ⟨by rfl, ?_⟩) hHeld ?_
    rotate_left 1
    · intro w9 hSw; obtain ⟨g0, g1⟩ := hSw; go_simp; try with_reducible rfl
    change wpAnyH _ _ _ _ _ _ _ (Act.put _ (some 20) _) _
    simp only [Act.put, List.setIfInBounds_toArray, List.set_cons_zero, List.set_cons_succ]
    refine wpAnyH_take (i := 4) (v := ?_) rfl (by kernel_rfl) (by kernel_rfl) (by kernel_rfl) (fun _ _ _ h => h) (Or.inl ⟨by rfl, ?_⟩) hHeld ?_
    rotate_left 1
    · intro w9 hSw; obtain ⟨g0, g1⟩ := hSw; go_simp; try with_reducible rfl
    change wpAnyH _ _ _ _ _ _ _ (Act.put _ (some 21) _) _
    simp only [Act.put, List.setIfInBounds_toArray, List.set_cons_zero, List.set_cons_succ]
    refine wpAnyH_take (i := 5) (v := ?_) rfl (by kernel_rfl) (by kernel_rfl) (by kernel_rfl) (fun _ _ _ h => h) (Or.inl ⟨by rfl, ?_⟩) hHeld ?_
    rotate_left 1
    · intro w9 hSw; obtain ⟨g0, g1⟩ := hSw; go_simp; try with_reducible rfl
    change wpAnyH _ _ _ _ _ _ _ (Act.put _ (some 22) _) _
    simp only [Act.put, List.setIfInBounds_toArray, List.set_cons_zero, List.set_cons_succ]
    refine wpAnyH_take (i := 6) (v := ?_) rfl (by kernel_rfl) (by kernel_rfl) (by kernel_rfl) (fun _ _ _ h => h) (Or.inl ⟨by rfl, ?_⟩) hHeld ?_
    rotate_left 1
    · intro w9 hSw; obtain ⟨g0, g1⟩ := hSw; go_simp; try with_reducible rfl
    change wpAnyH _ _ _ _ _ _ _ (Act.put _ (some 23) _) _
    simp only [Act.put, List.setIfInBounds_toArray, List.set_cons_zero, List.set_cons_succ]
    refine wpAnyH_take (i := 7) (v := ?_) rfl (by kernel_rfl) (by kernel_rfl) (by kernel_rfl) (fun _ _ _ h => h) (Or.inl ⟨by rfl, ?_⟩) hHeld ?_
    rotate_left 1
    · intro w9 hSw; obtain ⟨g0, g1⟩ := hSw; go_simp; try with_reducible rfl
    change wpAnyH _ _ _ _ _ _ _ (Act.put _ (some 24) _) _
    simp only [Act.put, List.setIfInBounds_toArray, List.set_cons_zero, List.set_cons_succ]
    refine wpAnyH_take (i := 8) (v := ?_) rfl (by kernel_rfl) (by kernel_rfl) (by kernel_rfl) (fun _ _ _ h => h) (Or.inl ⟨by rfl, ?_⟩) hHeld ?_
    rotate_left 1
    · intro w9 hSw; obtain ⟨g0, g1⟩ := hSw; go_simp; try with_reducible rfl
    change wpAnyH _ _ _ _ _ _ _ (Act.put _ (some 25) _) _
    simp only [Act.put, List.setIfInBounds_toArray, List.set_cons_zero, List.set_cons_succ]
    have hk := (K1.out v0 (bT B3.out HBd.out))
    have m0 : v0.cell? ⟨w.heap.size, 0, none⟩ = some (.int .i64 0) := by rw [Lib.cell_of_heap hk]; rfl
    have mf : ∀ j, v0.frozen? ⟨w.heap.size, j, none⟩ = false := fun j => Lib.frozen_of_heap hk j
    obtain ⟨v1, hv1⟩ : ∃ v1, v1 = (v0.setCell ⟨w.heap.size, 0, none⟩ (.int .i64 14)) := ⟨_, rfl⟩
    have Nv1 : Hid (v1.heap[w.heap.size]? = some (.cells (msgC 14 0 0 0 0 ⟨#[]⟩) 45 (0, 0))) := by show _ = _; rw [hv1]; exact heap_stM hk 0 (.int .i64 14)
    have Sv1 : Hid (v1.heap[b0]? = w3.heap[b0]?) := by show _ = _; rw [hv1]; exact (heap_ne HN.out 0 _).trans (HS.out _ HBd.out)
    have Qv1 : Hid (Below w.heap.size w v1) := by show Below _ _ _; rw [hv1]; exact (bT Bw3.out HBd.out).setCell (p := ⟨w.heap.size, 0, none⟩) (Nat.le_refl _) (.int .i64 14)
    clear hk
    refine wpAnyH_ready (rs := [9]) (by kernel_rfl) (by simp) ?_
    refine AllReadyH.cons rfl (fun K hK => ?_) AllReadyH.nil
    go_simp
    rw [← hv1]
    clear hv1 m0 mf
    refine hK.out _ _ (HS3.out _ Sv1.out) (fun hHeld => ?_)
    clear hK K
    refine wpAnyH_take (i := 10) (v := ?_) rfl (by kernel_rfl) (by kernel_rfl) (by kernel_rfl) (fun _ _ _ h => h) (Or.inl ⟨by rfl, ?_⟩) hHeld ?_
    rotate_left 1
    · intro w9 hSw; obtain ⟨g0, g1⟩ := hSw; go_simp; try with_reducible rfl
    change wpAnyH _ _ _ _ _ _ _ (Act.put _ (some 26) _) _
    simp only [Act.put, List.setIfInBounds_toArray, List.set_cons_zero, List.set_cons_succ]
    have hk := Nv1.out
    have m1 : v1.cell? ⟨w.heap.size, 1, none⟩ = some (.int .i64 0) := by rw [Lib.cell_of_heap hk]; rfl
    have mf : ∀ j, v1.frozen? ⟨w.heap.size, j, none⟩ = false := fun j => Lib.frozen_of_heap hk j
    obtain ⟨v2, hv2⟩ : ∃ v2, v2 = (v1.setCell ⟨w.heap.size, 1, none⟩ (.int .i64 3)) := ⟨_, rfl⟩
    have Nv2 : Hid (v2.heap[w.heap.size]? = some (.cells (mR) 45 (0, 0))) := by show _ = _; rw [hv2]; exact heap_stM hk 1 (.int .i64 3)
    have Sv2 : Hid (v2.heap[b0]? = w3.heap[b0]?) := by show _ = _; rw [hv2]; exact (heap_ne HN.out 1 _).trans Sv1.out
    have Qv2 : Hid (Below w.heap.size w v2) := by show Below _ _ _; rw [hv2]; exact Qv1.out.setCell (p := ⟨w.heap.size, 1, none⟩) (Nat.le_refl _) (.int .i64 3)
    clear hk
    refine wpAnyH_ready (rs := [11]) (by kernel_rfl) (by simp) ?_
    refine AllReadyH.cons rfl (fun K hK => ?_) AllReadyH.nil
    go_simp
    rw [← hv2]
    clear hv2 m1 mf
    refine hK.out _ _ (HS3.out _ Sv2.out) (fun hHeld => ?_)
    clear hK K
    refine wpAnyH_done (by kernel_rfl) ?_ _
    clear hHeld Nv1 Sv1 Sv2 Qv1 HBd HS HS3 HN B3 Bw3 K1 B1 B2
    have c0 : v2.cell? ⟨w.heap.size, 0, none⟩ = some (.int .i64 14) := by rw [Lib.cell_of_heap Nv2.out]; rfl
    go_wp2_with fail
    clear c0
    refine (HI.out _).mono ?_
    as_aux_lemma =>
      rintro e w4 ⟨rfl, rfl⟩
      clear HI
      go_wp2_with fail
      go_loopw [0, 3, 5] (fun r0 r3 i wr => ∃ p : Int, (p ∈ pts ∨ p = 512) ∧ r0 = .string ⟨#[]⟩ ∧ r3 = .int .i64 0 ∧ i = .int .i64 p ∧ Hid (Below w.heap.size w wr) ∧ Hid (wr.heap[w.heap.size]? = some (.cells mR 45 (0, 0)))) (fun _ _ i _ => 512 - (intOf i).toNat)
      case atStart => exact ⟨1, .inl (by decide), rfl, rfl, rfl, Qv2, Nv2⟩
      case round =>
        clear Qv2 Nv2
        obtain ⟨p, hp, rfl, rfl, rfl, HB, HN⟩ := hrel
        as_aux_lemma =>
          rcases hp with hp | rfl
          rotate_left
          · clear HH
            have m0 : wr.cell? ⟨w.heap.size, 0, none⟩ = some (.int .i64 14) := by rw [Lib.cell_of_heap HN.out]; rfl
            have m1 : wr.cell? ⟨w.heap.size, 1, none⟩ = some (.int .i64 3) := by rw [Lib.cell_of_heap HN.out]; rfl
            have m2 : wr.cell? ⟨w.heap.size, 2, none⟩ = some (.int .i64 0) := by rw [Lib.cell_of_heap HN.out]; rfl
            have m3 : wr.cell? ⟨w.heap.size, 3, none⟩ = some (.int .i64 0) := by rw [Lib.cell_of_heap HN.out]; rfl
            have m4 : wr.cell? ⟨w.heap.size, 4, none⟩ = some (.int .i64 0) := by rw [Lib.cell_of_heap HN.out]; rfl
            have m5 : wr.cell? ⟨w.heap.size, 5, none⟩ = some (.int .i64 0) := by rw [Lib.cell_of_heap HN.out]; rfl
            have m6 : wr.cell? ⟨w.heap.size, 6, none⟩ = some (.string ⟨#[]⟩) := by rw [Lib.cell_of_heap HN.out]; rfl
            have m7 : wr.cell? ⟨w.heap.size, 7, none⟩ = some (.string ⟨#[]⟩) := by rw [Lib.cell_of_heap HN.out]; rfl
            have m8 : wr.cell? ⟨w.heap.size, 8, none⟩ = some (.int .i64 0) := by rw [Lib.cell_of_heap HN.out]; rfl
            have m9 : wr.cell? ⟨w.heap.size, 9, none⟩ = some (.slice none 0 0) := by rw [Lib.cell_of_heap HN.out]; rfl
            have m10 : wr.cell? ⟨w.heap.size, 10, none⟩ = some (.slice none 0 0) := by rw [Lib.cell_of_heap HN.out]; rfl
            have m11 : wr.cell? ⟨w.heap.size, 11, none⟩ = some (.slice none 0 0) := by rw [Lib.cell_of_heap HN.out]; rfl
            have m12 : wr.cell? ⟨w.heap.size, 12, none⟩ = some (.int .i64 0) := by rw [Lib.cell_of_heap HN.out]; rfl
            have m13 : wr.cell? ⟨w.heap.size, 13, none⟩ = some (.int .i64 0) := by rw [Lib.cell_of_heap HN.out]; rfl
            have m14 : wr.cell? ⟨w.heap.size, 14, none⟩ = some (.int .i64 0) := by rw [Lib.cell_of_heap HN.out]; rfl
            have m15 : wr.cell? ⟨w.heap.size, 15, none⟩ = some (.string ⟨#[]⟩) := by rw [Lib.cell_of_heap HN.out]; rfl
            have m16 : wr.cell? ⟨w.heap.size, 16, none⟩ = some (.slice none 0 0) := by rw [Lib.cell_of_heap HN.out]; rfl
            have Bz : Hid (Below w.heap.size w (wr.setRow w.heap.size mR)) := below_setRow HB.out (Nat.le_refl _) _
            have HZ : Hid ((wr.setRow w.heap.size mR).heap[w.heap.size]? = some (.cells mR 45 (0, 0))) := setRow_heap _ _ _ _ _ _ HN.out
            go_wp2_with (refine wpList_store_row rfl 45 (.tmp 2) (.tmp 50) rfl w.heap.size mR rfl rfl 45 mR HN.out (by kernel_rfl) rfl (by kernel_rfl) ?_)
            clear m0 m1 m2 m3 m4 m5 m6 m7 m8 m9 m10 m11 m12 m13 m14 m15 m16
            generalize wr.setRow w.heap.size mR = wz at *
            have hk := HZ.out
            have d0 : wz.cell? ⟨w.heap.size, 0, none⟩ = some (.int .i64 14) := by rw [Lib.cell_of_heap hk]; rfl
            have d1 : wz.cell? ⟨w.heap.size, 1, none⟩ = some (.int .i64 3) := by rw [Lib.cell_of_heap hk]; rfl
            have d2 : wz.cell? ⟨w.heap.size, 2, none⟩ = some (.int .i64 0) := by rw [Lib.cell_of_heap hk]; rfl
            have d3 : wz.cell? ⟨w.heap.size, 3, none⟩ = some (.int .i64 0) := by rw [Lib.cell_of_heap hk]; rfl
            have d4 : wz.cell? ⟨w.heap.size, 4, none⟩ = some (.int .i64 0) := by rw [Lib.cell_of_heap hk]; rfl
            have d5 : wz.cell? ⟨w.heap.size, 5, none⟩ = some (.int .i64 0) := by rw [Lib.cell_of_heap hk]; rfl
            have d6 : wz.cell? ⟨w.heap.size, 6, none⟩ = some (.string ⟨#[]⟩) := by rw [Lib.cell_of_heap hk]; rfl
            have d7 : wz.cell? ⟨w.heap.size, 7, none⟩ = some (.string ⟨#[]⟩) := by rw [Lib.cell_of_heap hk]; rfl
            have d8 : wz.cell? ⟨w.heap.size, 8, none⟩ = some (.int .i64 0) := by rw [Lib.cell_of_heap hk]; rfl
            have d9 : wz.cell? ⟨w.heap.size, 9, none⟩ = some (.slice none 0 0) := by rw [Lib.cell_of_heap hk]; rfl
            have d10 : wz.cell? ⟨w.heap.size, 10, none⟩ = some (.slice none 0 0) := by rw [Lib.cell_of_heap hk]; rfl
            have d11 : wz.cell? ⟨w.heap.size, 11, none⟩ = some (.slice none 0 0) := by rw [Lib.cell_of_heap hk]; rfl
            have d12 : wz.cell? ⟨w.heap.size, 12, none⟩ = some (.int .i64 0) := by rw [Lib.cell_of_heap hk]; rfl
            have d13 : wz.cell? ⟨w.heap.size, 13, none⟩ = some (.int .i64 0) := by rw [Lib.cell_of_heap hk]; rfl
            have d14 : wz.cell? ⟨w.heap.size, 14, none⟩ = some (.int .i64 0) := by rw [Lib.cell_of_heap hk]; rfl
            have d15 : wz.cell? ⟨w.heap.size, 15, none⟩ = some (.string ⟨#[]⟩) := by rw [Lib.cell_of_heap hk]; rfl
            have d16 : wz.cell? ⟨w.heap.size, 16, none⟩ = some (.slice none 0 0) := by rw [Lib.cell_of_heap hk]; rfl
            clear hk
            try simp only [Exit.inBlock, Exit.then]
            refine bodyPost_ret (v := .tuple #[.agg mR, .int .i64 0]) ?_ rfl ⟨rfl, Bz.out⟩
            rw [results_ct rfl]; go_simp
          have hlt := (pts_lt hp).2
          have hge := (pts_lt hp).1
          have d1 : decide (p < 512) = true := decide_eq_true hlt
          have HP : Hid (p ∈ pts) := hp
          have HNx : Hid (p * 2 ∈ pts ∨ p * 2 = 512) := pts_next hp
          have hk := HN.out
          have c0 : wr.cell? ⟨w.heap.size, 0, none⟩ = some (.int .i64 14) := by rw [Lib.cell_of_heap hk]; rfl
          have c1 : wr.cell? ⟨w.heap.size, 1, none⟩ = some (.int .i64 3) := by rw [Lib.cell_of_heap hk]; rfl
          have c2 : wr.cell? ⟨w.heap.size, 2, none⟩ = some (.int .i64 0) := by rw [Lib.cell_of_heap hk]; rfl
          have c3 : wr.cell? ⟨w.heap.size, 3, none⟩ = some (.int .i64 0) := by rw [Lib.cell_of_heap hk]; rfl
          have c4 : wr.cell? ⟨w.heap.size, 4, none⟩ = some (.int .i64 0) := by rw [Lib.cell_of_heap hk]; rfl
          have c5 : wr.cell? ⟨w.heap.size, 5, none⟩ = some (.int .i64 0) := by rw [Lib.cell_of_heap hk]; rfl
          have c6 : wr.cell? ⟨w.heap.size, 6, none⟩ = some (.string ⟨#[]⟩) := by rw [Lib.cell_of_heap hk]; rfl
          have c7 : wr.cell? ⟨w.heap.size, 7, none⟩ = some (.string ⟨#[]⟩) := by rw [Lib.cell_of_heap hk]; rfl
          have c8 : wr.cell? ⟨w.heap.size, 8, none⟩ = some (.int .i64 0) := by rw [Lib.cell_of_heap hk]; rfl
          have c9 : wr.cell? ⟨w.heap.size, 9, none⟩ = some (.slice none 0 0) := by rw [Lib.cell_of_heap hk]; rfl
          have c10 : wr.cell? ⟨w.heap.size, 10, none⟩ = some (.slice none 0 0) := by rw [Lib.cell_of_heap hk]; rfl
          have c11 : wr.cell? ⟨w.heap.size, 11, none⟩ = some (.slice none 0 0) := by rw [Lib.cell_of_heap hk]; rfl
          have c12 : wr.cell? ⟨w.heap.size, 12, none⟩ = some (.int .i64 0) := by rw [Lib.cell_of_heap hk]; rfl
          have c13 : wr.cell? ⟨w.heap.size, 13, none⟩ = some (.int .i64 0) := by rw [Lib.cell_of_heap hk]; rfl
          have c14 : wr.cell? ⟨w.heap.size, 14, none⟩ = some (.int .i64 0) := by rw [Lib.cell_of_heap hk]; rfl
          have c15 : wr.cell? ⟨w.heap.size, 15, none⟩ = some (.string ⟨#[]⟩) := by rw [Lib.cell_of_heap hk]; rfl
          have c16 : wr.cell? ⟨w.heap.size, 16, none⟩ = some (.slice none 0 0) := by rw [Lib.cell_of_heap hk]; rfl
          clear hk hp
          go_wp2_with fail
          clear c0 c1 c2 c3 c4 c5 c6 c7 c8 c9 c10 c11 c12 c13 c14 c15 c16
          refine (HH.out p HP.out _ HB.out).mono ?_
          as_aux_lemma =>
            rintro e w5 ⟨rfl, hb⟩
            have B5 : Hid (Below w.heap.size w w5) := bT HB.out hb
            have N5 : Hid (w5.heap[w.heap.size]? = some (.cells mR 45 (0, 0))) := (hb.block _ (Array.getElem?_eq_some_iff.1 HN.out).1).trans HN.out
            clear hb HB HN HP HH d1
            go_wp2
            go_roundw
            case rel => exact ⟨p * 2, HNx.out, rfl, rfl, rfl, B5.out, N5.out⟩
            case measure => simp [intOf]; omega
end Go.Proofs.YtoplpohpodkpdaaGreatDoor
/- wire.Read at the bytes of the examples; awake: walks. -/
namespace Go.Proofs.YtoplpohpodkpdaaGreatDoor
open Go.RowKit

set_option maxRecDepth 100000 in
set_option maxHeartbeats 8000000 in
theorem ReadR (w : World) (h : PO w) (hT : Q.Tab w) : Calls Tryz.prog 11 #[.string ⟨#[14, 3]⟩] w fun e w' => e = .returned (.tuple #[.agg mR, .int .i64 0]) ∧ Below w.heap.size w w' := by
  have HR : Hid (∀ W, Below w.heap.size w W → Calls Tryz.prog 22 #[.string ⟨#[14, 3]⟩] W fun e w' => e = .returned (.tuple #[.agg mR, .int .i64 0]) ∧ Below W.heap.size W w') := fun W hb => readR W fun p hp V hb2 => has14 _ _ _ _ _ p hp V ((h.below hb).below hb2)
  have HX : Hid (∀ W, Below w.heap.size w W → Calls Tryz.prog 12 #[.agg mR] W fun e w' => e = .returned (.string ⟨#[14, 3]⟩) ∧ Below W.heap.size W w') := fun W hb => textR W (h.below hb) (hT.below hb hT.size)
  clear h hT
  obtain ⟨w1, hw1⟩ : ∃ w1, w1 = w.alloc (.cells (mZ) 45) := ⟨_, rfl⟩
  have B1 : Hid (Below w.heap.size w w1) := by show Below _ _ _; rw [hw1]; exact al_f _ _
  have hk1 : w1.heap[w.heap.size]? = some (.cells (mZ) 45 (0, 0)) := by rw [hw1]; exact nw_at _ _
  have K1 : Hid (∀ W, Below w1.heap.size w1 W → W.heap[w.heap.size]? = some (.cells (mZ) 45 (0, 0))) := fun W hb => (hb.block _ (Array.getElem?_eq_some_iff.1 hk1).1).trans hk1
  clear hk1
  go_enter Tryz.func11, Tryz.ntmps11
  go_wp2_with fail
  rw [← hw1]
  clear hw1
  refine (HR.out _ B1.out).mono ?_
  as_aux_lemma =>
    rintro e w2 ⟨rfl, hb⟩
    have B2 : Hid (Below w1.heap.size w1 w2) := hb
    clear hb HR
    obtain ⟨w3, hw3⟩ : ∃ w3, w3 = w2.alloc (.cells (mR) 45) := ⟨_, rfl⟩
    have B3 : Hid (Below w2.heap.size w2 w3) := by show Below _ _ _; rw [hw3]; exact al_f _ _
    have hk3 : w3.heap[w2.heap.size]? = some (.cells (mR) 45 (0, 0)) := by rw [hw3]; exact nw_at _ _
    have K3 : Hid (∀ W, Below w3.heap.size w3 W → W.heap[w2.heap.size]? = some (.cells (mR) 45 (0, 0))) := fun W hb => (hb.block _ (Array.getElem?_eq_some_iff.1 hk3).1).trans hk3
    clear hk3
    have hk := K3.out w3 (Below.refl _ _)
    have c0 : w3.cell? ⟨w2.heap.size, 0, none⟩ = some (.int .i64 14) := by rw [Lib.cell_of_heap hk]; rfl
    have c1 : w3.cell? ⟨w2.heap.size, 1, none⟩ = some (.int .i64 3) := by rw [Lib.cell_of_heap hk]; rfl
    have c2 : w3.cell? ⟨w2.heap.size, 2, none⟩ = some (.int .i64 0) := by rw [Lib.cell_of_heap hk]; rfl
    have c3 : w3.cell? ⟨w2.heap.size, 3, none⟩ = some (.int .i64 0) := by rw [Lib.cell_of_heap hk]; rfl
    have c4 : w3.cell? ⟨w2.heap.size, 4, none⟩ = some (.int .i64 0) := by rw [Lib.cell_of_heap hk]; rfl
    have c5 : w3.cell? ⟨w2.heap.size, 5, none⟩ = some (.int .i64 0) := by rw [Lib.cell_of_heap hk]; rfl
    have c6 : w3.cell? ⟨w2.heap.size, 6, none⟩ = some (.string ⟨#[]⟩) := by rw [Lib.cell_of_heap hk]; rfl
    have c7 : w3.cell? ⟨w2.heap.size, 7, none⟩ = some (.string ⟨#[]⟩) := by rw [Lib.cell_of_heap hk]; rfl
    have c8 : w3.cell? ⟨w2.heap.size, 8, none⟩ = some (.int .i64 0) := by rw [Lib.cell_of_heap hk]; rfl
    have c9 : w3.cell? ⟨w2.heap.size, 9, none⟩ = some (.slice none 0 0) := by rw [Lib.cell_of_heap hk]; rfl
    have c10 : w3.cell? ⟨w2.heap.size, 10, none⟩ = some (.slice none 0 0) := by rw [Lib.cell_of_heap hk]; rfl
    have c11 : w3.cell? ⟨w2.heap.size, 11, none⟩ = some (.slice none 0 0) := by rw [Lib.cell_of_heap hk]; rfl
    have c12 : w3.cell? ⟨w2.heap.size, 12, none⟩ = some (.int .i64 0) := by rw [Lib.cell_of_heap hk]; rfl
    have c13 : w3.cell? ⟨w2.heap.size, 13, none⟩ = some (.int .i64 0) := by rw [Lib.cell_of_heap hk]; rfl
    have c14 : w3.cell? ⟨w2.heap.size, 14, none⟩ = some (.int .i64 0) := by rw [Lib.cell_of_heap hk]; rfl
    have c15 : w3.cell? ⟨w2.heap.size, 15, none⟩ = some (.string ⟨#[]⟩) := by rw [Lib.cell_of_heap hk]; rfl
    have c16 : w3.cell? ⟨w2.heap.size, 16, none⟩ = some (.slice none 0 0) := by rw [Lib.cell_of_heap hk]; rfl
    clear hk
    rw [hw3] at c0 c1 c2 c3 c4 c5 c6 c7 c8 c9 c10 c11 c12 c13 c14 c15 c16
    go_wp2_with fail
    rw [← hw3]
    clear hw3 c0 c1 c2 c3 c4 c5 c6 c7 c8 c9 c10 c11 c12 c13 c14 c15 c16
    have D3 : Hid (Below w1.heap.size w1 w3) := bT B2.out B3.out
    refine (HX.out _ (bT B1.out D3.out)).mono ?_
    as_aux_lemma =>
      rintro e w4 ⟨rfl, hb⟩
      have D4 : Hid (Below w1.heap.size w1 w4) := bT D3.out hb
      have Bw4 : Hid (Below w.heap.size w w4) := bT B1.out D4.out
      have N4 : Hid (w4.heap[w2.heap.size]? = some (.cells mR 45 (0, 0))) := K3.out _ hb
      have Z4 : Hid (w4.heap[w.heap.size]? = some (.cells mZ 45 (0, 0))) := K1.out _ D4.out
      clear hb HX K1 K3 B1 B2 B3 D3 D4
      have hk0 := N4.out
      have c0 : w4.cell? ⟨w2.heap.size, 0, none⟩ = some (.int .i64 14) := by rw [Lib.cell_of_heap hk0]; rfl
      have c1 : w4.cell? ⟨w2.heap.size, 1, none⟩ = some (.int .i64 3) := by rw [Lib.cell_of_heap hk0]; rfl
      have c2 : w4.cell? ⟨w2.heap.size, 2, none⟩ = some (.int .i64 0) := by rw [Lib.cell_of_heap hk0]; rfl
      have c3 : w4.cell? ⟨w2.heap.size, 3, none⟩ = some (.int .i64 0) := by rw [Lib.cell_of_heap hk0]; rfl
      have c4 : w4.cell? ⟨w2.heap.size, 4, none⟩ = some (.int .i64 0) := by rw [Lib.cell_of_heap hk0]; rfl
      have c5 : w4.cell? ⟨w2.heap.size, 5, none⟩ = some (.int .i64 0) := by rw [Lib.cell_of_heap hk0]; rfl
      have c6 : w4.cell? ⟨w2.heap.size, 6, none⟩ = some (.string ⟨#[]⟩) := by rw [Lib.cell_of_heap hk0]; rfl
      have c7 : w4.cell? ⟨w2.heap.size, 7, none⟩ = some (.string ⟨#[]⟩) := by rw [Lib.cell_of_heap hk0]; rfl
      have c8 : w4.cell? ⟨w2.heap.size, 8, none⟩ = some (.int .i64 0) := by rw [Lib.cell_of_heap hk0]; rfl
      have c9 : w4.cell? ⟨w2.heap.size, 9, none⟩ = some (.slice none 0 0) := by rw [Lib.cell_of_heap hk0]; rfl
      have c10 : w4.cell? ⟨w2.heap.size, 10, none⟩ = some (.slice none 0 0) := by rw [Lib.cell_of_heap hk0]; rfl
      have c11 : w4.cell? ⟨w2.heap.size, 11, none⟩ = some (.slice none 0 0) := by rw [Lib.cell_of_heap hk0]; rfl
      have c12 : w4.cell? ⟨w2.heap.size, 12, none⟩ = some (.int .i64 0) := by rw [Lib.cell_of_heap hk0]; rfl
      have c13 : w4.cell? ⟨w2.heap.size, 13, none⟩ = some (.int .i64 0) := by rw [Lib.cell_of_heap hk0]; rfl
      have c14 : w4.cell? ⟨w2.heap.size, 14, none⟩ = some (.int .i64 0) := by rw [Lib.cell_of_heap hk0]; rfl
      have c15 : w4.cell? ⟨w2.heap.size, 15, none⟩ = some (.string ⟨#[]⟩) := by rw [Lib.cell_of_heap hk0]; rfl
      have c16 : w4.cell? ⟨w2.heap.size, 16, none⟩ = some (.slice none 0 0) := by rw [Lib.cell_of_heap hk0]; rfl
      clear hk0
      have m0 : w4.cell? ⟨w.heap.size, 0, none⟩ = some (.int .i64 0) := by rw [Lib.cell_of_heap Z4.out]; rfl
      have m1 : w4.cell? ⟨w.heap.size, 1, none⟩ = some (.int .i64 0) := by rw [Lib.cell_of_heap Z4.out]; rfl
      have m2 : w4.cell? ⟨w.heap.size, 2, none⟩ = some (.int .i64 0) := by rw [Lib.cell_of_heap Z4.out]; rfl
      have m3 : w4.cell? ⟨w.heap.size, 3, none⟩ = some (.int .i64 0) := by rw [Lib.cell_of_heap Z4.out]; rfl
      have m4 : w4.cell? ⟨w.heap.size, 4, none⟩ = some (.int .i64 0) := by rw [Lib.cell_of_heap Z4.out]; rfl
      have m5 : w4.cell? ⟨w.heap.size, 5, none⟩ = some (.int .i64 0) := by rw [Lib.cell_of_heap Z4.out]; rfl
      have m6 : w4.cell? ⟨w.heap.size, 6, none⟩ = some (.string ⟨#[]⟩) := by rw [Lib.cell_of_heap Z4.out]; rfl
      have m7 : w4.cell? ⟨w.heap.size, 7, none⟩ = some (.string ⟨#[]⟩) := by rw [Lib.cell_of_heap Z4.out]; rfl
      have m8 : w4.cell? ⟨w.heap.size, 8, none⟩ = some (.int .i64 0) := by rw [Lib.cell_of_heap Z4.out]; rfl
      have m9 : w4.cell? ⟨w.heap.size, 9, none⟩ = some (.slice none 0 0) := by rw [Lib.cell_of_heap Z4.out]; rfl
      have m10 : w4.cell? ⟨w.heap.size, 10, none⟩ = some (.slice none 0 0) := by rw [Lib.cell_of_heap Z4.out]; rfl
      have m11 : w4.cell? ⟨w.heap.size, 11, none⟩ = some (.slice none 0 0) := by rw [Lib.cell_of_heap Z4.out]; rfl
      have m12 : w4.cell? ⟨w.heap.size, 12, none⟩ = some (.int .i64 0) := by rw [Lib.cell_of_heap Z4.out]; rfl
      have m13 : w4.cell? ⟨w.heap.size, 13, none⟩ = some (.int .i64 0) := by rw [Lib.cell_of_heap Z4.out]; rfl
      have m14 : w4.cell? ⟨w.heap.size, 14, none⟩ = some (.int .i64 0) := by rw [Lib.cell_of_heap Z4.out]; rfl
      have m15 : w4.cell? ⟨w.heap.size, 15, none⟩ = some (.string ⟨#[]⟩) := by rw [Lib.cell_of_heap Z4.out]; rfl
      have m16 : w4.cell? ⟨w.heap.size, 16, none⟩ = some (.slice none 0 0) := by rw [Lib.cell_of_heap Z4.out]; rfl
      have Bz : Hid (Below w.heap.size w (w4.setRow w.heap.size mR)) := below_setRow Bw4.out (Nat.le_refl _) _
      have HZ : Hid ((w4.setRow w.heap.size mR).heap[w.heap.size]? = some (.cells mR 45 (0, 0))) := setRow_heap _ _ _ _ _ _ Z4.out
      go_wp2_with (refine wpList_store_row rfl 45 (.tmp 2) (.tmp 24) rfl w.heap.size mR rfl rfl 45 mZ Z4.out (by kernel_rfl) rfl (by kernel_rfl) ?_)
      clear m0 m1 m2 m3 m4 m5 m6 m7 m8 m9 m10 m11 m12 m13 m14 m15 m16
      generalize w4.setRow w.heap.size mR = wz at *
      have hk := HZ.out
      have d0 : wz.cell? ⟨w.heap.size, 0, none⟩ = some (.int .i64 14) := by rw [Lib.cell_of_heap hk]; rfl
      have d1 : wz.cell? ⟨w.heap.size, 1, none⟩ = some (.int .i64 3) := by rw [Lib.cell_of_heap hk]; rfl
      have d2 : wz.cell? ⟨w.heap.size, 2, none⟩ = some (.int .i64 0) := by rw [Lib.cell_of_heap hk]; rfl
      have d3 : wz.cell? ⟨w.heap.size, 3, none⟩ = some (.int .i64 0) := by rw [Lib.cell_of_heap hk]; rfl
      have d4 : wz.cell? ⟨w.heap.size, 4, none⟩ = some (.int .i64 0) := by rw [Lib.cell_of_heap hk]; rfl
      have d5 : wz.cell? ⟨w.heap.size, 5, none⟩ = some (.int .i64 0) := by rw [Lib.cell_of_heap hk]; rfl
      have d6 : wz.cell? ⟨w.heap.size, 6, none⟩ = some (.string ⟨#[]⟩) := by rw [Lib.cell_of_heap hk]; rfl
      have d7 : wz.cell? ⟨w.heap.size, 7, none⟩ = some (.string ⟨#[]⟩) := by rw [Lib.cell_of_heap hk]; rfl
      have d8 : wz.cell? ⟨w.heap.size, 8, none⟩ = some (.int .i64 0) := by rw [Lib.cell_of_heap hk]; rfl
      have d9 : wz.cell? ⟨w.heap.size, 9, none⟩ = some (.slice none 0 0) := by rw [Lib.cell_of_heap hk]; rfl
      have d10 : wz.cell? ⟨w.heap.size, 10, none⟩ = some (.slice none 0 0) := by rw [Lib.cell_of_heap hk]; rfl
      have d11 : wz.cell? ⟨w.heap.size, 11, none⟩ = some (.slice none 0 0) := by rw [Lib.cell_of_heap hk]; rfl
      have d12 : wz.cell? ⟨w.heap.size, 12, none⟩ = some (.int .i64 0) := by rw [Lib.cell_of_heap hk]; rfl
      have d13 : wz.cell? ⟨w.heap.size, 13, none⟩ = some (.int .i64 0) := by rw [Lib.cell_of_heap hk]; rfl
      have d14 : wz.cell? ⟨w.heap.size, 14, none⟩ = some (.int .i64 0) := by rw [Lib.cell_of_heap hk]; rfl
      have d15 : wz.cell? ⟨w.heap.size, 15, none⟩ = some (.string ⟨#[]⟩) := by rw [Lib.cell_of_heap hk]; rfl
      have d16 : wz.cell? ⟨w.heap.size, 16, none⟩ = some (.slice none 0 0) := by rw [Lib.cell_of_heap hk]; rfl
      clear hk
      try simp only [Exit.inBlock, Exit.then]
      refine bodyPost_ret (v := .tuple #[.agg mR, .int .i64 0]) ?_ rfl ⟨rfl, Bz.out⟩
      rw [results_ct rfl]; go_simp

end Go.Proofs.YtoplpohpodkpdaaGreatDoor
/- wire.Read at the bytes of the examples; awake: walks. -/
namespace Go.Proofs.YtoplpohpodkpdaaGreatDoor
open Go.RowKit

set_option maxRecDepth 100000 in
set_option maxHeartbeats 8000000 in
theorem awake11_any (w : World) (h : PO w) (hT : Q.Tab w) : Calls Tryz.prog 4 #[] w fun e w' => e = .returned (.bool true) ∧ Below w.heap.size w w' := by
  have HR := ReadR w h hT
  have HX : Hid (∀ W, Below w.heap.size w W → Calls Tryz.prog 12 #[.agg mG] W fun e w' => e = .returned (.string ⟨#[12, 1, 2, 1, 7, 1, 97]⟩) ∧ Below W.heap.size W w') := fun W hb => textG W (h.below hb) (hT.below hb hT.size)
  clear h hT
  go_enter Tryz.func4, Tryz.ntmps4
  go_wp2_with fail
  refine HR.mono ?_
  as_aux_lemma =>
    rintro e w2 ⟨rfl, hb⟩
    have B2 : Hid (Below w.heap.size w w2) := hb
    clear hb HR
    obtain ⟨w3, hw3⟩ : ∃ w3, w3 = w2.alloc (.cells (mR) 45) := ⟨_, rfl⟩
    have B3 : Hid (Below w2.heap.size w2 w3) := by show Below _ _ _; rw [hw3]; exact al_f _ _
    have hk3 : w3.heap[w2.heap.size]? = some (.cells (mR) 45 (0, 0)) := by rw [hw3]; exact nw_at _ _
    have K3 : Hid (∀ W, Below w3.heap.size w3 W → W.heap[w2.heap.size]? = some (.cells (mR) 45 (0, 0))) := fun W hb => (hb.block _ (Array.getElem?_eq_some_iff.1 hk3).1).trans hk3
    clear hk3
    have hk := K3.out w3 (Below.refl _ _)
    have c0 : w3.cell? ⟨w2.heap.size, 0, none⟩ = some (.int .i64 14) := by rw [Lib.cell_of_heap hk]; rfl
    have c1 : w3.cell? ⟨w2.heap.size, 1, none⟩ = some (.int .i64 3) := by rw [Lib.cell_of_heap hk]; rfl
    clear hk
    rw [hw3] at c0 c1
    go_wp2_with fail
    rw [← hw3]
    clear hw3 c0 c1
    refine (HX.out _ (bT B2.out B3.out)).mono ?_
    as_aux_lemma =>
      rintro e w4 ⟨rfl, hb⟩
      have B4 : Hid (Below w.heap.size w w4) := bT (bT B2.out B3.out) hb
      clear hb HX K3 B2 B3
      go_wp2
      go_ret
      exact ⟨by first | rfl | simp, B4.out⟩
end Go.Proofs.YtoplpohpodkpdaaGreatDoor
