/- Forests joined: plainly; cmp.Compare of ints, cmp.Or of three, forest.Order, earlier: walks. -/
import Derived.Test.YtlndgepoekllkaaGreatDoorZk8
import Derived.Test.YtlndgepoekllkaaGreatDoorZk12
namespace Go.Proofs.YtlndgepoekllkaaGreatDoor
open Go.RowKit Go.ChangeMaps

def ordI (a b : Int) : Int := if a < b then -1 else if b < a then 1 else 0
def or3 (a b c : Int) : Int := if a = 0 then (if b = 0 then c else b) else a
/-- How the makers of two types stand. -/
def ordY (x y : Ty) : Int := or3 (ordI x.nd y.nd) (ordI x.lf y.lf) (ordI x.sq y.sq)
theorem nanJ (x : Int) (w : World) : Calls Tryz.prog 89 #[.int .i64 x] w fun e w' => e = .returned (.bool false) ∧ w' = w := by
  go_enter Tryz.func89, Tryz.ntmps89
  go_wp2
  go_ret
  exact ⟨by simp, rfl⟩
set_option maxHeartbeats 1000000 in
theorem compI (a b : Int) (w : World) :
    Calls Tryz.prog 68 #[.int .i64 a, .int .i64 b] w fun e w' => e = .returned (.int .i64 (ordI a b)) ∧ w' = w := by
  by_cases h1 : a < b
  · have e : ordI a b = -1 := if_pos h1
    rw [e]
    go_enter Tryz.func68, Tryz.ntmps68
    go_wp2_with (go_at_call 89; refine (nanJ _ _).mono ?_; rintro e w' ⟨rfl, rfl⟩)
    go_ret
    exact ⟨rfl, rfl⟩
  · by_cases h2 : b < a
    · have e : ordI a b = 1 := by rw [ordI, if_neg h1, if_pos h2]
      rw [e]
      go_enter Tryz.func68, Tryz.ntmps68
      go_wp2_with (go_at_call 89; refine (nanJ _ _).mono ?_; rintro e w' ⟨rfl, rfl⟩)
      go_ret
      exact ⟨rfl, rfl⟩
    · have e : ordI a b = 0 := by rw [ordI, if_neg h1, if_neg h2]
      rw [e]
      go_enter Tryz.func68, Tryz.ntmps68
      go_wp2_with (go_at_call 89; refine (nanJ _ _).mono ?_; rintro e w' ⟨rfl, rfl⟩)
      go_ret
      exact ⟨rfl, rfl⟩
set_option maxRecDepth 100000 in
set_option maxHeartbeats 1000000 in
theorem or3_any (g : Nat) (a b c : Int) (w : World) (h0 : w.cell? ⟨g, 0, none⟩ = some (.int .i64 a)) (h1 : w.cell? ⟨g, 1, none⟩ = some (.int .i64 b)) (h2 : w.cell? ⟨g, 2, none⟩ = some (.int .i64 c)) :
    Calls Tryz.prog 67 #[.slice (some ⟨g, 0, none⟩) 3 3] w fun e w' => e = .returned (.int .i64 (or3 a b c)) ∧ w' = w := by
  have HD : Hid (or3 a b c = if a = 0 then (if b = 0 then c else b) else a) := rfl
  generalize or3 a b c = R at *
  go_enter Tryz.func67, Tryz.ntmps67
  go_wp2_with fail
  go_loopw [2, 5, 8] (fun r _ i wr => r = .int .i64 0 ∧ ∃ k : Nat, k ≤ 3 ∧ i = .int .i64 (k : Int) ∧ Hid ((0 < k → a = 0) ∧ (1 < k → b = 0) ∧ (2 < k → c = 0)) ∧ w = wr) (fun _ _ i _ => 3 - (intOf i).toNat)
  case atStart => exact ⟨rfl, 0, by omega, rfl, ⟨fun h => absurd h (by omega), fun h => absurd h (by omega), fun h => absurd h (by omega)⟩, rfl⟩
  case round =>
    obtain ⟨rfl, k, hk, rfl, HO, rfl⟩ := hrel
    obtain rfl | rfl | rfl | rfl : k = 0 ∨ k = 1 ∨ k = 2 ∨ k = 3 := by omega
    · by_cases ha : a = 0
      · rw [ha] at h0
        have HO2 : Hid ((0 < 1 → a = 0) ∧ (1 < 1 → b = 0) ∧ (2 < 1 → c = 0)) := ⟨fun _ => ha, fun h => absurd h (by omega), fun h => absurd h (by omega)⟩
        clear ha
        go_wp2
        go_roundw
        case rel => exact ⟨rfl, 1, by omega, by simp, HO2, trivial⟩
        case measure => simp [intOf]
      · have HR : Hid (R = a) := by show R = a; rw [HD.out, if_neg ha]
        have d0 : (a == 0) = false := by simp [ha]
        have d1 : (a != 0) = true := by simp [ha]
        clear HD ha
        go_wp2
        go_ret
        exact ⟨by rw [HR.out]; rfl, rfl⟩
    · have ha := HO.out.1 (by omega)
      by_cases hb : b = 0
      · rw [hb] at h1
        have HO2 : Hid ((0 < 2 → a = 0) ∧ (1 < 2 → b = 0) ∧ (2 < 2 → c = 0)) := ⟨fun _ => ha, fun _ => hb, fun h => absurd h (by omega)⟩
        clear ha hb
        go_wp2
        go_roundw
        case rel => exact ⟨rfl, 2, by omega, by simp, HO2, trivial⟩
        case measure => simp [intOf]
      · have HR : Hid (R = b) := by show R = b; rw [HD.out, if_pos ha, if_neg hb]
        have d0 : (b == 0) = false := by simp [hb]
        have d1 : (b != 0) = true := by simp [hb]
        clear HD hb ha
        go_wp2
        go_ret
        exact ⟨by rw [HR.out]; rfl, rfl⟩
    · have ha := HO.out.1 (by omega)
      have hb := HO.out.2.1 (by omega)
      by_cases hc : c = 0
      · rw [hc] at h2
        have HO2 : Hid ((0 < 3 → a = 0) ∧ (1 < 3 → b = 0) ∧ (2 < 3 → c = 0)) := ⟨fun _ => ha, fun _ => hb, fun _ => hc⟩
        clear ha hb hc
        go_wp2
        go_roundw
        case rel => exact ⟨rfl, 3, by omega, by simp, HO2, trivial⟩
        case measure => simp [intOf]
      · have HR : Hid (R = c) := by show R = c; rw [HD.out, if_pos ha, if_pos hb]
        have d0 : (c == 0) = false := by simp [hc]
        have d1 : (c != 0) = true := by simp [hc]
        clear HD hb ha hc
        go_wp2
        go_ret
        exact ⟨by rw [HR.out]; rfl, rfl⟩
    · have HR : Hid (R = 0) := by show R = 0; rw [HD.out, if_pos (HO.out.1 (by omega)), if_pos (HO.out.2.1 (by omega))]; exact HO.out.2.2 (by omega)
      clear HD HO
      go_wp2
      go_ret
      exact ⟨by rw [HR.out]; rfl, rfl⟩
/-- The two identities' cells. -/
def TwI (g : Nat) (a b c a' b' c' : Int) (w : World) : Prop := (w.cell? ⟨g, 0, none⟩ = some (.int .i64 a) ∧ w.cell? ⟨g, 1, none⟩ = some (.int .i64 b) ∧ w.cell? ⟨g, 2, none⟩ = some (.int .i64 c)) ∧ w.cell? ⟨g + 1, 0, none⟩ = some (.int .i64 a') ∧ w.cell? ⟨g + 1, 1, none⟩ = some (.int .i64 b') ∧ w.cell? ⟨g + 1, 2, none⟩ = some (.int .i64 c')
set_option maxRecDepth 100000 in
set_option maxHeartbeats 2000000 in
theorem order_any (a b c a' b' c' : Int) (w : World) : Calls Tryz.prog 38 #[idV a b c, idV a' b' c'] w fun e w' => e = .returned (.int .i64 (or3 (ordI a a') (ordI b b') (ordI c c'))) ∧ Below w.heap.size w w' := by
  obtain ⟨W0, hW0⟩ : ∃ W0, W0 = (w.alloc (.cells #[.int .i64 a, .int .i64 b, .int .i64 c] 33)).alloc (.cells #[.int .i64 a', .int .i64 b', .int .i64 c'] 33) := ⟨_, rfl⟩
  have hA : Below w.heap.size w W0 := by rw [hW0]; exact (al_b w _).trans ((al_b _ _).mono (by simp))
  have hz : W0.heap.size = w.heap.size + 2 := by rw [hW0]; simp
  have hn0 : W0.heap[w.heap.size]? = some (.cells #[.int .i64 a, .int .i64 b, .int .i64 c] 33 (0, 0)) := by
    rw [hW0]
    show ((w.heap.push _).push _)[w.heap.size]? = _
    rw [Array.getElem?_push, if_neg (by simp), Array.getElem?_push, if_pos rfl]
  have hn1 : W0.heap[w.heap.size + 1]? = some (.cells #[.int .i64 a', .int .i64 b', .int .i64 c'] 33 (0, 0)) := by
    rw [hW0]
    show ((w.heap.push _).push _)[w.heap.size + 1]? = _
    rw [Array.getElem?_push, if_pos (by simp)]
  have HX : Hid (∀ W, Below W0.heap.size W0 W → TwI w.heap.size a b c a' b' c' W) := fun W h => by
    have e : ∀ j, W.cell? ⟨w.heap.size, j, none⟩ = (#[.int .i64 a, .int .i64 b, .int .i64 c] : Array Value)[j]? := fun j => by rw [Lib.cell_of_heap ((h.block _ (by omega)).trans hn0)]
    have e2 : ∀ j, W.cell? ⟨w.heap.size + 1, j, none⟩ = (#[.int .i64 a', .int .i64 b', .int .i64 c'] : Array Value)[j]? := fun j => by rw [Lib.cell_of_heap ((h.block _ (by omega)).trans hn1)]
    exact ⟨⟨e 0, e 1, e 2⟩, e2 0, e2 1, e2 2⟩
  have HBw : Hid (∀ W, Below W0.heap.size W0 W → Below w.heap.size w W) := fun W h => hA.trans (h.mono hA.size)
  have HC : Hid (∀ (x y : Int) (w : World), Calls Tryz.prog 68 #[.int .i64 x, .int .i64 y] w fun e w' => e = .returned (.int .i64 (ordI x y)) ∧ w' = w) := fun x y w => compI x y w
  have HO : Hid (∀ (x y z : Int) (W : World), Calls Tryz.prog 67 #[.slice (some ⟨W.heap.size, 0, none⟩) 3 3] (W.alloc (.cells #[.int .i64 x, .int .i64 y, .int .i64 z] 3)) fun e w' => e = .returned (.int .i64 (or3 x y z)) ∧ w' = W.alloc (.cells #[.int .i64 x, .int .i64 y, .int .i64 z] 3)) := fun x y z W => by
    have hn := new_at W (.cells #[.int .i64 x, .int .i64 y, .int .i64 z] 3)
    exact or3_any _ x y z _ (by rw [Lib.cell_of_heap hn]; rfl) (by rw [Lib.cell_of_heap hn]; rfl) (by rw [Lib.cell_of_heap hn]; rfl)
  have HR1 : Hid (Below W0.heap.size W0 W0.drew) := (Below.refl _ _).drew
  have HAl : Hid (∀ W o, Below W0.heap.size W0 W → Below W0.heap.size W0 (W.alloc o)) := fun W o h => h.trans ((al_b _ o).mono h.size)
  clear hA hn0 hn1
  go_enter Tryz.func38, Tryz.ntmps38
  go_wp2_with fail
  rw [← hW0]
  clear hW0
  refine wp_region_held_drew (S := fun w' => TwI w.heap.size a b c a' b' c' w') (by kernel_rfl) (HX.out _ HR1.out) (fun hHeld => ?_)
  generalize W0.drew = wd at *
  refine wpAnyH_take (i := 0) (v := ?_) rfl (by kernel_rfl) (by kernel_rfl) (by kernel_rfl) (fun _ _ _ h => h) (Or.inl ⟨by rfl, ?_⟩) hHeld ?_
  rotate_left 1
  · intro w9 hSw; obtain ⟨⟨g0, g1, g2⟩, k0, k1, k2⟩ := hSw; go_simp; try with_reducible rfl
  change wpAnyH _ _ _ _ _ _ _ (Act.put _ (some 5) _) _
  simp only [Act.put, List.setIfInBounds_toArray, List.set_cons_zero, List.set_cons_succ]
  refine wpAnyH_take (i := 1) (v := ?_) rfl (by kernel_rfl) (by kernel_rfl) (by kernel_rfl) (fun _ _ _ h => h) (Or.inl ⟨by rfl, ?_⟩) hHeld ?_
  rotate_left 1
  · intro w9 hSw; obtain ⟨⟨g0, g1, g2⟩, k0, k1, k2⟩ := hSw; go_simp; try with_reducible rfl
  change wpAnyH _ _ _ _ _ _ _ (Act.put _ (some 6) _) _
  simp only [Act.put, List.setIfInBounds_toArray, List.set_cons_zero, List.set_cons_succ]
  refine wpAnyH_take (i := 2) (v := ?_) rfl (by kernel_rfl) (by kernel_rfl) (by kernel_rfl) (fun _ _ _ h => h) (Or.inl ⟨by rfl, ?_⟩) hHeld ?_
  rotate_left 1
  · intro w9 hSw; obtain ⟨⟨g0, g1, g2⟩, k0, k1, k2⟩ := hSw; go_simp; try with_reducible rfl
  change wpAnyH _ _ _ _ _ _ _ (Act.put _ (some 7) _) _
  simp only [Act.put, List.setIfInBounds_toArray, List.set_cons_zero, List.set_cons_succ]
  refine wpAnyH_take (i := 3) (v := ?_) rfl (by kernel_rfl) (by kernel_rfl) (by kernel_rfl) (fun _ _ _ h => h) (Or.inl ⟨by rfl, ?_⟩) hHeld ?_
  rotate_left 1
  · intro w9 hSw; obtain ⟨⟨g0, g1, g2⟩, k0, k1, k2⟩ := hSw; go_simp; try with_reducible rfl
  change wpAnyH _ _ _ _ _ _ _ (Act.put _ (some 8) _) _
  simp only [Act.put, List.setIfInBounds_toArray, List.set_cons_zero, List.set_cons_succ]
  refine wpAnyH_take (i := 5) (v := ?_) rfl (by kernel_rfl) (by kernel_rfl) (by kernel_rfl) (fun _ _ _ h => h) (Or.inl ⟨by rfl, ?_⟩) hHeld ?_
  rotate_left 1
  · intro w9 hSw; obtain ⟨⟨g0, g1, g2⟩, k0, k1, k2⟩ := hSw; go_simp; try with_reducible rfl
  change wpAnyH _ _ _ _ _ _ _ (Act.put _ (some 10) _) _
  simp only [Act.put, List.setIfInBounds_toArray, List.set_cons_zero, List.set_cons_succ]
  refine wpAnyH_take (i := 6) (v := ?_) rfl (by kernel_rfl) (by kernel_rfl) (by kernel_rfl) (fun _ _ _ h => h) (Or.inl ⟨by rfl, ?_⟩) hHeld ?_
  rotate_left 1
  · intro w9 hSw; obtain ⟨⟨g0, g1, g2⟩, k0, k1, k2⟩ := hSw; go_simp; try with_reducible rfl
  change wpAnyH _ _ _ _ _ _ _ (Act.put _ (some 11) _) _
  simp only [Act.put, List.setIfInBounds_toArray, List.set_cons_zero, List.set_cons_succ]
  refine wpAnyH_take (i := 7) (v := ?_) rfl (by kernel_rfl) (by kernel_rfl) (by kernel_rfl) (fun _ _ _ h => h) (Or.inl ⟨by rfl, ?_⟩) hHeld ?_
  rotate_left 1
  · intro w9 hSw; obtain ⟨⟨g0, g1, g2⟩, k0, k1, k2⟩ := hSw; go_simp; try with_reducible rfl
  change wpAnyH _ _ _ _ _ _ _ (Act.put _ (some 12) _) _
  simp only [Act.put, List.setIfInBounds_toArray, List.set_cons_zero, List.set_cons_succ]
  refine wpAnyH_take (i := 8) (v := ?_) rfl (by kernel_rfl) (by kernel_rfl) (by kernel_rfl) (fun _ _ _ h => h) (Or.inl ⟨by rfl, ?_⟩) hHeld ?_
  rotate_left 1
  · intro w9 hSw; obtain ⟨⟨g0, g1, g2⟩, k0, k1, k2⟩ := hSw; go_simp; try with_reducible rfl
  change wpAnyH _ _ _ _ _ _ _ (Act.put _ (some 13) _) _
  simp only [Act.put, List.setIfInBounds_toArray, List.set_cons_zero, List.set_cons_succ]
  refine wpAnyH_take (i := 10) (v := ?_) rfl (by kernel_rfl) (by kernel_rfl) (by kernel_rfl) (fun _ _ _ h => h) (Or.inl ⟨by rfl, ?_⟩) hHeld ?_
  rotate_left 1
  · intro w9 hSw; obtain ⟨⟨g0, g1, g2⟩, k0, k1, k2⟩ := hSw; go_simp; try with_reducible rfl
  change wpAnyH _ _ _ _ _ _ _ (Act.put _ (some 15) _) _
  simp only [Act.put, List.setIfInBounds_toArray, List.set_cons_zero, List.set_cons_succ]
  refine wpAnyH_take (i := 11) (v := ?_) rfl (by kernel_rfl) (by kernel_rfl) (by kernel_rfl) (fun _ _ _ h => h) (Or.inl ⟨by rfl, ?_⟩) hHeld ?_
  rotate_left 1
  · intro w9 hSw; obtain ⟨⟨g0, g1, g2⟩, k0, k1, k2⟩ := hSw; go_simp; try with_reducible rfl
  change wpAnyH _ _ _ _ _ _ _ (Act.put _ (some 16) _) _
  simp only [Act.put, List.setIfInBounds_toArray, List.set_cons_zero, List.set_cons_succ]
  refine wpAnyH_take (i := 12) (v := ?_) rfl (by kernel_rfl) (by kernel_rfl) (by kernel_rfl) (fun _ _ _ h => h) (Or.inl ⟨by rfl, ?_⟩) hHeld ?_
  rotate_left 1
  · intro w9 hSw; obtain ⟨⟨g0, g1, g2⟩, k0, k1, k2⟩ := hSw; go_simp; try with_reducible rfl
  change wpAnyH _ _ _ _ _ _ _ (Act.put _ (some 17) _) _
  simp only [Act.put, List.setIfInBounds_toArray, List.set_cons_zero, List.set_cons_succ]
  refine wpAnyH_take (i := 13) (v := ?_) rfl (by kernel_rfl) (by kernel_rfl) (by kernel_rfl) (fun _ _ _ h => h) (Or.inl ⟨by rfl, ?_⟩) hHeld ?_
  rotate_left 1
  · intro w9 hSw; obtain ⟨⟨g0, g1, g2⟩, k0, k1, k2⟩ := hSw; go_simp; try with_reducible rfl
  change wpAnyH _ _ _ _ _ _ _ (Act.put _ (some 18) _) _
  simp only [Act.put, List.setIfInBounds_toArray, List.set_cons_zero, List.set_cons_succ]
  refine wpAnyH_ready (rs := [4]) (by kernel_rfl) (by simp) ?_
  refine AllReadyH.cons rfl (fun K hK => ?_) AllReadyH.nil
  go_simp
  refine (HC.out _ _ _).mono ?_
  rintro e v4 ⟨rfl, rfl⟩
  go_simp
  refine hK.out _ _ (HX.out _ HR1.out) (fun hHeld => ?_)
  clear hK K
  refine wpAnyH_ready (rs := [9]) (by kernel_rfl) (by simp) ?_
  refine AllReadyH.cons rfl (fun K hK => ?_) AllReadyH.nil
  go_simp
  refine (HC.out _ _ _).mono ?_
  rintro e v4 ⟨rfl, rfl⟩
  go_simp
  refine hK.out _ _ (HX.out _ HR1.out) (fun hHeld => ?_)
  clear hK K
  refine wpAnyH_ready (rs := [14]) (by kernel_rfl) (by simp) ?_
  refine AllReadyH.cons rfl (fun K hK => ?_) AllReadyH.nil
  go_simp
  refine (HC.out _ _ _).mono ?_
  rintro e v4 ⟨rfl, rfl⟩
  go_simp
  refine hK.out _ _ (HX.out _ HR1.out) (fun hHeld => ?_)
  clear hK K
  refine wpAnyH_ready (rs := [15]) (by kernel_rfl) (by simp) ?_
  refine AllReadyH.cons rfl (fun K hK => ?_) AllReadyH.nil
  go_simp
  refine hK.out _ _ (HX.out _ (HAl.out _ _ HR1.out)) (fun hHeld => ?_)
  clear hK K
  refine wpAnyH_ready (rs := [16]) (by kernel_rfl) (by simp) ?_
  refine AllReadyH.cons rfl (fun K hK => ?_) AllReadyH.nil
  go_simp
  refine (HO.out _ _ _ _).mono ?_
  rintro e v4 ⟨rfl, rfl⟩
  go_simp
  refine hK.out _ _ (HX.out _ (HAl.out _ _ HR1.out)) (fun hHeld => ?_)
  clear hK K
  refine wpAnyH_take (i := 17) (v := ?_) rfl (by kernel_rfl) (by kernel_rfl) (by kernel_rfl) (fun _ _ _ h => h) (Or.inl ⟨by rfl, ?_⟩) hHeld ?_
  rotate_left 1
  · intro w9 hSw; obtain ⟨⟨g0, g1, g2⟩, k0, k1, k2⟩ := hSw; go_simp; try with_reducible rfl
  change wpAnyH _ _ _ _ _ _ _ (Act.put _ (some 4) _) _
  simp only [Act.put, List.setIfInBounds_toArray, List.set_cons_zero, List.set_cons_succ]
  refine wpAnyH_done (by kernel_rfl) ?_ _
  go_wp2
  go_ret
  exact ⟨rfl, HBw.out _ (HAl.out _ _ HR1.out)⟩
end Go.Proofs.YtlndgepoekllkaaGreatDoor
/- store's Put of a type that is kept: its walk. -/
namespace Go.Proofs.YtlndgepoekllkaaGreatDoor
open Go.RowKit Go.ChangeMaps

abbrev st8 (W : World) (g : Nat) (u0 u1 u2 u3 u4 u5 u6 u7 : Value) : World := ((((((((W.setCell ⟨g, 0, none⟩ u0).setCell ⟨g, 1, none⟩ u1).setCell ⟨g, 2, none⟩ u2).setCell ⟨g, 3, none⟩ u3).setCell ⟨g, 4, none⟩ u4).setCell ⟨g, 5, none⟩ u5).setCell ⟨g, 6, none⟩ u6).setCell ⟨g, 7, none⟩ u7)
theorem st8_other {W : World} {g h : Nat} (hne : h ≠ g) (u0 u1 u2 u3 u4 u5 u6 u7 : Value) : (st8 W g u0 u1 u2 u3 u4 u5 u6 u7).heap[h]? = W.heap[h]? := by
  unfold st8
  rw [Below.heap_setCell _ _ _ _ hne, Below.heap_setCell _ _ _ _ hne, Below.heap_setCell _ _ _ _ hne, Below.heap_setCell _ _ _ _ hne, Below.heap_setCell _ _ _ _ hne, Below.heap_setCell _ _ _ _ hne, Below.heap_setCell _ _ _ _ hne, Below.heap_setCell _ _ _ _ hne]
theorem Stp.set1 {w W : World} {F F' : Nat → Prop} {g : Nat} (h : Stp w F F' W) (hg : w.heap.size ≤ g) (j : Nat) (v : Value) : Stp w F F' (W.setCell ⟨g, j, none⟩ v) := by
  refine ⟨h.os, h.tape, h.output, Nat.le_trans h.size ?_, fun k hk hn => (Below.heap_setCell _ _ _ _ (by show k ≠ g; omega)).trans (h.block k hk hn), h.fp⟩
  show W.heap.size ≤ (W.heap.modify g _).size
  simp
theorem Stp.st8 {w W : World} {F F' : Nat → Prop} {g : Nat} (h : Stp w F F' W) (hg : w.heap.size ≤ g) (u0 u1 u2 u3 u4 u5 u6 u7 : Value) : Stp w F F' (Go.Proofs.YtlndgepoekllkaaGreatDoor.st8 W g u0 u1 u2 u3 u4 u5 u6 u7) :=
  (((((((h.set1 hg 0 u0).set1 hg 1 u1).set1 hg 2 u2).set1 hg 3 u3).set1 hg 4 u4).set1 hg 5 u5).set1 hg 6 u6).set1 hg 7 u7
theorem lkS_mem {E : List (ByteArray × Nat)} {k : ByteArray} {g : Nat} (h : lkS E k = some g) : (k, g) ∈ E := by
  unfold lkS at h
  obtain ⟨p, hp, rfl⟩ := Option.map_eq_some_iff.1 h
  have h1 := List.mem_of_find?_eq_some hp
  have h2 : p.1 = k := by simpa using List.find?_some hp
  rw [← h2]
  exact h1
/-- What Put leaves of a type that is kept. -/
def PuP (base : Nat) (w : World) (s m : Nat) (E : List (ByteArray × Nat)) (X : Nat → Kp) (t : Ty) (e : Ending) (w' : World) : Prop :=
  ∃ g v1 v2 v3, e = .returned (.tuple #[tyV t v1 v2 v3, .int .i64 0]) ∧ StV base w' s m (stS E (fldB t.n) g) (upX X g ⟨t, false, zW⟩) ∧ w.heap.size ≤ g ∧ Stp w (fun k => k = m) (fun k => k = m) w' ∧ OwnTy w.heap.size w' t v1 v2 v3
set_option maxRecDepth 100000 in
set_option maxHeartbeats 4000000 in
theorem put_new {base : Nat} {w : World} {s m : Nat} {E : List (ByteArray × Nat)} {X : Nat → Kp} (h : StV base w s m E X) (hb0 : base ≤ w.heap.size) (t : Ty) (vo va vc : Value) (hr : IsTy w t vo va vc) (h1 : t.own.length ≤ 1000) (h2 : t.all.length ≤ 1000) (h3 : t.ch.length ≤ 1000) (hn : NmT t) (hT : UT w) (hM : ML w) (hc : chkT t = true) (hfree : lkS E (fldB t.n) = none → E.length < 200) (hord : ∀ g0, lkS E (fldB t.n) = some g0 → or3 (ordI t.nd (X g0).t.nd) (ordI t.lf (X g0).t.lf) (ordI t.sq (X g0).t.sq) < 0) :
    Calls Tryz.prog 12 #[stP s, tyV t vo va vc] w fun e w' => PuP base w s m E X t e w' := by
  obtain ⟨ao, co, rfl⟩ := hr.1.form
  obtain ⟨aa, ca, rfl⟩ := hr.2.1.form
  obtain ⟨ac, cc, rfl⟩ := hr.2.2.form
  have HCh : Hid (∀ W, Below w.heap.size w W → Calls Tryz.prog 37 #[(tyV t (.slice ao t.own.length co) (.slice aa t.all.length ca) (.slice ac t.ch.length cc))] W fun e w' => e = .returned (.bool true) ∧ Below W.heap.size W w') := fun W hb => hc ▸ checkT_any t _ _ _ W (hr.below hb) hn (Utf8Tabs_below hT hb) (ML_below hM hb)
  have HFi : Hid (∀ W, Below w.heap.size w W → Calls Tryz.prog 29 #[stP s, .string t.n] W fun e w' => e = .returned (ptS (lkS E (fldB t.n))) ∧ Below W.heap.size W w') := fun W hb => find_any (h.below hb) t.n hn.n (Utf8Tabs_below hT hb)
  have HKe : Hid (∀ W, Below w.heap.size w W → Calls Tryz.prog 39 #[stP s, (tyV t (.slice ao t.own.length co) (.slice aa t.all.length ca) (.slice ac t.ch.length cc))] W fun e w' => KeP base W s m E X t e w') := fun W hb => keep_any (h.below hb) (Nat.le_trans hb0 hb.size) t _ _ _ (hr.below hb) h1 h2 h3 hn.n (Utf8Tabs_below hT hb) hfree
  have HCo : Hid (∀ W, CKp w W → Calls Tryz.prog 30 #[(tyV t (.slice ao t.own.length co) (.slice aa t.all.length ca) (.slice ac t.ch.length cc))] W fun e w' => CpT t W e w') := fun W hb => copyOf_any t _ _ _ W (hb.ty hr) h1 h2 h3
  have HOr : Hid (∀ (a b c a' b' c' : Int) W, Calls Tryz.prog 38 #[idV a b c, idV a' b' c'] W fun e w' => e = .returned (.int .i64 (or3 (ordI a a') (ordI b b') (ordI c c'))) ∧ Below W.heap.size W w') := fun a b c a' b' c' W => order_any a b c a' b' c' W
  have HS : Hid (∀ W, Below w.heap.size w W → StV base W s m E X) := fun W hb => h.below hb
  obtain ⟨ky, hky⟩ : ∃ ky, ky = fldB t.n := ⟨_, rfl⟩
  have HR : Hid (∀ g v1 v2 v3 w', StV base w' s m (stS E ky g) (upX X g ⟨t, false, zW⟩) → w.heap.size ≤ g → Stp w (fun k => k = m) (fun k => k = m) w' → OwnTy w.heap.size w' t v1 v2 v3 → PuP base w s m E X t (.returned (.tuple #[tyV t v1 v2 v3, .int .i64 0])) w') := fun g v1 v2 v3 w' a b c d => ⟨g, v1, v2, v3, rfl, hky ▸ a, b, c, d⟩
  unfold KeP at HKe
  rw [← hky] at HFi HKe hfree hord
  obtain ⟨R, hR⟩ : ∃ R : Ending → World → Prop, R = PuP base w s m E X t := ⟨_, rfl⟩
  show Calls Tryz.prog 12 #[stP s, (tyV t (.slice ao t.own.length co) (.slice aa t.all.length ca) (.slice ac t.ch.length cc))] w fun e w' => PuP base w s m E X t e w'
  rw [← hR] at HR ⊢
  clear hky hR h1 h2 h3 hn hT hM hc hb0 hfree hr
  cases hL : lkS E ky
  case none =>
    rw [hL] at HFi
    have HFi : Hid (∀ W, Below w.heap.size w W → Calls Tryz.prog 29 #[stP s, .string t.n] W fun e w' => e = .returned (.pointer none) ∧ Below W.heap.size W w') := HFi
    clear hL hord h
    obtain ⟨w1, hw1⟩ : ∃ w1, w1 = w.alloc (.cells (tyA t (.slice ao t.own.length co) (.slice aa t.all.length ca) (.slice ac t.ch.length cc)) 35) := ⟨_, rfl⟩
    have B1 : Hid (Below w.heap.size w w1) := by show Below _ _ _; rw [hw1]; exact al_b _ _
    have hn1 : w1.heap[w.heap.size]? = some (.cells (tyA t (.slice ao t.own.length co) (.slice aa t.all.length ca) (.slice ac t.ch.length cc)) 35 (0, 0)) := by rw [hw1]; exact new_at _ _
    have C1 : Hid (∀ W, Below w1.heap.size w1 W → W.heap[w.heap.size]? = some (.cells (tyA t (.slice ao t.own.length co) (.slice aa t.all.length ca) (.slice ac t.ch.length cc)) 35 (0, 0))) := fun W h => (h.block _ (Array.getElem?_eq_some_iff.1 hn1).1).trans hn1
    clear hn1
    obtain ⟨w2, hw2⟩ : ∃ w2, w2 = w1.alloc (.cells zTyA 35) := ⟨_, rfl⟩
    have B2 : Hid (Below w1.heap.size w1 w2) := by show Below _ _ _; rw [hw2]; exact al_b _ _
    have hn2 : w2.heap[(w.heap.size + 1)]? = some (.cells zTyA 35 (0, 0)) := by rw [hw2]; rw [show w.heap.size + 1 = w1.heap.size by (rw [hw1]; simp)]; exact new_at _ _
    have C2 : Hid (∀ W, Below w2.heap.size w2 W → W.heap[(w.heap.size + 1)]? = some (.cells zTyA 35 (0, 0))) := fun W h => (h.block _ (Array.getElem?_eq_some_iff.1 hn2).1).trans hn2
    clear hn2
    have hk := C1.out w2 B2.out
    have c1_0 : w2.cell? ⟨w.heap.size, 0, none⟩ = some (.string t.n) := by rw [Lib.cell_of_heap hk]; rfl
    have c1_1 : w2.cell? ⟨w.heap.size, 1, none⟩ = some (.string t.p) := by rw [Lib.cell_of_heap hk]; rfl
    have c1_2 : w2.cell? ⟨w.heap.size, 2, none⟩ = some (.slice ao t.own.length co) := by rw [Lib.cell_of_heap hk]; rfl
    have c1_3 : w2.cell? ⟨w.heap.size, 3, none⟩ = some (.slice aa t.all.length ca) := by rw [Lib.cell_of_heap hk]; rfl
    have c1_4 : w2.cell? ⟨w.heap.size, 4, none⟩ = some (.slice ac t.ch.length cc) := by rw [Lib.cell_of_heap hk]; rfl
    have c1_5 : w2.cell? ⟨w.heap.size, 5, none⟩ = some (.int .i64 t.nd) := by rw [Lib.cell_of_heap hk]; rfl
    have c1_6 : w2.cell? ⟨w.heap.size, 6, none⟩ = some (.int .i64 t.lf) := by rw [Lib.cell_of_heap hk]; rfl
    have c1_7 : w2.cell? ⟨w.heap.size, 7, none⟩ = some (.int .i64 t.sq) := by rw [Lib.cell_of_heap hk]; rfl
    clear hk
    rw [hw2, hw1] at c1_0 c1_1 c1_2 c1_3 c1_4 c1_5 c1_6 c1_7
    go_enter Tryz.func12, Tryz.ntmps12
    go_wp2_with fail
    rw [← hw1, ← hw2]
    clear hw1 hw2
    clear c1_0 c1_1 c1_2 c1_3 c1_4 c1_5 c1_6 c1_7
    refine (HCh.out _ (bTS B1.out B2.out)).mono ?_
    rintro e w3 ⟨rfl, hb⟩
    have B3 : Hid (Below w2.heap.size w2 w3) := hb
    clear hb 
    have hk := C1.out w3 (bTS B2.out B3.out)
    have c1_0 : w3.cell? ⟨w.heap.size, 0, none⟩ = some (.string t.n) := by rw [Lib.cell_of_heap hk]; rfl
    have c1_1 : w3.cell? ⟨w.heap.size, 1, none⟩ = some (.string t.p) := by rw [Lib.cell_of_heap hk]; rfl
    have c1_2 : w3.cell? ⟨w.heap.size, 2, none⟩ = some (.slice ao t.own.length co) := by rw [Lib.cell_of_heap hk]; rfl
    have c1_3 : w3.cell? ⟨w.heap.size, 3, none⟩ = some (.slice aa t.all.length ca) := by rw [Lib.cell_of_heap hk]; rfl
    have c1_4 : w3.cell? ⟨w.heap.size, 4, none⟩ = some (.slice ac t.ch.length cc) := by rw [Lib.cell_of_heap hk]; rfl
    have c1_5 : w3.cell? ⟨w.heap.size, 5, none⟩ = some (.int .i64 t.nd) := by rw [Lib.cell_of_heap hk]; rfl
    have c1_6 : w3.cell? ⟨w.heap.size, 6, none⟩ = some (.int .i64 t.lf) := by rw [Lib.cell_of_heap hk]; rfl
    have c1_7 : w3.cell? ⟨w.heap.size, 7, none⟩ = some (.int .i64 t.sq) := by rw [Lib.cell_of_heap hk]; rfl
    clear hk
    go_wp2_with fail
    clear c1_0 c1_1 c1_2 c1_3 c1_4 c1_5 c1_6 c1_7
    refine (HFi.out _ (bTS (bTS B1.out B2.out) B3.out)).mono ?_
    rintro e w4 ⟨rfl, hb⟩
    have B4 : Hid (Below w3.heap.size w3 w4) := hb
    clear hb 
    go_wp2_with fail
    refine wp_region_quiet (C := fun w' => Below w4.heap.size w4 w') (by kernel_rfl) (by kernel_rfl) ((Below.refl _ _).drew) ?_
    dsimp only
    repeat (first
      | go_big_quiet_skip
      | (go_big_quiet_want
         apply Exists.intro
         refine ⟨fun W' hW' => ?_, ?_⟩
         · have hw : Below w4.heap.size w4 W' := hW'
           go_simp
           first
             | done
             | rfl
             | (go_at_call 38; (with_reducible refine Calls.mono (HOr.out _ _ _ _ _ _ W') ?_); rintro e w'' ⟨rfl, hb⟩; exact ⟨rfl, hw.trans (hb.mono hw.size)⟩)
         go_big_quiet_on
         try simp only [Act.put, List.setIfInBounds_toArray, List.set_cons_zero, List.set_cons_succ]))
    refine wpQuiet_nil ?_
    intro w5 hqw
    have B5 : Hid (Below w4.heap.size w4 w5) := hqw
    clear hqw
    have hk := C1.out w5 (bTS (bTS (bTS B2.out B3.out) B4.out) B5.out)
    have c1_0 : w5.cell? ⟨w.heap.size, 0, none⟩ = some (.string t.n) := by rw [Lib.cell_of_heap hk]; rfl
    have c1_1 : w5.cell? ⟨w.heap.size, 1, none⟩ = some (.string t.p) := by rw [Lib.cell_of_heap hk]; rfl
    have c1_2 : w5.cell? ⟨w.heap.size, 2, none⟩ = some (.slice ao t.own.length co) := by rw [Lib.cell_of_heap hk]; rfl
    have c1_3 : w5.cell? ⟨w.heap.size, 3, none⟩ = some (.slice aa t.all.length ca) := by rw [Lib.cell_of_heap hk]; rfl
    have c1_4 : w5.cell? ⟨w.heap.size, 4, none⟩ = some (.slice ac t.ch.length cc) := by rw [Lib.cell_of_heap hk]; rfl
    have c1_5 : w5.cell? ⟨w.heap.size, 5, none⟩ = some (.int .i64 t.nd) := by rw [Lib.cell_of_heap hk]; rfl
    have c1_6 : w5.cell? ⟨w.heap.size, 6, none⟩ = some (.int .i64 t.lf) := by rw [Lib.cell_of_heap hk]; rfl
    have c1_7 : w5.cell? ⟨w.heap.size, 7, none⟩ = some (.int .i64 t.sq) := by rw [Lib.cell_of_heap hk]; rfl
    clear hk
    go_wp2_with fail
    clear c1_0 c1_1 c1_2 c1_3 c1_4 c1_5 c1_6 c1_7
    refine (HKe.out _ (bTS (bTS (bTS (bTS B1.out B2.out) B3.out) B4.out) B5.out)).mono ?_
    rintro e wa ⟨g, rfl, hSa, hga, hsa⟩
    have HCa : Hid (CKp w wa) := (CKp.of (bTS (bTS (bTS (bTS B1.out B2.out) B3.out) B4.out) B5.out)).trans (CKp.stp (HS.out _ (bTS (bTS (bTS (bTS B1.out B2.out) B3.out) B4.out) B5.out)) hsa)
    have HBa : Hid (wa.heap[w.heap.size]? = some (.cells (tyA t (.slice ao t.own.length co) (.slice aa t.all.length ca) (.slice ac t.ch.length cc)) 35 (0, 0))) := ((CKp.stp (HS.out _ (bTS (bTS (bTS (bTS B1.out B2.out) B3.out) B4.out) B5.out)) hsa).2 _ _ _ _ (C1.out _ (bTS (bTS (bTS B2.out B3.out) B4.out) B5.out))).trans (C1.out _ (bTS (bTS (bTS B2.out B3.out) B4.out) B5.out))
    have HZa : Hid (wa.heap[w.heap.size + 1]? = some (.cells zTyA 35 (0, 0))) := ((CKp.stp (HS.out _ (bTS (bTS (bTS (bTS B1.out B2.out) B3.out) B4.out) B5.out)) hsa).2 _ _ _ _ (C2.out _ (bTS (bTS B3.out B4.out) B5.out))).trans (C2.out _ (bTS (bTS B3.out B4.out) B5.out))
    have HSa : Hid (StV base wa s m (stS E ky g) (upX X g ⟨t, false, zW⟩)) := hSa
    have Hg : Hid (w.heap.size ≤ g) := Nat.le_trans (Below.size (bTS (bTS (bTS (bTS B1.out B2.out) B3.out) B4.out) B5.out)) hga
    have Hsa : Hid (Stp w (fun k => k = m) (fun k => k = m) wa) := (Stp.of _ (bTS (bTS (bTS (bTS B1.out B2.out) B3.out) B4.out) B5.out)).trans hsa
    clear hSa hga hsa HS HCh HFi HKe HOr
    obtain ⟨⟨p0, p1, p2, p3⟩, p4, p5, p6, p7⟩ := BxT.of HBa.out
    go_wp2_with fail
    clear p0 p1 p2 p3 p4 p5 p6 p7
    refine (HCo.out _ HCa.out).mono ?_
    rintro e wb ⟨v1, v2, v3, rfl, ho, hb⟩
    obtain ⟨x1, y1, rfl⟩ := (IsRow.own ho.1).form
    obtain ⟨x2, y2, rfl⟩ := (IsRow.own ho.2.1).form
    obtain ⟨x3, y3, rfl⟩ := (IsRow.own ho.2.2).form
    have HZb : Hid (wb.heap[w.heap.size + 1]? = some (.cells zTyA 35 (0, 0))) := (hb.block _ (Array.getElem?_eq_some_iff.1 HZa.out).1).trans HZa.out
    have hlt : w.heap.size + 1 < wa.heap.size := (Array.getElem?_eq_some_iff.1 HZa.out).1
    have HEnd : Hid (∀ u0 u1 u2 u3 u4 u5 u6 u7, R (.returned (.tuple #[tyV t (.slice x1 t.own.length y1) (.slice x2 t.all.length y2) (.slice x3 t.ch.length y3), .int .i64 0])) (st8 wb (w.heap.size + 1) u0 u1 u2 u3 u4 u5 u6 u7)) := fun u0 u1 u2 u3 u4 u5 u6 u7 => HR.out g _ _ _ _ ((HSa.out.below hb).far HZb.out (by decide) (by decide) (by decide) (by decide) fun j hj => st8_other hj u0 u1 u2 u3 u4 u5 u6 u7) Hg.out ((Hsa.out.trans (Stp.of _ hb)).st8 (Nat.le_add_right _ 1) u0 u1 u2 u3 u4 u5 u6 u7) ((((((((((ho.set hlt 0 u0).set hlt 1 u1).set hlt 2 u2).set hlt 3 u3).set hlt 4 u4).set hlt 5 u5).set hlt 6 u6).set hlt 7 u7).le (Nat.le_of_lt (Nat.lt_of_succ_lt hlt))))
    obtain ⟨⟨e0, e1, e2, e3⟩, e4, e5, e6, e7⟩ := BxT.of (t := zT) HZb.out
    have f0 : ∀ j, wb.frozen? ⟨w.heap.size + 1, j, none⟩ = false := fun j => Lib.frozen_of_heap HZb.out j
    clear ho hb HZa HBa HSa Hsa HCa HCo HR hlt
    go_wp2_with fail
    try simp only [Exit.inBlock, Exit.then]
    refine bodyPost_ret (v := .tuple #[tyV t (.slice x1 t.own.length y1) (.slice x2 t.all.length y2) (.slice x3 t.ch.length y3), .int .i64 0]) ?_ rfl (HEnd.out _ _ _ _ _ _ _ _)
    rw [results_c2 rfl]; go_simp
  case some g0 =>
    rw [hL] at HFi
    have HFi : Hid (∀ W, Below w.heap.size w W → Calls Tryz.prog 29 #[stP s, .string t.n] W fun e w' => e = .returned (.pointer (some ⟨g0, 0, none⟩)) ∧ Below W.heap.size W w') := HFi
    have HK : Hid (∀ W, Below w.heap.size w W → W.cell? ⟨g0, 5, none⟩ = some (.int .i64 (X g0).t.nd) ∧ W.cell? ⟨g0, 6, none⟩ = some (.int .i64 (X g0).t.lf) ∧ W.cell? ⟨g0, 7, none⟩ = some (.int .i64 (X g0).t.sq)) := fun W hb => by
      obtain ⟨-, v1, v2, v3, hk, -⟩ := (h.below hb).kp _ (lkS_mem hL)
      exact ⟨by rw [Lib.cell_of_heap hk]; rfl, by rw [Lib.cell_of_heap hk]; rfl, by rw [Lib.cell_of_heap hk]; rfl⟩
    have hlt := hord g0 hL
    have d1 : decide ((0 : Int) ≤ or3 (ordI t.nd (X g0).t.nd) (ordI t.lf (X g0).t.lf) (ordI t.sq (X g0).t.sq)) = false := decide_eq_false (by omega)
    clear hL hord hlt h
    obtain ⟨w1, hw1⟩ : ∃ w1, w1 = w.alloc (.cells (tyA t (.slice ao t.own.length co) (.slice aa t.all.length ca) (.slice ac t.ch.length cc)) 35) := ⟨_, rfl⟩
    have B1 : Hid (Below w.heap.size w w1) := by show Below _ _ _; rw [hw1]; exact al_b _ _
    have hn1 : w1.heap[w.heap.size]? = some (.cells (tyA t (.slice ao t.own.length co) (.slice aa t.all.length ca) (.slice ac t.ch.length cc)) 35 (0, 0)) := by rw [hw1]; exact new_at _ _
    have C1 : Hid (∀ W, Below w1.heap.size w1 W → W.heap[w.heap.size]? = some (.cells (tyA t (.slice ao t.own.length co) (.slice aa t.all.length ca) (.slice ac t.ch.length cc)) 35 (0, 0))) := fun W h => (h.block _ (Array.getElem?_eq_some_iff.1 hn1).1).trans hn1
    clear hn1
    obtain ⟨w2, hw2⟩ : ∃ w2, w2 = w1.alloc (.cells zTyA 35) := ⟨_, rfl⟩
    have B2 : Hid (Below w1.heap.size w1 w2) := by show Below _ _ _; rw [hw2]; exact al_b _ _
    have hn2 : w2.heap[(w.heap.size + 1)]? = some (.cells zTyA 35 (0, 0)) := by rw [hw2]; rw [show w.heap.size + 1 = w1.heap.size by (rw [hw1]; simp)]; exact new_at _ _
    have C2 : Hid (∀ W, Below w2.heap.size w2 W → W.heap[(w.heap.size + 1)]? = some (.cells zTyA 35 (0, 0))) := fun W h => (h.block _ (Array.getElem?_eq_some_iff.1 hn2).1).trans hn2
    clear hn2
    have hk := C1.out w2 B2.out
    have c1_0 : w2.cell? ⟨w.heap.size, 0, none⟩ = some (.string t.n) := by rw [Lib.cell_of_heap hk]; rfl
    have c1_1 : w2.cell? ⟨w.heap.size, 1, none⟩ = some (.string t.p) := by rw [Lib.cell_of_heap hk]; rfl
    have c1_2 : w2.cell? ⟨w.heap.size, 2, none⟩ = some (.slice ao t.own.length co) := by rw [Lib.cell_of_heap hk]; rfl
    have c1_3 : w2.cell? ⟨w.heap.size, 3, none⟩ = some (.slice aa t.all.length ca) := by rw [Lib.cell_of_heap hk]; rfl
    have c1_4 : w2.cell? ⟨w.heap.size, 4, none⟩ = some (.slice ac t.ch.length cc) := by rw [Lib.cell_of_heap hk]; rfl
    have c1_5 : w2.cell? ⟨w.heap.size, 5, none⟩ = some (.int .i64 t.nd) := by rw [Lib.cell_of_heap hk]; rfl
    have c1_6 : w2.cell? ⟨w.heap.size, 6, none⟩ = some (.int .i64 t.lf) := by rw [Lib.cell_of_heap hk]; rfl
    have c1_7 : w2.cell? ⟨w.heap.size, 7, none⟩ = some (.int .i64 t.sq) := by rw [Lib.cell_of_heap hk]; rfl
    clear hk
    rw [hw2, hw1] at c1_0 c1_1 c1_2 c1_3 c1_4 c1_5 c1_6 c1_7
    go_enter Tryz.func12, Tryz.ntmps12
    go_wp2_with fail
    rw [← hw1, ← hw2]
    clear hw1 hw2
    clear c1_0 c1_1 c1_2 c1_3 c1_4 c1_5 c1_6 c1_7
    refine (HCh.out _ (bTS B1.out B2.out)).mono ?_
    rintro e w3 ⟨rfl, hb⟩
    have B3 : Hid (Below w2.heap.size w2 w3) := hb
    clear hb 
    have hk := C1.out w3 (bTS B2.out B3.out)
    have c1_0 : w3.cell? ⟨w.heap.size, 0, none⟩ = some (.string t.n) := by rw [Lib.cell_of_heap hk]; rfl
    have c1_1 : w3.cell? ⟨w.heap.size, 1, none⟩ = some (.string t.p) := by rw [Lib.cell_of_heap hk]; rfl
    have c1_2 : w3.cell? ⟨w.heap.size, 2, none⟩ = some (.slice ao t.own.length co) := by rw [Lib.cell_of_heap hk]; rfl
    have c1_3 : w3.cell? ⟨w.heap.size, 3, none⟩ = some (.slice aa t.all.length ca) := by rw [Lib.cell_of_heap hk]; rfl
    have c1_4 : w3.cell? ⟨w.heap.size, 4, none⟩ = some (.slice ac t.ch.length cc) := by rw [Lib.cell_of_heap hk]; rfl
    have c1_5 : w3.cell? ⟨w.heap.size, 5, none⟩ = some (.int .i64 t.nd) := by rw [Lib.cell_of_heap hk]; rfl
    have c1_6 : w3.cell? ⟨w.heap.size, 6, none⟩ = some (.int .i64 t.lf) := by rw [Lib.cell_of_heap hk]; rfl
    have c1_7 : w3.cell? ⟨w.heap.size, 7, none⟩ = some (.int .i64 t.sq) := by rw [Lib.cell_of_heap hk]; rfl
    clear hk
    go_wp2_with fail
    clear c1_0 c1_1 c1_2 c1_3 c1_4 c1_5 c1_6 c1_7
    refine (HFi.out _ (bTS (bTS B1.out B2.out) B3.out)).mono ?_
    rintro e w4 ⟨rfl, hb⟩
    have B4 : Hid (Below w3.heap.size w3 w4) := hb
    clear hb 
    go_wp2_with fail
    refine wp_region_quiet (C := fun w' => Below w4.heap.size w4 w') (by kernel_rfl) (by kernel_rfl) ((Below.refl _ _).drew) ?_
    dsimp only
    repeat (first
      | go_big_quiet_skip
      | (go_big_quiet_want
         apply Exists.intro
         refine ⟨fun W' hW' => ?_, ?_⟩
         · have hw : Below w4.heap.size w4 W' := hW'
           obtain ⟨⟨g0, g1, g2, g3⟩, g4, g5, g6, g7⟩ := BxT.of (C1.out W' (bTS (bTS (bTS B2.out B3.out) B4.out) hw))
           obtain ⟨c5, c6, c7⟩ := HK.out W' (bTS (bTS (bTS (bTS B1.out B2.out) B3.out) B4.out) hw)
           go_simp
           first
             | done
             | rfl
             | (go_at_call 38; (with_reducible refine Calls.mono (HOr.out _ _ _ _ _ _ W') ?_); rintro e w'' ⟨rfl, hb⟩; exact ⟨rfl, hw.trans (hb.mono hw.size)⟩)
         go_big_quiet_on
         try simp only [Act.put, List.setIfInBounds_toArray, List.set_cons_zero, List.set_cons_succ]))
    refine wpQuiet_nil ?_
    intro w5 hqw
    have B5 : Hid (Below w4.heap.size w4 w5) := hqw
    clear hqw
    have hk := C1.out w5 (bTS (bTS (bTS B2.out B3.out) B4.out) B5.out)
    have c1_0 : w5.cell? ⟨w.heap.size, 0, none⟩ = some (.string t.n) := by rw [Lib.cell_of_heap hk]; rfl
    have c1_1 : w5.cell? ⟨w.heap.size, 1, none⟩ = some (.string t.p) := by rw [Lib.cell_of_heap hk]; rfl
    have c1_2 : w5.cell? ⟨w.heap.size, 2, none⟩ = some (.slice ao t.own.length co) := by rw [Lib.cell_of_heap hk]; rfl
    have c1_3 : w5.cell? ⟨w.heap.size, 3, none⟩ = some (.slice aa t.all.length ca) := by rw [Lib.cell_of_heap hk]; rfl
    have c1_4 : w5.cell? ⟨w.heap.size, 4, none⟩ = some (.slice ac t.ch.length cc) := by rw [Lib.cell_of_heap hk]; rfl
    have c1_5 : w5.cell? ⟨w.heap.size, 5, none⟩ = some (.int .i64 t.nd) := by rw [Lib.cell_of_heap hk]; rfl
    have c1_6 : w5.cell? ⟨w.heap.size, 6, none⟩ = some (.int .i64 t.lf) := by rw [Lib.cell_of_heap hk]; rfl
    have c1_7 : w5.cell? ⟨w.heap.size, 7, none⟩ = some (.int .i64 t.sq) := by rw [Lib.cell_of_heap hk]; rfl
    clear hk
    go_wp2_with fail
    clear c1_0 c1_1 c1_2 c1_3 c1_4 c1_5 c1_6 c1_7
    refine (HKe.out _ (bTS (bTS (bTS (bTS B1.out B2.out) B3.out) B4.out) B5.out)).mono ?_
    rintro e wa ⟨g, rfl, hSa, hga, hsa⟩
    have HCa : Hid (CKp w wa) := (CKp.of (bTS (bTS (bTS (bTS B1.out B2.out) B3.out) B4.out) B5.out)).trans (CKp.stp (HS.out _ (bTS (bTS (bTS (bTS B1.out B2.out) B3.out) B4.out) B5.out)) hsa)
    have HBa : Hid (wa.heap[w.heap.size]? = some (.cells (tyA t (.slice ao t.own.length co) (.slice aa t.all.length ca) (.slice ac t.ch.length cc)) 35 (0, 0))) := ((CKp.stp (HS.out _ (bTS (bTS (bTS (bTS B1.out B2.out) B3.out) B4.out) B5.out)) hsa).2 _ _ _ _ (C1.out _ (bTS (bTS (bTS B2.out B3.out) B4.out) B5.out))).trans (C1.out _ (bTS (bTS (bTS B2.out B3.out) B4.out) B5.out))
    have HZa : Hid (wa.heap[w.heap.size + 1]? = some (.cells zTyA 35 (0, 0))) := ((CKp.stp (HS.out _ (bTS (bTS (bTS (bTS B1.out B2.out) B3.out) B4.out) B5.out)) hsa).2 _ _ _ _ (C2.out _ (bTS (bTS B3.out B4.out) B5.out))).trans (C2.out _ (bTS (bTS B3.out B4.out) B5.out))
    have HSa : Hid (StV base wa s m (stS E ky g) (upX X g ⟨t, false, zW⟩)) := hSa
    have Hg : Hid (w.heap.size ≤ g) := Nat.le_trans (Below.size (bTS (bTS (bTS (bTS B1.out B2.out) B3.out) B4.out) B5.out)) hga
    have Hsa : Hid (Stp w (fun k => k = m) (fun k => k = m) wa) := (Stp.of _ (bTS (bTS (bTS (bTS B1.out B2.out) B3.out) B4.out) B5.out)).trans hsa
    clear hSa hga hsa HS HCh HFi HKe HOr HK
    obtain ⟨⟨p0, p1, p2, p3⟩, p4, p5, p6, p7⟩ := BxT.of HBa.out
    go_wp2_with fail
    clear p0 p1 p2 p3 p4 p5 p6 p7
    refine (HCo.out _ HCa.out).mono ?_
    rintro e wb ⟨v1, v2, v3, rfl, ho, hb⟩
    obtain ⟨x1, y1, rfl⟩ := (IsRow.own ho.1).form
    obtain ⟨x2, y2, rfl⟩ := (IsRow.own ho.2.1).form
    obtain ⟨x3, y3, rfl⟩ := (IsRow.own ho.2.2).form
    have HZb : Hid (wb.heap[w.heap.size + 1]? = some (.cells zTyA 35 (0, 0))) := (hb.block _ (Array.getElem?_eq_some_iff.1 HZa.out).1).trans HZa.out
    have hlt : w.heap.size + 1 < wa.heap.size := (Array.getElem?_eq_some_iff.1 HZa.out).1
    have HEnd : Hid (∀ u0 u1 u2 u3 u4 u5 u6 u7, R (.returned (.tuple #[tyV t (.slice x1 t.own.length y1) (.slice x2 t.all.length y2) (.slice x3 t.ch.length y3), .int .i64 0])) (st8 wb (w.heap.size + 1) u0 u1 u2 u3 u4 u5 u6 u7)) := fun u0 u1 u2 u3 u4 u5 u6 u7 => HR.out g _ _ _ _ ((HSa.out.below hb).far HZb.out (by decide) (by decide) (by decide) (by decide) fun j hj => st8_other hj u0 u1 u2 u3 u4 u5 u6 u7) Hg.out ((Hsa.out.trans (Stp.of _ hb)).st8 (Nat.le_add_right _ 1) u0 u1 u2 u3 u4 u5 u6 u7) ((((((((((ho.set hlt 0 u0).set hlt 1 u1).set hlt 2 u2).set hlt 3 u3).set hlt 4 u4).set hlt 5 u5).set hlt 6 u6).set hlt 7 u7).le (Nat.le_of_lt (Nat.lt_of_succ_lt hlt))))
    obtain ⟨⟨e0, e1, e2, e3⟩, e4, e5, e6, e7⟩ := BxT.of (t := zT) HZb.out
    have f0 : ∀ j, wb.frozen? ⟨w.heap.size + 1, j, none⟩ = false := fun j => Lib.frozen_of_heap HZb.out j
    clear ho hb HZa HBa HSa Hsa HCa HCo HR hlt
    go_wp2_with fail
    try simp only [Exit.inBlock, Exit.then]
    refine bodyPost_ret (v := .tuple #[tyV t (.slice x1 t.own.length y1) (.slice x2 t.all.length y2) (.slice x3 t.ch.length y3), .int .i64 0]) ?_ rfl (HEnd.out _ _ _ _ _ _ _ _)
    rw [results_c2 rfl]; go_simp
end Go.Proofs.YtlndgepoekllkaaGreatDoor
