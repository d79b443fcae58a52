/- asked: a walk. -/
import Derived.Test.YtbekpemidpngaaaGreatDoorZk6
import Derived.Test.YtbekpemidpngaaaGreatDoorZk10
import Derived.Test.YtbekpemidpngaaaGreatDoorZk5
import Derived.Deep.RegionHeld3
import Derived.Test.YtbekpemidpngaaaGreatDoorZk9
namespace Go.Proofs.YtbekpemidpngaaaGreatDoor
open Go.RowKit

/-- What stands in the variables that filters read. -/
structure FW (w : World) : Prop where
  u : UT w
  t : V.T16 w
  p : V.P10 w
theorem FW.below {w w' : World} (h : FW w) (hb : Below w.heap.size w w') : FW w' := ⟨Utf8Tabs_below h.u hb, V.T16_below h.t hb, V.P10_below h.p hb⟩
/-- The name that a piece is, or what is wrong. -/
def askR : Pc → ByteArray × Int × Int
  | .word p s => if ownW s then (⟨#[]⟩, p, 3) else (s, p, checkL s.data.toList)
  | .lit p k n s => if k = 3 then (V.shwV 3 n s, 0, 0) else (⟨#[]⟩, p, 3)
  | x => (⟨#[]⟩, x.at, 3)
set_option maxRecDepth 100000 in
set_option maxHeartbeats 4000000 in
theorem asked_any (x : Pc) (w : World) (hx : PcOk x) (hT : FW w) : Calls Tryz.prog 107 #[x.v] w fun e w' => e = .returned (.tuple #[.string (askR x).1, ftV (askR x).2.1 (askR x).2.2]) ∧ Below w.heap.size w w' := by
  obtain ⟨RR, HRR⟩ : ∃ RR, Hid (askR x = RR) := ⟨_, rfl⟩
  rw [HRR.out]
  have HW : Hid (∀ (c : Int) W, Calls Tryz.prog 106 #[x.v, .int .i64 c] W fun e w' => e = .returned (ftV x.at c) ∧ Below W.heap.size W w') := fun c W => wrong_any x c W
  have HFW : Hid (∀ W, Below w.heap.size w W → FW W) := fun W hb => hT.below hb
  clear hT
  cases x with
  | word p s =>
    have HWx : Hid (∀ W, Calls Tryz.prog 106 #[.iface 160 (.agg #[.int .i64 p, .string s]), .int .i64 3] W fun e w' => e = .returned (ftV p 3) ∧ Below W.heap.size W w') := fun W => HW.out 3 W
    have ha1 := ta_word_word p s
    have ha2 := ta_word_literal p s
    clear HW
    show Calls Tryz.prog 107 #[.iface 160 (.agg #[.int .i64 p, .string s])] w _
    obtain ⟨w1, hw1⟩ : ∃ w1, w1 = w.alloc (.cells #[.int .i64 0, .int .i64 0] 90) := ⟨_, rfl⟩
    have B1 : Hid (Below w.heap.size w w1) := by show Below _ _ _; rw [hw1]; exact al_b _ _
    have hn1 : w1.heap[w.heap.size]? = some (.cells #[.int .i64 0, .int .i64 0] 90 (0, 0)) := by rw [hw1]; exact new_at _ _
    have C1 : Hid (∀ W, Below w1.heap.size w1 W → W.heap[w.heap.size]? = some (.cells #[.int .i64 0, .int .i64 0] 90 (0, 0))) := fun W h => (h.block _ (Array.getElem?_eq_some_iff.1 hn1).1).trans hn1
    clear hn1
    obtain ⟨w2, hw2⟩ : ∃ w2, w2 = w1.alloc (.cells #[.int .i64 p, .string s] 160) := ⟨_, rfl⟩
    have B2 : Hid (Below w1.heap.size w1 w2) := by show Below _ _ _; rw [hw2]; exact al_b _ _
    have hn2 : w2.heap[(w.heap.size + 1)]? = some (.cells #[.int .i64 p, .string s] 160 (0, 0)) := by rw [hw2]; rw [show w.heap.size + 1 = w1.heap.size by (rw [hw1]; simp)]; exact new_at _ _
    have C2 : Hid (∀ W, Below w2.heap.size w2 W → W.heap[(w.heap.size + 1)]? = some (.cells #[.int .i64 p, .string s] 160 (0, 0))) := fun W h => (h.block _ (Array.getElem?_eq_some_iff.1 hn2).1).trans hn2
    clear hn2
    have hs : s.size ≤ 1000000 := hx
    have HO : Hid (∀ W, Below w.heap.size w W → Calls Tryz.prog 51 #[.string s] W fun e w' => e = .returned (.bool (ownW s)) ∧ Below W.heap.size W w') := fun W hb => ownWord_any s W hs (HFW.out W hb).u
    have HCk : Hid (∀ W, Calls Tryz.prog 49 #[.string s] W fun e w' => e = .returned (.int .i64 (checkL s.data.toList)) ∧ Below W.heap.size W w') := fun W => check_any s W (by omega)
    have HPl : Hid (∀ W, Calls Tryz.prog 136 #[.int .i64 p] W fun e w' => e = .returned (.int .i64 p) ∧ w' = W) := fun W => place_any p W
    have hRR : RR = if ownW s then (⟨#[]⟩, p, 3) else (s, p, checkL s.data.toList) := HRR.out.symm
    clear HRR HFW hx hs
    generalize ownW s = X at *
    generalize checkL s.data.toList = D at *
    go_enter Tryz.func107, Tryz.ntmps107
    go_wp2_with fail
    rw [← hw1, ← hw2]
    clear hw1 hw2
    refine (HO.out _ (bT B1.out B2.out)).mono ?_
    rintro e w3 ⟨rfl, hb⟩
    have B3 : Hid (Below w2.heap.size w2 w3) := hb
    clear hb 
    cases X
    · obtain rfl : RR = (s, p, D) := hRR
      go_wp2_with fail
      have HDk : Hid (Below w3.heap.size w3 w3.drew) := (Below.refl _ _).drew
      have HS : Hid (∀ W, Below w3.heap.size w3 W → (W.cell? ⟨w.heap.size + 1, 0, none⟩ = some (.int .i64 p) ∧ W.cell? ⟨w.heap.size + 1, 1, none⟩ = some (.string s))) := fun W hb => by
        have hk := C2.out W (B3.out.trans (hb.mono B3.out.size))
        exact ⟨by rw [Lib.cell_of_heap hk]; rfl, by rw [Lib.cell_of_heap hk]; rfl⟩
      have HCF : Hid (∀ W, Below w3.heap.size w3 W → W.heap[w.heap.size]? = some (.cells #[.int .i64 0, .int .i64 0] 90 (0, 0))) := fun W hb => C1.out W ((bT B2.out B3.out).trans (hb.mono (bT B2.out B3.out).size))
      have HBW : Hid (Below w.heap.size w w3) := (bT (bT B1.out B2.out) B3.out)
      have HSet : Hid (∀ W : World, (W.cell? ⟨w.heap.size + 1, 0, none⟩ = some (.int .i64 p) ∧ W.cell? ⟨w.heap.size + 1, 1, none⟩ = some (.string s)) → ∀ u0 u1, (((W.setCell ⟨w.heap.size, 0, none⟩ u0).setCell ⟨w.heap.size, 1, none⟩ u1).cell? ⟨w.heap.size + 1, 0, none⟩ = some (.int .i64 p) ∧ ((W.setCell ⟨w.heap.size, 0, none⟩ u0).setCell ⟨w.heap.size, 1, none⟩ u1).cell? ⟨w.heap.size + 1, 1, none⟩ = some (.string s))) := fun W h u0 u1 => by
        have c : ∀ j, ((W.setCell ⟨w.heap.size, 0, none⟩ u0).setCell ⟨w.heap.size, 1, none⟩ u1).cell? ⟨w.heap.size + 1, j, none⟩ = W.cell? ⟨w.heap.size + 1, j, none⟩ := fun j => by
          have h1 : ((W.setCell ⟨w.heap.size, 0, none⟩ u0).setCell ⟨w.heap.size, 1, none⟩ u1).heap[w.heap.size + 1]? = W.heap[w.heap.size + 1]? := (Below.heap_setCell _ _ _ _ (show w.heap.size + 1 ≠ w.heap.size by omega)).trans (Below.heap_setCell _ _ _ _ (show w.heap.size + 1 ≠ w.heap.size by omega))
          unfold World.cell?
          rw [h1]
        exact ⟨(c 0).trans h.1, (c 1).trans h.2⟩
      clear C1 C2 HO
      refine wp_region_held_drew (S := fun W' : World => W'.cell? ⟨w.heap.size + 1, 0, none⟩ = some (.int .i64 p) ∧ W'.cell? ⟨w.heap.size + 1, 1, none⟩ = some (.string s)) (by kernel_rfl) (HS.out _ HDk.out) (fun hHeld => ?_)
      refine wpAnyH_take (i := 0) (v := ?_) rfl (by kernel_rfl) (by kernel_rfl) (by kernel_rfl) (fun _ _ _ h => h) (Or.inl ⟨by rfl, ?_⟩) hHeld ?_
      rotate_left 1
      · intro w9 hSw; obtain ⟨s0, s1⟩ := hSw; go_simp; try with_reducible rfl
      change wpAnyH _ _ _ _ _ _ _ (Act.put _ (some 13) _) _
      simp only [Act.put, List.setIfInBounds_toArray, List.set_cons_zero, List.set_cons_succ]
      refine wpAnyH_take (i := 1) (v := ?_) rfl (by kernel_rfl) (by kernel_rfl) (by kernel_rfl) (fun _ _ _ h => h) (Or.inl ⟨by rfl, ?_⟩) hHeld ?_
      rotate_left 1
      · intro w9 hSw; obtain ⟨s0, s1⟩ := hSw; go_simp; try with_reducible rfl
      change wpAnyH _ _ _ _ _ _ _ (Act.put _ (some 14) _) _
      simp only [Act.put, List.setIfInBounds_toArray, List.set_cons_zero, List.set_cons_succ]
      refine wpAnyH_take (i := 2) (v := ?_) rfl (by kernel_rfl) (by kernel_rfl) (by kernel_rfl) (fun _ _ _ h => h) (Or.inl ⟨by rfl, ?_⟩) hHeld ?_
      rotate_left 1
      · intro w9 hSw; obtain ⟨s0, s1⟩ := hSw; go_simp; try with_reducible rfl
      change wpAnyH _ _ _ _ _ _ _ (Act.put _ (some 15) _) _
      simp only [Act.put, List.setIfInBounds_toArray, List.set_cons_zero, List.set_cons_succ]
      refine wpAnyH_take (i := 3) (v := ?_) rfl (by kernel_rfl) (by kernel_rfl) (by kernel_rfl) (fun _ _ _ h => h) (Or.inl ⟨by rfl, ?_⟩) hHeld ?_
      rotate_left 1
      · intro w9 hSw; obtain ⟨s0, s1⟩ := hSw; go_simp; try with_reducible rfl
      change wpAnyH _ _ _ _ _ _ _ (Act.put _ (some 16) _) _
      simp only [Act.put, List.setIfInBounds_toArray, List.set_cons_zero, List.set_cons_succ]
      refine wpAnyH_take (i := 5) (v := ?_) rfl (by kernel_rfl) (by kernel_rfl) (by kernel_rfl) (fun _ _ _ h => h) (Or.inl ⟨by rfl, ?_⟩) hHeld ?_
      rotate_left 1
      · intro w9 hSw; obtain ⟨s0, s1⟩ := hSw; go_simp; try with_reducible rfl
      change wpAnyH _ _ _ _ _ _ _ (Act.put _ (some 18) _) _
      simp only [Act.put, List.setIfInBounds_toArray, List.set_cons_zero, List.set_cons_succ]
      refine wpAnyH_take (i := 6) (v := ?_) rfl (by kernel_rfl) (by kernel_rfl) (by kernel_rfl) (fun _ _ _ h => h) (Or.inl ⟨by rfl, ?_⟩) hHeld ?_
      rotate_left 1
      · intro w9 hSw; obtain ⟨s0, s1⟩ := hSw; go_simp; try with_reducible rfl
      change wpAnyH _ _ _ _ _ _ _ (Act.put _ (some 19) _) _
      simp only [Act.put, List.setIfInBounds_toArray, List.set_cons_zero, List.set_cons_succ]
      refine wpAnyH_ready (rs := [4]) (by kernel_rfl) (by simp) ?_
      refine AllReadyH.cons rfl (fun K hK => ?_) AllReadyH.nil
      go_simp
      refine (HPl.out _).mono ?_
      rintro e wf ⟨rfl, hwf⟩
      have HBf : Hid (Below w3.heap.size w3 wf) := by show Below _ _ _; rw [hwf]; exact HDk.out
      clear hwf
      go_simp
      refine hK.out _ _ (HS.out _ HBf.out) (fun hHeld => ?_)
      clear hK K
      refine wpAnyH_ready (rs := [7]) (by kernel_rfl) (by simp) ?_
      refine AllReadyH.cons rfl (fun K hK => ?_) AllReadyH.nil
      go_simp
      refine (HCk.out _).mono ?_
      rintro e wg ⟨rfl, hbg⟩
      have HBg : Hid (Below w3.heap.size w3 wg) := HBf.out.trans (hbg.mono HBf.out.size)
      clear hbg
      go_simp
      refine hK.out _ _ (HS.out _ HBg.out) (fun hHeld => ?_)
      clear hK K
      refine wpAnyH_take (i := 8) (v := ?_) rfl (by kernel_rfl) (by kernel_rfl) (by kernel_rfl) (fun _ _ _ h => h) (Or.inl ⟨by rfl, ?_⟩) hHeld ?_
      rotate_left 1
      · intro w9 hSw; obtain ⟨s0, s1⟩ := hSw; go_simp; try with_reducible rfl
      change wpAnyH _ _ _ _ _ _ _ (Act.put _ (some 21) _) _
      simp only [Act.put, List.setIfInBounds_toArray, List.set_cons_zero, List.set_cons_succ]
      refine wpAnyH_take (i := 9) (v := ?_) rfl (by kernel_rfl) (by kernel_rfl) (by kernel_rfl) (fun _ _ _ h => h) (Or.inl ⟨by rfl, ?_⟩) hHeld ?_
      rotate_left 1
      · intro w9 hSw; obtain ⟨s0, s1⟩ := hSw; go_simp; try with_reducible rfl
      change wpAnyH _ _ _ _ _ _ _ (Act.put _ (some 2) _) _
      simp only [Act.put, List.setIfInBounds_toArray, List.set_cons_zero, List.set_cons_succ]
      have hq := HCF.out _ HBg.out
      have c0_ : wg.cell? ⟨w.heap.size, 0, none⟩ = some (.int .i64 0) := by rw [Lib.cell_of_heap hq]; rfl
      have c1_ : wg.cell? ⟨w.heap.size, 1, none⟩ = some (.int .i64 0) := by rw [Lib.cell_of_heap hq]; rfl
      have fz : ∀ j, wg.frozen? ⟨w.heap.size, j, none⟩ = false := fun j => Lib.frozen_of_heap hq j
      clear hq
      refine wpAnyH_ready (rs := [10]) (by kernel_rfl) (by simp) ?_
      refine AllReadyH.cons rfl (fun K hK => ?_) AllReadyH.nil
      go_simp
      refine hK.out _ _ (HSet.out _ (HS.out _ HBg.out) _ _) (fun hHeld => ?_)
      clear hK K
      refine wpAnyH_done (by kernel_rfl) ?_ _
      clear hHeld
      have HE : Hid (Below w.heap.size w wg) := HBW.out.trans (HBg.out.mono HBW.out.size)
      clear HS HSet HBg HBf HDk HCk HPl HCF
      go_wp2
      refine bodyPost_ret (v := .tuple #[.string s, ftV p D]) ?_ rfl ⟨rfl, (HE.out.setCell (p := ⟨w.heap.size, 0, none⟩) (Nat.le_refl _) _).setCell (p := ⟨w.heap.size, 1, none⟩) (Nat.le_refl _) _⟩
      rw [results_tc rfl]; go_simp
    · obtain rfl : RR = (⟨#[]⟩, p, 3) := hRR
      go_wp2_with fail
      refine (HWx.out w3).mono ?_
      rintro e w4 ⟨rfl, hb⟩
      have B4 : Hid (Below w3.heap.size w3 w4) := hb
      clear hb 
      have hk := C1.out w4 (bT (bT B2.out B3.out) B4.out)
      have c1_0 : w4.cell? ⟨w.heap.size, 0, none⟩ = some (.int .i64 0) := by rw [Lib.cell_of_heap hk]; rfl
      have c1_1 : w4.cell? ⟨w.heap.size, 1, none⟩ = some (.int .i64 0) := by rw [Lib.cell_of_heap hk]; rfl
      have fz1 : ∀ j, w4.frozen? ⟨w.heap.size, j, none⟩ = false := fun j => Lib.frozen_of_heap hk j
      clear hk
      go_wp2
      refine bodyPost_ret (v := .tuple #[.string ⟨#[]⟩, ftV p 3]) ?_ rfl ⟨rfl, ((bT (bT (bT B1.out B2.out) B3.out) B4.out).setCell (p := ⟨w.heap.size, 0, none⟩) (Nat.le_refl _) _).setCell (p := ⟨w.heap.size, 1, none⟩) (Nat.le_refl _) _⟩
      rw [results_tc rfl]; go_simp
  | mark p s =>
    have HWx : Hid (∀ W, Calls Tryz.prog 106 #[.iface 161 (.agg #[.int .i64 p, .string s]), .int .i64 3] W fun e w' => e = .returned (ftV p 3) ∧ Below W.heap.size W w') := fun W => HW.out 3 W
    have ha1 := ta_mark_word p s
    have ha2 := ta_mark_literal p s
    clear HW
    show Calls Tryz.prog 107 #[.iface 161 (.agg #[.int .i64 p, .string s])] w _
    obtain ⟨w1, hw1⟩ : ∃ w1, w1 = w.alloc (.cells #[.int .i64 0, .int .i64 0] 90) := ⟨_, rfl⟩
    have B1 : Hid (Below w.heap.size w w1) := by show Below _ _ _; rw [hw1]; exact al_b _ _
    have hn1 : w1.heap[w.heap.size]? = some (.cells #[.int .i64 0, .int .i64 0] 90 (0, 0)) := by rw [hw1]; exact new_at _ _
    have C1 : Hid (∀ W, Below w1.heap.size w1 W → W.heap[w.heap.size]? = some (.cells #[.int .i64 0, .int .i64 0] 90 (0, 0))) := fun W h => (h.block _ (Array.getElem?_eq_some_iff.1 hn1).1).trans hn1
    clear hn1
    obtain rfl : RR = (⟨#[]⟩, p, 3) := HRR.out.symm
    go_enter Tryz.func107, Tryz.ntmps107
    go_wp2_with fail
    rw [← hw1]
    clear hw1
    refine (HWx.out w1).mono ?_
    rintro e w2 ⟨rfl, hb⟩
    have B2 : Hid (Below w1.heap.size w1 w2) := hb
    clear hb 
    have hk := C1.out w2 B2.out
    have c1_0 : w2.cell? ⟨w.heap.size, 0, none⟩ = some (.int .i64 0) := by rw [Lib.cell_of_heap hk]; rfl
    have c1_1 : w2.cell? ⟨w.heap.size, 1, none⟩ = some (.int .i64 0) := by rw [Lib.cell_of_heap hk]; rfl
    have fz1 : ∀ j, w2.frozen? ⟨w.heap.size, j, none⟩ = false := fun j => Lib.frozen_of_heap hk j
    clear hk
    go_wp2
    refine bodyPost_ret (v := .tuple #[.string ⟨#[]⟩, ftV p 3]) ?_ rfl ⟨rfl, ((bT B1.out B2.out).setCell (p := ⟨w.heap.size, 0, none⟩) (Nat.le_refl _) _).setCell (p := ⟨w.heap.size, 1, none⟩) (Nat.le_refl _) _⟩
    rw [results_tc rfl]; go_simp
  | lit p k n s =>
    have HWx : Hid (∀ W, Calls Tryz.prog 106 #[.iface 163 (.agg #[.int .i64 p, .int .i64 k, .int .i64 n, .string s]), .int .i64 3] W fun e w' => e = .returned (ftV p 3) ∧ Below W.heap.size W w') := fun W => HW.out 3 W
    have ha1 := ta_literal_word p k n s
    have ha2 := ta_literal_literal p k n s
    clear HW
    show Calls Tryz.prog 107 #[.iface 163 (.agg #[.int .i64 p, .int .i64 k, .int .i64 n, .string s])] w _
    obtain ⟨w1, hw1⟩ : ∃ w1, w1 = w.alloc (.cells #[.int .i64 0, .int .i64 0] 90) := ⟨_, rfl⟩
    have B1 : Hid (Below w.heap.size w w1) := by show Below _ _ _; rw [hw1]; exact al_b _ _
    have hn1 : w1.heap[w.heap.size]? = some (.cells #[.int .i64 0, .int .i64 0] 90 (0, 0)) := by rw [hw1]; exact new_at _ _
    have C1 : Hid (∀ W, Below w1.heap.size w1 W → W.heap[w.heap.size]? = some (.cells #[.int .i64 0, .int .i64 0] 90 (0, 0))) := fun W h => (h.block _ (Array.getElem?_eq_some_iff.1 hn1).1).trans hn1
    clear hn1
    have hs : s.size ≤ 1000000 := hx
    by_cases hk : k = 3
    · subst hk
      have HSh : Hid (∀ W, Below w.heap.size w W → Calls Tryz.prog 77 #[vv 3 n s] W fun e w' => e = .returned (.string (V.shwV 3 n s)) ∧ Below W.heap.size W w') := fun W hb => V.show_any 3 n s W (by omega) (HFW.out W hb).u (HFW.out W hb).t (HFW.out W hb).p
      obtain rfl : RR = (V.shwV 3 n s, 0, 0) := HRR.out.symm
      clear HRR HFW hx hs
      generalize V.shwV 3 n s = D at *
      obtain ⟨w2, hw2⟩ : ∃ w2, w2 = w1.alloc (.cells #[.int .i64 p, .int .i64 3, .int .i64 n, .string s] 163) := ⟨_, rfl⟩
      have B2 : Hid (Below w1.heap.size w1 w2) := by show Below _ _ _; rw [hw2]; exact al_b _ _
      have hn2 : w2.heap[(w.heap.size + 1)]? = some (.cells #[.int .i64 p, .int .i64 3, .int .i64 n, .string s] 163 (0, 0)) := by rw [hw2]; rw [show w.heap.size + 1 = w1.heap.size by (rw [hw1]; simp)]; exact new_at _ _
      have C2 : Hid (∀ W, Below w2.heap.size w2 W → W.heap[(w.heap.size + 1)]? = some (.cells #[.int .i64 p, .int .i64 3, .int .i64 n, .string s] 163 (0, 0))) := fun W h => (h.block _ (Array.getElem?_eq_some_iff.1 hn2).1).trans hn2
      clear hn2
      go_enter Tryz.func107, Tryz.ntmps107
      go_wp2_with fail
      rw [← hw1, ← hw2]
      clear hw1 hw2
      refine (HSh.out _ (bT B1.out B2.out)).mono ?_
      rintro e w3 ⟨rfl, hb⟩
      have B3 : Hid (Below w2.heap.size w2 w3) := hb
      clear hb 
      have hk := C1.out w3 (bT B2.out B3.out)
      have c1_0 : w3.cell? ⟨w.heap.size, 0, none⟩ = some (.int .i64 0) := by rw [Lib.cell_of_heap hk]; rfl
      have c1_1 : w3.cell? ⟨w.heap.size, 1, none⟩ = some (.int .i64 0) := by rw [Lib.cell_of_heap hk]; rfl
      have fz1 : ∀ j, w3.frozen? ⟨w.heap.size, j, none⟩ = false := fun j => Lib.frozen_of_heap hk j
      clear hk
      go_wp2
      refine bodyPost_ret (v := .tuple #[.string D, ftV 0 0]) ?_ rfl ⟨rfl, ((bT (bT B1.out B2.out) B3.out).setCell (p := ⟨w.heap.size, 0, none⟩) (Nat.le_refl _) _).setCell (p := ⟨w.heap.size, 1, none⟩) (Nat.le_refl _) _⟩
      rw [results_tc rfl]; go_simp
    · have hRR : RR = (⟨#[]⟩, p, 3) := by rw [← HRR.out]; unfold askR; dsimp only; rw [if_neg hk]
      obtain rfl := hRR
      have hk2 : (k == 3) = false := by simp [hk]
      clear HRR HFW hx hs
      obtain ⟨w2, hw2⟩ : ∃ w2, w2 = w1.alloc (.cells #[.int .i64 p, .int .i64 k, .int .i64 n, .string s] 163) := ⟨_, rfl⟩
      have B2 : Hid (Below w1.heap.size w1 w2) := by show Below _ _ _; rw [hw2]; exact al_b _ _
      have hn2 : w2.heap[(w.heap.size + 1)]? = some (.cells #[.int .i64 p, .int .i64 k, .int .i64 n, .string s] 163 (0, 0)) := by rw [hw2]; rw [show w.heap.size + 1 = w1.heap.size by (rw [hw1]; simp)]; exact new_at _ _
      have C2 : Hid (∀ W, Below w2.heap.size w2 W → W.heap[(w.heap.size + 1)]? = some (.cells #[.int .i64 p, .int .i64 k, .int .i64 n, .string s] 163 (0, 0))) := fun W h => (h.block _ (Array.getElem?_eq_some_iff.1 hn2).1).trans hn2
      clear hn2
      go_enter Tryz.func107, Tryz.ntmps107
      go_wp2_with fail
      rw [← hw1, ← hw2]
      clear hw1 hw2
      refine (HWx.out w2).mono ?_
      rintro e w3 ⟨rfl, hb⟩
      have B3 : Hid (Below w2.heap.size w2 w3) := hb
      clear hb 
      have hk := C1.out w3 (bT B2.out B3.out)
      have c1_0 : w3.cell? ⟨w.heap.size, 0, none⟩ = some (.int .i64 0) := by rw [Lib.cell_of_heap hk]; rfl
      have c1_1 : w3.cell? ⟨w.heap.size, 1, none⟩ = some (.int .i64 0) := by rw [Lib.cell_of_heap hk]; rfl
      have fz1 : ∀ j, w3.frozen? ⟨w.heap.size, j, none⟩ = false := fun j => Lib.frozen_of_heap hk j
      clear hk
      go_wp2
      refine bodyPost_ret (v := .tuple #[.string ⟨#[]⟩, ftV p 3]) ?_ rfl ⟨rfl, ((bT (bT B1.out B2.out) B3.out).setCell (p := ⟨w.heap.size, 0, none⟩) (Nat.le_refl _) _).setCell (p := ⟨w.heap.size, 1, none⟩) (Nat.le_refl _) _⟩
      rw [results_tc rfl]; go_simp
  | fin p =>
    have HWx : Hid (∀ W, Calls Tryz.prog 106 #[.iface 158 (.agg #[.int .i64 p]), .int .i64 3] W fun e w' => e = .returned (ftV p 3) ∧ Below W.heap.size W w') := fun W => HW.out 3 W
    have ha1 := ta_end_word p
    have ha2 := ta_end_literal p
    clear HW
    show Calls Tryz.prog 107 #[.iface 158 (.agg #[.int .i64 p])] w _
    obtain ⟨w1, hw1⟩ : ∃ w1, w1 = w.alloc (.cells #[.int .i64 0, .int .i64 0] 90) := ⟨_, rfl⟩
    have B1 : Hid (Below w.heap.size w w1) := by show Below _ _ _; rw [hw1]; exact al_b _ _
    have hn1 : w1.heap[w.heap.size]? = some (.cells #[.int .i64 0, .int .i64 0] 90 (0, 0)) := by rw [hw1]; exact new_at _ _
    have C1 : Hid (∀ W, Below w1.heap.size w1 W → W.heap[w.heap.size]? = some (.cells #[.int .i64 0, .int .i64 0] 90 (0, 0))) := fun W h => (h.block _ (Array.getElem?_eq_some_iff.1 hn1).1).trans hn1
    clear hn1
    obtain rfl : RR = (⟨#[]⟩, p, 3) := HRR.out.symm
    go_enter Tryz.func107, Tryz.ntmps107
    go_wp2_with fail
    rw [← hw1]
    clear hw1
    refine (HWx.out w1).mono ?_
    rintro e w2 ⟨rfl, hb⟩
    have B2 : Hid (Below w1.heap.size w1 w2) := hb
    clear hb 
    have hk := C1.out w2 B2.out
    have c1_0 : w2.cell? ⟨w.heap.size, 0, none⟩ = some (.int .i64 0) := by rw [Lib.cell_of_heap hk]; rfl
    have c1_1 : w2.cell? ⟨w.heap.size, 1, none⟩ = some (.int .i64 0) := by rw [Lib.cell_of_heap hk]; rfl
    have fz1 : ∀ j, w2.frozen? ⟨w.heap.size, j, none⟩ = false := fun j => Lib.frozen_of_heap hk j
    clear hk
    go_wp2
    refine bodyPost_ret (v := .tuple #[.string ⟨#[]⟩, ftV p 3]) ?_ rfl ⟨rfl, ((bT B1.out B2.out).setCell (p := ⟨w.heap.size, 0, none⟩) (Nat.le_refl _) _).setCell (p := ⟨w.heap.size, 1, none⟩) (Nat.le_refl _) _⟩
    rw [results_tc rfl]; go_simp
end Go.Proofs.YtbekpemidpngaaaGreatDoor
/- set, of two texts: a walk. -/
namespace Go.Proofs.YtbekpemidpngaaaGreatDoor
open Go.RowKit

theorem own_sr {R : Nat} {w w1 : World} {base : Nat} {e : TypeId} {sz : Nat} {v : Value} {n : Nat} {xs : List Value} (h : w.ownsRow base e sz v n xs) (hb : Sr R w w1) (hR : R < base) : w1.ownsRow base e sz v n xs :=
  h.kept (row := some R) ⟨hb.os, hb.tape, hb.output, hb.size, fun k hk hn => hb.block k hk (fun e => hn (by rw [e]))⟩ (by
    cases hv : v.ownBlock with
    | none => simp
    | some g =>
      have := (h.lt g hv).1
      refine .inr fun he => ?_
      simp only [Option.some.injEq] at he
      omega)
theorem Sr.app {R : Nat} {a b c : World} (h : Sr R a b) (hb : Below a.heap.size b c) : Sr R a c :=
  ⟨hb.os.trans h.os, hb.tape.trans h.tape, hb.output.trans h.output, Nat.le_trans h.size hb.size, fun k hk hn => (hb.block k hk).trans (h.block k hk hn)⟩
theorem info_vl : (Tryz.prog.info? 54).map (fun i => (i.zero, i.size, i.bytes)) = some (some (.agg #[.int .i64 0, .int .i64 0, .string ⟨#[]⟩]), 3, 32) := by kernel_rfl
def SetQ (w0 : World) (R : Nat) (T : List Ft) (z : Int) (D : List It) (w : World) (e : Ending) (w' : World) : Prop := ∃ a c, e = .returned (.tuple #[.slice a D.length c, ftV 0 0]) ∧ IsRow w' 3 (.slice a D.length c) D.length (itCells D) ∧ FrA w.heap.size a ∧ Sr R w w' ∧ Rd w0 R T z w'
set_option maxRecDepth 100000 in
set_option maxHeartbeats 4000000 in
theorem set_two (w0 : World) (R : Nat) (l : List Ft) (z : Int) (p0 p1 k n1 p2 p3 n2 p4 : Int) (s1 s2 : ByteArray) (w : World) (h0 : Sr R w0 w) (h : Rd w0 R l z w) (hR : R < w0.heap.size) (hl : l.length ≤ 1000000)
    (q0 : pcF l z = .mark p0 ⟨#[123]⟩) (q1 : pcF l.tail z = .lit p1 k n1 s1) (q2 : pcF l.tail.tail z = .mark p2 ⟨#[44]⟩) (q3 : pcF l.tail.tail.tail z = .lit p3 k n2 s2) (q4 : pcF l.tail.tail.tail.tail z = .mark p4 ⟨#[125]⟩)
    (hin : inV [⟨k, n1, s1⟩] ⟨k, n2, s2⟩ = false) (hlt : cfV ⟨k, n2, s2⟩ ⟨k, n1, s1⟩ < 0) :
    Calls Tryz.prog 137 #[.pointer (some ⟨R, 0, none⟩)] w fun e w' => SetQ w0 R l.tail.tail.tail.tail.tail z [⟨k, n2, s2⟩, ⟨k, n1, s1⟩] w e w' := by
  obtain ⟨i0, hi0, hz0, hz1, hz2⟩ := info_parts info_vl
  have HRl : Hid (R < w.heap.size) := Nat.lt_of_lt_of_le hR h0.size
  have HR0' : Hid (R < w0.heap.size) := hR
  have tl : ∀ m : List Ft, m.tail.length ≤ m.length := fun m => by simp
  have l1 := tl l
  have l2 := tl l.tail
  have l3 := tl l.tail.tail
  have l4 := tl l.tail.tail.tail
  have HN0 : Hid (∀ W, Sr R w0 W → Rd w0 R l z W → Calls Tryz.prog 71 #[.pointer (some ⟨R, 0, none⟩)] W fun e w' => e = .returned (.iface 161 (.agg #[.int .i64 p0, .string ⟨#[123]⟩])) ∧ Sr R W w' ∧ Rd w0 R l.tail z w') := fun W a b => by
    have := next_any w0 R l z W a b (by omega)
    unfold NxP at this
    rw [q0] at this
    exact this
  have HN2 : Hid (∀ W, Sr R w0 W → Rd w0 R l.tail.tail z W → Calls Tryz.prog 71 #[.pointer (some ⟨R, 0, none⟩)] W fun e w' => e = .returned (.iface 161 (.agg #[.int .i64 p2, .string ⟨#[44]⟩])) ∧ Sr R W w' ∧ Rd w0 R l.tail.tail.tail z w') := fun W a b => by
    have := next_any w0 R l.tail.tail z W a b (by omega)
    unfold NxP at this
    rw [q2] at this
    exact this
  have HN4 : Hid (∀ W, Sr R w0 W → Rd w0 R l.tail.tail.tail.tail z W → Calls Tryz.prog 71 #[.pointer (some ⟨R, 0, none⟩)] W fun e w' => e = .returned (.iface 161 (.agg #[.int .i64 p4, .string ⟨#[125]⟩])) ∧ Sr R W w' ∧ Rd w0 R l.tail.tail.tail.tail.tail z w') := fun W a b => by
    have := next_any w0 R l.tail.tail.tail.tail z W a b (by omega)
    unfold NxP at this
    rw [q4] at this
    exact this
  have HA1 : Hid (∀ W, Sr R w0 W → Rd w0 R l.tail z W → Calls Tryz.prog 162 #[.pointer (some ⟨R, 0, none⟩), .slice none 0 0] W fun e w' => e = .returned (.tuple #[itV ⟨k, n1, s1⟩, ftV 0 0]) ∧ Sr R W w' ∧ Rd w0 R l.tail.tail z w') := fun W a b => another_ok w0 R l.tail z none 0 [] p1 k n1 s1 W a b HR0'.out (by omega) q1 (IsRow.nil _ _) (fun d hd => by cases hd) (fun y hy => by cases hy) rfl (by decide)
  have HA2 : Hid (∀ W b c, Sr R w0 W → Rd w0 R l.tail.tail.tail z W → IsRow W 3 (.slice b 1 c) 1 (itCells [⟨k, n1, s1⟩]) → (∀ d, b = some d → d.block ≠ R) → Calls Tryz.prog 162 #[.pointer (some ⟨R, 0, none⟩), .slice b 1 c] W fun e w' => e = .returned (.tuple #[itV ⟨k, n2, s2⟩, ftV 0 0]) ∧ Sr R W w' ∧ Rd w0 R l.tail.tail.tail.tail z w') := fun W b c a1 a2 a3 a4 => another_ok w0 R l.tail.tail.tail z b c [⟨k, n1, s1⟩] p3 k n2 s2 W a1 a2 HR0'.out (by omega) q3 a3 a4 (fun y hy => by simp at hy; rw [hy]) hin (by simp)
  have HM : Hid (∀ (p : Int) (x y : UInt8) W, Calls Tryz.prog 161 #[.iface 161 (.agg #[.int .i64 p, .string ⟨#[x]⟩]), .string ⟨#[y]⟩] W fun e w' => e = .returned (.bool (x == y)) ∧ Below W.heap.size W w') := fun p x y W => by
    have := isMark_any (.mark p ⟨#[x]⟩) ⟨#[y]⟩ W
    have e : isM (.mark p ⟨#[x]⟩) ⟨#[y]⟩ = (x == y) := by show ([x] == [y]) = _; simp
    rw [e] at this
    exact this
  have HSo : Hid (∀ v base W, W.ownsRow base 54 3 v 2 (itCells [⟨k, n1, s1⟩, ⟨k, n2, s2⟩]) → Calls Tryz.prog 163 #[v, .func (.func 92) #[] #[]] W fun e w' => e = .returned (.tuple #[]) ∧ IsRow w' 3 v 2 (itCells [⟨k, n2, s2⟩, ⟨k, n1, s1⟩]) ∧ Below base W w') := fun v base W ho => by
    refine (sortV_any v [⟨k, n1, s1⟩, ⟨k, n2, s2⟩] base W ho (by simp)).mono ?_
    rintro e w' ⟨rfl, D, hp, hs, hr, hb⟩
    rw [sort2 hp hs hlt] at hr
    exact ⟨rfl, hr, hb⟩
  have H0 : Hid (Sr R w0 w) := h0
  have HR0 : Hid (Rd w0 R l z w) := h
  clear h0 h hl hR q0 q1 q2 q3 q4 hin hlt l1 l2 l3 l4 tl
  generalize l.tail.tail.tail.tail.tail = T5 at *
  generalize l.tail.tail.tail.tail = T4 at *
  generalize l.tail.tail.tail = T3 at *
  generalize l.tail.tail = T2 at *
  generalize l.tail = T1 at *
  obtain ⟨w1, hw1⟩ : ∃ w1, w1 = w.alloc (.cells #[.int .i64 0, .int .i64 0] 90) := ⟨_, rfl⟩
  have B1 : Hid (Sr R w w1) := by show Sr _ _ _; rw [hw1]; exact Sr.of (al_f _ _)
  have hn1 : w1.heap[w.heap.size]? = some (.cells #[.int .i64 0, .int .i64 0] 90 (0, 0)) := by rw [hw1]; exact nw_at _ _
  have N1 : Hid (R < w.heap.size) := HRl.out
  have C1 : Hid (∀ W, Sr R w1 W → W.heap[w.heap.size]? = some (.cells #[.int .i64 0, .int .i64 0] 90 (0, 0))) := fun W h => h.box hn1 (Nat.ne_of_gt N1.out)
  clear hn1
  have HR1 : Hid (Rd w0 R l z w1) := by show Rd _ _ _ _ _; rw [hw1]; exact HR0.out.al _
  have hx1 : Hid (w1.heap.size = w.heap.size + 1) := by show _ = _; rw [hw1]; simp
  have HRb : Hid (R < w1.heap.size) := Nat.lt_of_lt_of_le HRl.out B1.out.size
  go_enter Tryz.func137, Tryz.ntmps137
  go_wp2_with fail
  rw [← hw1]
  clear hw1
  refine (HN0.out _ (H0.out.trans B1.out) HR1.out).mono ?_
  rintro e w2 ⟨rfl, hb, hrd⟩
  have B2 : Hid (Sr R w1 w2) := hb
  clear hb 
  have HRd2 : Hid (Rd w0 R T1 z w2) := hrd
  clear hrd
  go_wp2_with fail
  refine (HM.out p0 123 123 _).mono ?_
  rintro e w3 ⟨rfl, hb⟩
  have B3 : Hid (Sr R w2 w3) := Sr.of hb
  have HRd3 : Hid (Rd w0 R T1 z w3) := HRd2.out.below hb
  clear hb
  go_wp2_with fail
  refine wp_loop_rounds 2 ?_
  rw [rounds_succ]
  go_wp2_with fail
  refine (HA1.out _ (H0.out.trans ((B1.out.trans B2.out).trans B3.out)) HRd3.out).mono ?_
  rintro e w4 ⟨rfl, hb, hrd⟩
  have B4 : Hid (Sr R w3 w4) := hb
  clear hb 
  have HRd4 : Hid (Rd w0 R T2 z w4) := hrd
  clear hrd
  obtain ⟨w5, hw5⟩ : ∃ w5, w5 = w4.alloc (.cells #[.int .i64 k, .int .i64 n1, .string s1] 54) := ⟨_, rfl⟩
  have B5 : Hid (Sr R w4 w5) := by show Sr _ _ _; rw [hw5]; exact Sr.of (al_f _ _)
  have hn5 : w5.heap[w4.heap.size]? = some (.cells #[.int .i64 k, .int .i64 n1, .string s1] 54 (0, 0)) := by rw [hw5]; exact nw_at _ _
  have N5 : Hid (R < w4.heap.size) := (Nat.lt_of_lt_of_le HRl.out (((B1.out.trans B2.out).trans B3.out).trans B4.out).size)
  have C5 : Hid (∀ W, Sr R w5 W → W.heap[w4.heap.size]? = some (.cells #[.int .i64 k, .int .i64 n1, .string s1] 54 (0, 0))) := fun W h => h.box hn5 (Nat.ne_of_gt N5.out)
  clear hn5
  obtain ⟨w6, hw6⟩ : ∃ w6, w6 = w5.alloc (.cells #[.int .i64 0, .int .i64 0] 90) := ⟨_, rfl⟩
  have B6 : Hid (Sr R w5 w6) := by show Sr _ _ _; rw [hw6]; exact Sr.of (al_f _ _)
  have hn6 : w6.heap[(w4.heap.size + 1)]? = some (.cells #[.int .i64 0, .int .i64 0] 90 (0, 0)) := by rw [hw6]; rw [show w4.heap.size + 1 = w5.heap.size by (rw [hw5]; simp)]; exact new_at _ _
  have N6 : Hid (R < (w4.heap.size + 1)) := (Nat.lt_of_lt_of_le (Nat.lt_of_lt_of_le HRl.out (((B1.out.trans B2.out).trans B3.out).trans B4.out).size) (Nat.le_add_right _ _))
  have C6 : Hid (∀ W, Sr R w6 W → W.heap[(w4.heap.size + 1)]? = some (.cells #[.int .i64 0, .int .i64 0] 90 (0, 0))) := fun W h => h.box hn6 (Nat.ne_of_gt N6.out)
  clear hn6
  have HRd6 : Hid (Rd w0 R T2 z w6) := by show Rd _ _ _ _ _; rw [hw6, hw5]; exact (HRd4.out.al _).al _
  have HO6 : Hid (w6.ownsRow w1.heap.size 54 3 (.slice none 0 0) 0 []) := World.ownsRow_nil _ _ _ _
  have hk := C5.out w6 B6.out
  have c5_0 : w6.cell? ⟨w4.heap.size, 0, none⟩ = some (.int .i64 k) := by rw [Lib.cell_of_heap hk]; rfl
  have c5_1 : w6.cell? ⟨w4.heap.size, 1, none⟩ = some (.int .i64 n1) := by rw [Lib.cell_of_heap hk]; rfl
  have c5_2 : w6.cell? ⟨w4.heap.size, 2, none⟩ = some (.string s1) := by rw [Lib.cell_of_heap hk]; rfl
  clear hk
  have hk := C6.out w6 (Sr.refl _ _)
  have c6_0 : w6.cell? ⟨(w4.heap.size + 1), 0, none⟩ = some (.int .i64 0) := by rw [Lib.cell_of_heap hk]; rfl
  have c6_1 : w6.cell? ⟨(w4.heap.size + 1), 1, none⟩ = some (.int .i64 0) := by rw [Lib.cell_of_heap hk]; rfl
  clear hk
  rw [hw6, hw5] at c5_0 c5_1 c5_2 c6_0 c6_1
  have hle : w1.heap.size ≤ w6.heap.size := ((((B2.out.trans B3.out).trans B4.out).trans B5.out).trans B6.out).size
  go_upto_region 7 with fail
  rw [← hw5, ← hw6]
  clear hw5 hw6 c5_0 c5_1 c5_2 c6_0 c6_1
  have hk := C5.out w6 B6.out
  have c5_0 : w6.cell? ⟨w4.heap.size, 0, none⟩ = some (.int .i64 k) := by rw [Lib.cell_of_heap hk]; rfl
  have c5_1 : w6.cell? ⟨w4.heap.size, 1, none⟩ = some (.int .i64 n1) := by rw [Lib.cell_of_heap hk]; rfl
  have c5_2 : w6.cell? ⟨w4.heap.size, 2, none⟩ = some (.string s1) := by rw [Lib.cell_of_heap hk]; rfl
  clear hk
  go_wp2_with (at_builtin; go_loud (refine wpl_appE w6 rfl (.tmp 25) (.tmp 27) 43 54 rfl i0 _ 3 32 Tryz.underlying43 hi0 hz0 hz1 hz2 rfl (by decide) w1.heap.size (.slice none 0 0) 0 _ rfl HO6.out [.int .i64 k, .int .i64 n1, .string s1] rfl _ rfl rfl (by intro u hu; simp at hu; rcases hu with rfl | rfl | rfl <;> rfl) (by decide) (by decide) hle ?_); intro va wa hown hba)
  have HO7 : Hid (wa.ownsRow w1.heap.size 54 3 va 1 (itCells [⟨k, n1, s1⟩])) := hown
  have B7 : Hid (Sr R w1 wa) := Sr.app ((((B2.out.trans B3.out).trans B4.out).trans B5.out).trans B6.out) hba
  have HRd7 : Hid (Rd w0 R T2 z wa) := HRd6.out.keep (hba.block R HRb.out)
  clear hown hba hle c5_0 c5_1 c5_2
  obtain ⟨a7, z7, hf7⟩ := (IsRow.own HO7.out).form
  subst hf7
  skip
  refine (HN2.out _ (H0.out.trans (B1.out.trans B7.out)) HRd7.out).mono ?_
  rintro e w8 ⟨rfl, hb, hrd⟩
  have B8 : Hid (Sr R wa w8) := hb
  clear hb 
  have HRd8 : Hid (Rd w0 R T3 z w8) := hrd
  have HO8 : Hid (w8.ownsRow w1.heap.size 54 3 (.slice a7 1 z7) 1 (itCells [⟨k, n1, s1⟩])) := own_sr HO7.out B8.out HRb.out
  clear hrd
  go_wp2_with fail
  refine (HM.out p2 44 125 _).mono ?_
  rintro e w9 ⟨rfl, hb⟩
  have B9 : Hid (Sr R w8 w9) := Sr.of hb
  have HRd9 : Hid (Rd w0 R T3 z w9) := HRd8.out.below hb
  have HO9 : Hid (w9.ownsRow w1.heap.size 54 3 (.slice a7 1 z7) 1 (itCells [⟨k, n1, s1⟩])) := own_sr HO8.out B9.out HRb.out
  clear hb
  go_wp2_with fail
  refine (HM.out p2 44 44 _).mono ?_
  rintro e w10 ⟨rfl, hb⟩
  have B10 : Hid (Sr R w9 w10) := Sr.of hb
  have HRd10 : Hid (Rd w0 R T3 z w10) := HRd9.out.below hb
  have HO10 : Hid (w10.ownsRow w1.heap.size 54 3 (.slice a7 1 z7) 1 (itCells [⟨k, n1, s1⟩])) := own_sr HO9.out B10.out HRb.out
  clear hb
  go_wp2_with fail
  rw [rounds_succ]
  go_wp2_with fail
  refine (HA2.out _ _ _ (H0.out.trans ((((B1.out.trans B7.out).trans B8.out).trans B9.out).trans B10.out)) HRd10.out (IsRow.own HO10.out) (fun d hd => by have hq := (HO10.out.lt d.block (by rw [hd]; rfl)).1; have := HRb.out; omega)).mono ?_
  rintro e w11 ⟨rfl, hb, hrd⟩
  have B11 : Hid (Sr R w10 w11) := hb
  clear hb 
  have HRd11 : Hid (Rd w0 R T4 z w11) := hrd
  have HO11 : Hid (w11.ownsRow w1.heap.size 54 3 (.slice a7 1 z7) 1 (itCells [⟨k, n1, s1⟩])) := own_sr HO10.out B11.out HRb.out
  clear hrd
  obtain ⟨w12, hw12⟩ : ∃ w12, w12 = w11.alloc (.cells #[.int .i64 k, .int .i64 n2, .string s2] 54) := ⟨_, rfl⟩
  have B12 : Hid (Sr R w11 w12) := by show Sr _ _ _; rw [hw12]; exact Sr.of (al_f _ _)
  have hn12 : w12.heap[w11.heap.size]? = some (.cells #[.int .i64 k, .int .i64 n2, .string s2] 54 (0, 0)) := by rw [hw12]; exact nw_at _ _
  have N12 : Hid (R < w11.heap.size) := (Nat.lt_of_lt_of_le HRl.out (((((B1.out.trans B7.out).trans B8.out).trans B9.out).trans B10.out).trans B11.out).size)
  have C12 : Hid (∀ W, Sr R w12 W → W.heap[w11.heap.size]? = some (.cells #[.int .i64 k, .int .i64 n2, .string s2] 54 (0, 0))) := fun W h => h.box hn12 (Nat.ne_of_gt N12.out)
  clear hn12
  obtain ⟨w13, hw13⟩ : ∃ w13, w13 = w12.alloc (.cells #[.int .i64 0, .int .i64 0] 90) := ⟨_, rfl⟩
  have B13 : Hid (Sr R w12 w13) := by show Sr _ _ _; rw [hw13]; exact Sr.of (al_f _ _)
  have hn13 : w13.heap[(w11.heap.size + 1)]? = some (.cells #[.int .i64 0, .int .i64 0] 90 (0, 0)) := by rw [hw13]; rw [show w11.heap.size + 1 = w12.heap.size by (rw [hw12]; simp)]; exact new_at _ _
  have N13 : Hid (R < (w11.heap.size + 1)) := (Nat.lt_of_lt_of_le (Nat.lt_of_lt_of_le HRl.out (((((B1.out.trans B7.out).trans B8.out).trans B9.out).trans B10.out).trans B11.out).size) (Nat.le_add_right _ _))
  have C13 : Hid (∀ W, Sr R w13 W → W.heap[(w11.heap.size + 1)]? = some (.cells #[.int .i64 0, .int .i64 0] 90 (0, 0))) := fun W h => h.box hn13 (Nat.ne_of_gt N13.out)
  clear hn13
  have HRd13 : Hid (Rd w0 R T4 z w13) := by show Rd _ _ _ _ _; rw [hw13, hw12]; exact (HRd11.out.al _).al _
  have HO13 : Hid (w13.ownsRow w1.heap.size 54 3 (.slice a7 1 z7) 1 (itCells [⟨k, n1, s1⟩])) := own_sr HO11.out ((B12.out.trans B13.out)) HRb.out
  have hk := C12.out w13 B13.out
  have c12_0 : w13.cell? ⟨w11.heap.size, 0, none⟩ = some (.int .i64 k) := by rw [Lib.cell_of_heap hk]; rfl
  have c12_1 : w13.cell? ⟨w11.heap.size, 1, none⟩ = some (.int .i64 n2) := by rw [Lib.cell_of_heap hk]; rfl
  have c12_2 : w13.cell? ⟨w11.heap.size, 2, none⟩ = some (.string s2) := by rw [Lib.cell_of_heap hk]; rfl
  clear hk
  have hk := C13.out w13 (Sr.refl _ _)
  have c13_0 : w13.cell? ⟨(w11.heap.size + 1), 0, none⟩ = some (.int .i64 0) := by rw [Lib.cell_of_heap hk]; rfl
  have c13_1 : w13.cell? ⟨(w11.heap.size + 1), 1, none⟩ = some (.int .i64 0) := by rw [Lib.cell_of_heap hk]; rfl
  clear hk
  rw [hw13, hw12] at c12_0 c12_1 c12_2 c13_0 c13_1
  have hle : w1.heap.size ≤ w13.heap.size := ((((((B7.out.trans B8.out).trans B9.out).trans B10.out).trans B11.out).trans B12.out).trans B13.out).size
  go_upto_region 7 with fail
  rw [← hw12, ← hw13]
  clear hw12 hw13 c12_0 c12_1 c12_2 c13_0 c13_1
  have hk := C12.out w13 B13.out
  have c12_0 : w13.cell? ⟨w11.heap.size, 0, none⟩ = some (.int .i64 k) := by rw [Lib.cell_of_heap hk]; rfl
  have c12_1 : w13.cell? ⟨w11.heap.size, 1, none⟩ = some (.int .i64 n2) := by rw [Lib.cell_of_heap hk]; rfl
  have c12_2 : w13.cell? ⟨w11.heap.size, 2, none⟩ = some (.string s2) := by rw [Lib.cell_of_heap hk]; rfl
  clear hk
  go_wp2_with (at_builtin; go_loud (refine wpl_appE w13 rfl (.tmp 25) (.tmp 27) 43 54 rfl i0 _ 3 32 Tryz.underlying43 hi0 hz0 hz1 hz2 rfl (by decide) w1.heap.size (.slice a7 1 z7) 1 _ rfl HO13.out [.int .i64 k, .int .i64 n2, .string s2] rfl _ rfl rfl (by intro u hu; simp at hu; rcases hu with rfl | rfl | rfl <;> rfl) (by decide) (by decide) hle ?_); intro va wa hown hba)
  have HO14 : Hid (wa.ownsRow w1.heap.size 54 3 va 2 (itCells [⟨k, n1, s1⟩, ⟨k, n2, s2⟩])) := hown
  have B14 : Hid (Sr R w1 wa) := Sr.app ((((((B7.out.trans B8.out).trans B9.out).trans B10.out).trans B11.out).trans B12.out).trans B13.out) hba
  have HRd14 : Hid (Rd w0 R T4 z wa) := HRd13.out.keep (hba.block R HRb.out)
  clear hown hba hle c12_0 c12_1 c12_2
  obtain ⟨a14, z14, hf14⟩ := (IsRow.own HO14.out).form
  subst hf14
  skip
  refine (HN4.out _ (H0.out.trans (B1.out.trans B14.out)) HRd14.out).mono ?_
  rintro e w15 ⟨rfl, hb, hrd⟩
  have B15 : Hid (Sr R wa w15) := hb
  clear hb 
  have HRd15 : Hid (Rd w0 R T5 z w15) := hrd
  have HO15 : Hid (w15.ownsRow w1.heap.size 54 3 (.slice a14 2 z14) 2 (itCells [⟨k, n1, s1⟩, ⟨k, n2, s2⟩])) := own_sr HO14.out B15.out HRb.out
  clear hrd
  go_wp2_with fail
  refine (HM.out p4 125 125 _).mono ?_
  rintro e w16 ⟨rfl, hb⟩
  have B16 : Hid (Sr R w15 w16) := Sr.of hb
  have HRd16 : Hid (Rd w0 R T5 z w16) := HRd15.out.below hb
  have HO16 : Hid (w16.ownsRow w1.heap.size 54 3 (.slice a14 2 z14) 2 (itCells [⟨k, n1, s1⟩, ⟨k, n2, s2⟩])) := own_sr HO15.out B16.out HRb.out
  clear hb
  go_wp2_with fail
  refine (HSo.out _ w1.heap.size _ HO16.out).mono ?_
  rintro e w17 ⟨rfl, hr, hb⟩
  have HRw : Hid (IsRow w17 3 (.slice a14 2 z14) 2 (itCells [⟨k, n2, s2⟩, ⟨k, n1, s1⟩])) := hr
  have B17 : Hid (Sr R w1 w17) := Sr.app ((B14.out.trans B15.out).trans B16.out) hb
  have HRd17 : Hid (Rd w0 R T5 z w17) := HRd16.out.keep (hb.block R HRb.out)
  have HFr : Hid (∀ d, a14 = some d → w1.heap.size ≤ d.block) := fun d hd => by subst hd; exact (HO16.out.lt d.block rfl).1
  clear hb hr
  have hk := C1.out w17 B17.out
  have c1_0 : w17.cell? ⟨w.heap.size, 0, none⟩ = some (.int .i64 0) := by rw [Lib.cell_of_heap hk]; rfl
  have c1_1 : w17.cell? ⟨w.heap.size, 1, none⟩ = some (.int .i64 0) := by rw [Lib.cell_of_heap hk]; rfl
  have fz1 : ∀ j, w17.frozen? ⟨w.heap.size, j, none⟩ = false := fun j => Lib.frozen_of_heap hk j
  clear hk
  go_wp2
  refine bodyPost_ret (v := .tuple #[.slice a14 2 z14, ftV 0 0]) ?_ rfl ⟨a14, z14, rfl, ?_, ?_, ((B1.out.trans B17.out).set (.inr (Nat.le_refl _)) 0 _).set (.inr (Nat.le_refl _)) 1 _, (HRd17.out.set HRl.out 0 _).set HRl.out 1 _⟩
  · rw [results_tc rfl]; go_simp
  · have hne : ∀ d, a14 = some d → d.block ≠ w.heap.size := fun d hd => by have h1 := HFr.out d hd; have h2 := hx1.out; omega
    exact row_set (row_set HRw.out hne 0 _) hne 1 _
  · intro d hd
    have h1 := HFr.out d hd
    have h2 := hx1.out
    omega
end Go.Proofs.YtbekpemidpngaaaGreatDoor
