/- store's Find: its walk. -/
import Derived.Test.YtlndgepoekllkaaGreatDoorZk15
import Derived.Test.YtlndgepoekllkaaGreatDoorZk12
import Derived.Deep.RegionHeld3
import Derived.Test.YtlndgepoekllkaaGreatDoorZk11
namespace Go.Proofs.YtlndgepoekllkaaGreatDoor
open Go.RowKit Go.ChangeMaps

abbrev zKpA : Array Value := #[.string ⟨#[]⟩, .string ⟨#[]⟩, .slice none 0 0, .slice none 0 0, .slice none 0 0, .int .i64 0, .int .i64 0, .int .i64 0, .bool false, .slice none 0 0]
abbrev st10 (W : World) (g : Nat) (u0 u1 u2 u3 u4 u5 u6 u7 u8 u9 : Value) : World := ((((((((((W.setCell ⟨g, 0, none⟩ u0).setCell ⟨g, 1, none⟩ u1).setCell ⟨g, 2, none⟩ u2).setCell ⟨g, 3, none⟩ u3).setCell ⟨g, 4, none⟩ u4).setCell ⟨g, 5, none⟩ u5).setCell ⟨g, 6, none⟩ u6).setCell ⟨g, 7, none⟩ u7).setCell ⟨g, 8, none⟩ u8).setCell ⟨g, 9, none⟩ u9)
theorem st10_other {W : World} {g h : Nat} (hne : h ≠ g) (u0 u1 u2 u3 u4 u5 u6 u7 u8 u9 : Value) : (st10 W g u0 u1 u2 u3 u4 u5 u6 u7 u8 u9).heap[h]? = W.heap[h]? := by
  unfold st10
  rw [Below.heap_setCell _ _ _ _ hne, Below.heap_setCell _ _ _ _ hne, Below.heap_setCell _ _ _ _ hne, Below.heap_setCell _ _ _ _ hne, Below.heap_setCell _ _ _ _ hne, Below.heap_setCell _ _ _ _ hne, Below.heap_setCell _ _ _ _ hne, Below.heap_setCell _ _ _ _ hne, Below.heap_setCell _ _ _ _ hne, Below.heap_setCell _ _ _ _ hne]
theorem below10 {B g : Nat} {w w' : World} (h : Below B w w') (hg : B ≤ g) (u0 u1 u2 u3 u4 u5 u6 u7 u8 u9 : Value) : Below B w (st10 w' g u0 u1 u2 u3 u4 u5 u6 u7 u8 u9) := ((((((((((h.setCell (p := ⟨g, 0, none⟩) hg u0).setCell (p := ⟨g, 1, none⟩) hg u1).setCell (p := ⟨g, 2, none⟩) hg u2).setCell (p := ⟨g, 3, none⟩) hg u3).setCell (p := ⟨g, 4, none⟩) hg u4).setCell (p := ⟨g, 5, none⟩) hg u5).setCell (p := ⟨g, 6, none⟩) hg u6).setCell (p := ⟨g, 7, none⟩) hg u7).setCell (p := ⟨g, 8, none⟩) hg u8).setCell (p := ⟨g, 9, none⟩) hg u9)
theorem own10 {w : World} {base g : Nat} {e : TypeId} {sz : Nat} {v : Value} {n : Nat} {xs : List Value} (h : w.ownsRow base e sz v n xs) (hg : g < base) (u0 u1 u2 u3 u4 u5 u6 u7 u8 u9 : Value) : (st10 w g u0 u1 u2 u3 u4 u5 u6 u7 u8 u9).ownsRow base e sz v n xs := ownsRow_setCell_below (ownsRow_setCell_below (ownsRow_setCell_below (ownsRow_setCell_below (ownsRow_setCell_below (ownsRow_setCell_below (ownsRow_setCell_below (ownsRow_setCell_below (ownsRow_setCell_below (ownsRow_setCell_below h hg u0) hg u1) hg u2) hg u3) hg u4) hg u5) hg u6) hg u7) hg u8) hg u9
theorem bxK {W : World} {g : Nat} (h : W.heap[g]? = some (.cells zKpA 43 (0, 0))) : (W.cell? ⟨g, 0, none⟩ = some (.string ⟨#[]⟩) ∧ W.cell? ⟨g, 1, none⟩ = some (.string ⟨#[]⟩) ∧ W.cell? ⟨g, 2, none⟩ = some (.slice none 0 0) ∧ W.cell? ⟨g, 3, none⟩ = some (.slice none 0 0) ∧ W.cell? ⟨g, 4, none⟩ = some (.slice none 0 0) ∧ W.cell? ⟨g, 5, none⟩ = some (.int .i64 0) ∧ W.cell? ⟨g, 6, none⟩ = some (.int .i64 0) ∧ W.cell? ⟨g, 7, none⟩ = some (.int .i64 0) ∧ W.cell? ⟨g, 8, none⟩ = some (.bool false) ∧ W.cell? ⟨g, 9, none⟩ = some (.slice none 0 0)) ∧ ∀ j, W.frozen? ⟨g, j, none⟩ = false :=
  ⟨⟨by rw [Lib.cell_of_heap h]; rfl, by rw [Lib.cell_of_heap h]; rfl, by rw [Lib.cell_of_heap h]; rfl, by rw [Lib.cell_of_heap h]; rfl, by rw [Lib.cell_of_heap h]; rfl, by rw [Lib.cell_of_heap h]; rfl, by rw [Lib.cell_of_heap h]; rfl, by rw [Lib.cell_of_heap h]; rfl, by rw [Lib.cell_of_heap h]; rfl, by rw [Lib.cell_of_heap h]; rfl⟩, fun j => Lib.frozen_of_heap h j⟩
set_option maxRecDepth 100000 in
set_option maxHeartbeats 2000000 in
theorem findS_none {base : Nat} {w : World} {s m : Nat} {E : List (ByteArray × Nat)} {X : Nat → Kp} (h : StV base w s m E X) (n : ByteArray) (hn : n.size ≤ 1000000) (hL : lkS E (fldB n) = none) (hT : UT w) :
    Calls Tryz.prog 9 #[stP s, .string n] w fun e w' => e = .returned (.tuple #[zKpV, .bool false]) ∧ Below w.heap.size w w' := by
  have HFi : Hid (∀ W, Below w.heap.size w W → Calls Tryz.prog 29 #[stP s, .string n] W fun e w' => e = .returned (.pointer none) ∧ Below W.heap.size W w') := fun W hb => by
    have := find_any (h.below hb) n hn (Utf8Tabs_below hT hb)
    rw [hL] at this
    exact this
  obtain ⟨w1, hw1⟩ : ∃ w1, w1 = w.alloc (.cells zKpA 43) := ⟨_, rfl⟩
  have B1 : Hid (Below w.heap.size w w1) := by show Below _ _ _; rw [hw1]; exact al_b _ _
  have hn1 : w1.heap[w.heap.size]? = some (.cells zKpA 43 (0, 0)) := by rw [hw1]; exact new_at _ _
  clear h hn hL hT
  go_enter Tryz.func9, Tryz.ntmps9
  go_wp2_with fail
  rw [← hw1]
  clear hw1
  refine (HFi.out _ B1.out).mono ?_
  rintro e w2 ⟨rfl, hb⟩
  have B2 : Hid (Below w.heap.size w w2) := B1.out.trans (hb.mono B1.out.size)
  obtain ⟨⟨e0, e1, e2, e3, e4, e5, e6, e7, e8, e9⟩, f0⟩ := bxK ((hb.block _ (Array.getElem?_eq_some_iff.1 hn1).1).trans hn1)
  have HEnd : Hid (∀ u0 u1 u2 u3 u4 u5 u6 u7 u8 u9, Below w.heap.size w (st10 w2 w.heap.size u0 u1 u2 u3 u4 u5 u6 u7 u8 u9)) := fun u0 u1 u2 u3 u4 u5 u6 u7 u8 u9 => below10 B2.out (Nat.le_refl _) u0 u1 u2 u3 u4 u5 u6 u7 u8 u9
  clear hn1 B1 B2 hb HFi
  go_wp2_with fail
  try simp only [Exit.inBlock, Exit.then]
  refine bodyPost_ret (v := .tuple #[zKpV, .bool false]) ?_ rfl ⟨rfl, HEnd.out _ _ _ _ _ _ _ _ _ _⟩
  rw [results_c2 rfl]; go_simp
  first | done | exact ⟨rfl, rfl, rfl, rfl, rfl⟩
/-- What Find leaves of what is kept. -/
def FdP (x : Kp) (w : World) (e : Ending) (w' : World) : Prop := ∃ v1 v2 v3 vw, e = .returned (.tuple #[.agg #[.string x.t.n, .string x.t.p, v1, v2, v3, .int .i64 x.t.nd, .int .i64 x.t.lf, .int .i64 x.t.sq, .bool x.s, vw], .bool true]) ∧ OwnTy w.heap.size w' x.t v1 v2 v3 ∧ w'.ownsRow w.heap.size 3 1 vw (nodK x.f 16).length (iCells (nodK x.f 16)) ∧ Below w.heap.size w w'
theorem st10_own {w : World} {base g : Nat} {t : Ty} {v1 v2 v3 : Value} (h : OwnTy base w t v1 v2 v3) (hg : g < base) (u0 u1 u2 u3 u4 u5 u6 u7 u8 u9 : Value) : OwnTy base (st10 w g u0 u1 u2 u3 u4 u5 u6 u7 u8 u9) t v1 v2 v3 := ⟨own10 h.1 hg u0 u1 u2 u3 u4 u5 u6 u7 u8 u9, own10 h.2.1 hg u0 u1 u2 u3 u4 u5 u6 u7 u8 u9, own10 h.2.2 hg u0 u1 u2 u3 u4 u5 u6 u7 u8 u9⟩
set_option maxRecDepth 100000 in
set_option maxHeartbeats 4000000 in
theorem findS_some {base : Nat} {w : World} {s m g : Nat} {E : List (ByteArray × Nat)} {X : Nat → Kp} (h : StV base w s m E X) (n : ByteArray) (hn : n.size ≤ 1000000) (hL : lkS E (fldB n) = some g) (h1 : (X g).t.own.length ≤ 1000) (h2 : (X g).t.all.length ≤ 1000) (h3 : (X g).t.ch.length ≤ 1000) (hT : UT w) :
    Calls Tryz.prog 9 #[stP s, .string n] w fun e w' => FdP (X g) w e w' := by
  have HFi : Hid (∀ W, Below w.heap.size w W → Calls Tryz.prog 29 #[stP s, .string n] W fun e w' => e = .returned (.pointer (some ⟨g, 0, none⟩)) ∧ Below W.heap.size W w') := fun W hb => by
    have := find_any (h.below hb) n hn (Utf8Tabs_below hT hb)
    rw [hL] at this
    exact this
  obtain ⟨hbg, vo, va, vc, h0, ho⟩ := h.kp _ (lkS_memB hL)
  dsimp only at hbg h0 ho
  obtain ⟨x, hX⟩ : ∃ x, x = X g := ⟨_, rfl⟩
  rw [← hX] at h0 ho h1 h2 h3 ⊢
  obtain ⟨ao, co, rfl⟩ := ho.is.1.form
  obtain ⟨aa, ca, rfl⟩ := ho.is.2.1.form
  obtain ⟨ac, cc, rfl⟩ := ho.is.2.2.form
  have HK : Hid (∀ W, Below w.heap.size w W → W.heap[g]? = some (.cells (kpA x (.slice ao x.t.own.length co) (.slice aa x.t.all.length ca) (.slice ac x.t.ch.length cc)) 87 (0, 0))) := fun W hb => (hb.block g (Array.getElem?_eq_some_iff.1 h0).1).trans h0
  have HCo : Hid (∀ W, Below w.heap.size w W → Calls Tryz.prog 30 #[tyV x.t (.slice ao x.t.own.length co) (.slice aa x.t.all.length ca) (.slice ac x.t.ch.length cc)] W fun e w' => CpT x.t W e w') := fun W hb => copyOf_any x.t _ _ _ W (ho.is.below hb) h1 h2 h3
  have HNd : Hid (∀ W, Below w.heap.size w W → Calls Tryz.prog 31 #[.pointer (some ⟨g, 0, none⟩)] W fun e w' => NdP (nodK x.f 16) W e w') := fun W hb => nodesK_any W g x _ _ _ (HK.out W hb)
  have hgl : g < w.heap.size := (Array.getElem?_eq_some_iff.1 h0).1
  obtain ⟨w1, hw1⟩ : ∃ w1, w1 = w.alloc (.cells zKpA 43) := ⟨_, rfl⟩
  have B1 : Hid (Below w.heap.size w w1) := by show Below _ _ _; rw [hw1]; exact al_b _ _
  have hn1 : w1.heap[w.heap.size]? = some (.cells zKpA 43 (0, 0)) := by rw [hw1]; exact new_at _ _
  have HSk : Hid (∀ W, W.heap[g]? = some (.cells (kpA x (.slice ao x.t.own.length co) (.slice aa x.t.all.length ca) (.slice ac x.t.ch.length cc)) 87 (0, 0)) → BxT g x.t (.slice ao x.t.own.length co) (.slice aa x.t.all.length ca) (.slice ac x.t.ch.length cc) W ∧ W.cell? ⟨g, 8, none⟩ = some (.bool x.s)) := fun W hk => by
    have c : ∀ j, W.cell? ⟨g, j, none⟩ = (kpA x (.slice ao x.t.own.length co) (.slice aa x.t.all.length ca) (.slice ac x.t.ch.length cc))[j]? := fun j => by rw [Lib.cell_of_heap hk]
    exact ⟨⟨⟨c 0, c 1, c 2, c 3⟩, c 4, c 5, c 6, c 7⟩, c 8⟩
  have HEnd : Hid (∀ W v1 v2 v3 vw, Below w.heap.size w W → OwnTy w1.heap.size W x.t v1 v2 v3 → W.ownsRow w1.heap.size 3 1 vw (nodK x.f 16).length (iCells (nodK x.f 16)) → ∀ u0 u1 u2 u3 u4 u5 u6 u7 u8 u9, FdP x w (.returned (.tuple #[.agg #[.string x.t.n, .string x.t.p, v1, v2, v3, .int .i64 x.t.nd, .int .i64 x.t.lf, .int .i64 x.t.sq, .bool x.s, vw], .bool true])) (st10 W w.heap.size u0 u1 u2 u3 u4 u5 u6 u7 u8 u9)) := fun W v1 v2 v3 vw hb hoT hoW u0 u1 u2 u3 u4 u5 u6 u7 u8 u9 => by
    have hlt : w.heap.size < w1.heap.size := (Array.getElem?_eq_some_iff.1 hn1).1
    exact ⟨v1, v2, v3, vw, rfl, (st10_own hoT hlt u0 u1 u2 u3 u4 u5 u6 u7 u8 u9).le (Nat.le_of_lt hlt), own_leT (own10 hoW hlt u0 u1 u2 u3 u4 u5 u6 u7 u8 u9) (Nat.le_of_lt hlt), below10 hb (Nat.le_refl _) u0 u1 u2 u3 u4 u5 u6 u7 u8 u9⟩
  have HBx : Hid (∀ W, Below w1.heap.size w1 W → W.heap[w.heap.size]? = some (.cells zKpA 43 (0, 0))) := fun W hb => (hb.block _ (Array.getElem?_eq_some_iff.1 hn1).1).trans hn1
  have hne : g ≠ w.heap.size := Nat.ne_of_lt hgl
  have HSt : Hid (∀ W, Below w.heap.size w W → ∀ u0 u1 u2 u3 u4 u5 u6 u7 u8 u9, (st10 W w.heap.size u0 u1 u2 u3 u4 u5 u6 u7 u8 u9).heap[g]? = some (.cells (kpA x (.slice ao x.t.own.length co) (.slice aa x.t.all.length ca) (.slice ac x.t.ch.length cc)) 87 (0, 0))) := fun W hb u0 u1 u2 u3 u4 u5 u6 u7 u8 u9 => (st10_other hne u0 u1 u2 u3 u4 u5 u6 u7 u8 u9).trans (HK.out W hb)
  obtain ⟨R, hR⟩ : ∃ R : Ending → World → Prop, R = FdP x w := ⟨_, rfl⟩
  show Calls Tryz.prog 9 #[stP s, .string n] w fun e w' => FdP x w e w'
  rw [← hR] at HEnd ⊢
  obtain ⟨l, hl⟩ : ∃ l, l = nodK x.f 16 := ⟨_, rfl⟩
  rw [← hl] at HNd HEnd
  clear h hn hL hT hbg h0 ho h1 h2 h3 hX hR hn1 hgl hne hl
  go_enter Tryz.func9, Tryz.ntmps9
  go_wp2_with fail
  rw [← hw1]
  clear hw1
  refine (HFi.out _ B1.out).mono ?_
  rintro e w2 ⟨rfl, hb⟩
  have B2 : Hid (Below w.heap.size w w2) := B1.out.trans (hb.mono B1.out.size)
  have D2 : Hid (Below w1.heap.size w1 w2) := hb
  clear hb HFi
  go_wp2_with fail
  have HBk : Hid (Below w.heap.size w w2.drew) := B2.out.drew
  have HB1 : Hid (Below w1.heap.size w1 w2.drew) := D2.out.drew
  refine wp_region_held_drew (S := fun w' => BxT g x.t (.slice ao x.t.own.length co) (.slice aa x.t.all.length ca) (.slice ac x.t.ch.length cc) w' ∧ w'.cell? ⟨g, 8, none⟩ = some (.bool x.s)) (by kernel_rfl) (HSk.out _ (HK.out _ HBk.out)) (fun hHeld => ?_)
  refine wpAnyH_take (i := 0) (v := ?_) rfl (by kernel_rfl) (by kernel_rfl) (by kernel_rfl) (fun _ _ _ h => h) (Or.inl ⟨by rfl, ?_⟩) hHeld ?_
  rotate_left 1
  · intro w9 hSw; obtain ⟨⟨⟨g0, g1, g2, g3⟩, g4, g5, g6, g7⟩, g8⟩ := hSw; go_simp; try with_reducible rfl
  change wpAnyH _ _ _ _ _ _ _ (Act.put _ (some 16) _) _
  simp only [Act.put, List.setIfInBounds_toArray, List.set_cons_zero, List.set_cons_succ]
  refine wpAnyH_take (i := 1) (v := ?_) rfl (by kernel_rfl) (by kernel_rfl) (by kernel_rfl) (fun _ _ _ h => h) (Or.inl ⟨by rfl, ?_⟩) hHeld ?_
  rotate_left 1
  · intro w9 hSw; obtain ⟨⟨⟨g0, g1, g2, g3⟩, g4, g5, g6, g7⟩, g8⟩ := hSw; go_simp; try with_reducible rfl
  change wpAnyH _ _ _ _ _ _ _ (Act.put _ (some 17) _) _
  simp only [Act.put, List.setIfInBounds_toArray, List.set_cons_zero, List.set_cons_succ]
  refine wpAnyH_take (i := 2) (v := ?_) rfl (by kernel_rfl) (by kernel_rfl) (by kernel_rfl) (fun _ _ _ h => h) (Or.inl ⟨by rfl, ?_⟩) hHeld ?_
  rotate_left 1
  · intro w9 hSw; obtain ⟨⟨⟨g0, g1, g2, g3⟩, g4, g5, g6, g7⟩, g8⟩ := hSw; go_simp; try with_reducible rfl
  change wpAnyH _ _ _ _ _ _ _ (Act.put _ (some 18) _) _
  simp only [Act.put, List.setIfInBounds_toArray, List.set_cons_zero, List.set_cons_succ]
  refine wpAnyH_take (i := 3) (v := ?_) rfl (by kernel_rfl) (by kernel_rfl) (by kernel_rfl) (fun _ _ _ h => h) (Or.inl ⟨by rfl, ?_⟩) hHeld ?_
  rotate_left 1
  · intro w9 hSw; obtain ⟨⟨⟨g0, g1, g2, g3⟩, g4, g5, g6, g7⟩, g8⟩ := hSw; go_simp; try with_reducible rfl
  change wpAnyH _ _ _ _ _ _ _ (Act.put _ (some 19) _) _
  simp only [Act.put, List.setIfInBounds_toArray, List.set_cons_zero, List.set_cons_succ]
  refine wpAnyH_take (i := 5) (v := ?_) rfl (by kernel_rfl) (by kernel_rfl) (by kernel_rfl) (fun _ _ _ h => h) (Or.inl ⟨by rfl, ?_⟩) hHeld ?_
  rotate_left 1
  · intro w9 hSw; obtain ⟨⟨⟨g0, g1, g2, g3⟩, g4, g5, g6, g7⟩, g8⟩ := hSw; go_simp; try with_reducible rfl
  change wpAnyH _ _ _ _ _ _ _ (Act.put _ (some 21) _) _
  simp only [Act.put, List.setIfInBounds_toArray, List.set_cons_zero, List.set_cons_succ]
  refine wpAnyH_take (i := 6) (v := ?_) rfl (by kernel_rfl) (by kernel_rfl) (by kernel_rfl) (fun _ _ _ h => h) (Or.inl ⟨by rfl, ?_⟩) hHeld ?_
  rotate_left 1
  · intro w9 hSw; obtain ⟨⟨⟨g0, g1, g2, g3⟩, g4, g5, g6, g7⟩, g8⟩ := hSw; go_simp; try with_reducible rfl
  change wpAnyH _ _ _ _ _ _ _ (Act.put _ (some 22) _) _
  simp only [Act.put, List.setIfInBounds_toArray, List.set_cons_zero, List.set_cons_succ]
  refine wpAnyH_take (i := 7) (v := ?_) rfl (by kernel_rfl) (by kernel_rfl) (by kernel_rfl) (fun _ _ _ h => h) (Or.inl ⟨by rfl, ?_⟩) hHeld ?_
  rotate_left 1
  · intro w9 hSw; obtain ⟨⟨⟨g0, g1, g2, g3⟩, g4, g5, g6, g7⟩, g8⟩ := hSw; go_simp; try with_reducible rfl
  change wpAnyH _ _ _ _ _ _ _ (Act.put _ (some 23) _) _
  simp only [Act.put, List.setIfInBounds_toArray, List.set_cons_zero, List.set_cons_succ]
  refine wpAnyH_take (i := 8) (v := ?_) rfl (by kernel_rfl) (by kernel_rfl) (by kernel_rfl) (fun _ _ _ h => h) (Or.inl ⟨by rfl, ?_⟩) hHeld ?_
  rotate_left 1
  · intro w9 hSw; obtain ⟨⟨⟨g0, g1, g2, g3⟩, g4, g5, g6, g7⟩, g8⟩ := hSw; go_simp; try with_reducible rfl
  change wpAnyH _ _ _ _ _ _ _ (Act.put _ (some 24) _) _
  simp only [Act.put, List.setIfInBounds_toArray, List.set_cons_zero, List.set_cons_succ]
  refine wpAnyH_take (i := 9) (v := ?_) rfl (by kernel_rfl) (by kernel_rfl) (by kernel_rfl) (fun _ _ _ h => h) (Or.inl ⟨by rfl, ?_⟩) hHeld ?_
  rotate_left 1
  · intro w9 hSw; obtain ⟨⟨⟨g0, g1, g2, g3⟩, g4, g5, g6, g7⟩, g8⟩ := hSw; go_simp; try with_reducible rfl
  change wpAnyH _ _ _ _ _ _ _ (Act.put _ (some 25) _) _
  simp only [Act.put, List.setIfInBounds_toArray, List.set_cons_zero, List.set_cons_succ]
  refine wpAnyH_ready (rs := [4]) (by kernel_rfl) (by simp) ?_
  refine AllReadyH.cons rfl (fun K hK => ?_) AllReadyH.nil
  go_simp
  refine (HCo.out _ HBk.out).mono ?_
  rintro e wf ⟨v1, v2, v3, rfl, ho, hbf⟩
  have HBf : Hid (Below w.heap.size w wf) := HBk.out.trans (hbf.mono HBk.out.size)
  have HB2 : Hid (Below w1.heap.size w1 wf) := HB1.out.trans (hbf.mono HB1.out.size)
  have HO : Hid (OwnTy w1.heap.size wf x.t v1 v2 v3) := ho.le HB1.out.size
  clear hbf ho
  go_simp
  refine hK.out _ _ (HSk.out _ (HK.out _ HBf.out)) (fun hHeld => ?_)
  clear hK K
  refine wpAnyH_ready (rs := [10]) (by kernel_rfl) (by simp) ?_
  refine AllReadyH.cons rfl (fun K hK => ?_) AllReadyH.nil
  go_simp
  refine (HNd.out _ HBf.out).mono ?_
  rintro e wg ⟨vw, rfl, how, hbf⟩
  have HBg : Hid (Below w.heap.size w wg) := HBf.out.trans (hbf.mono HBf.out.size)
  have HB3 : Hid (Below w1.heap.size w1 wg) := HB2.out.trans (hbf.mono HB2.out.size)
  have HO2 : Hid (OwnTy w1.heap.size wg x.t v1 v2 v3) := HO.out.below hbf
  have HOw : Hid (wg.ownsRow w1.heap.size 3 1 vw l.length (iCells l)) := own_leT how HB2.out.size
  clear hbf how HO
  obtain ⟨x1, y1, rfl⟩ := (IsRow.own HO2.out.1).form
  obtain ⟨x2, y2, rfl⟩ := (IsRow.own HO2.out.2.1).form
  obtain ⟨x3, y3, rfl⟩ := (IsRow.own HO2.out.2.2).form
  obtain ⟨x4, y4, rfl⟩ := (IsRow.own HOw.out).form
  go_simp
  refine hK.out _ _ (HSk.out _ (HK.out _ HBg.out)) (fun hHeld => ?_)
  clear hK K
  refine wpAnyH_take (i := 11) (v := ?_) rfl (by kernel_rfl) (by kernel_rfl) (by kernel_rfl) (fun _ _ _ h => h) (Or.inl ⟨by rfl, ?_⟩) hHeld ?_
  rotate_left 1
  · intro w9 hSw; obtain ⟨⟨⟨g0, g1, g2, g3⟩, g4, g5, g6, g7⟩, g8⟩ := hSw; go_simp; try with_reducible rfl
  change wpAnyH _ _ _ _ _ _ _ (Act.put _ (some 27) _) _
  simp only [Act.put, List.setIfInBounds_toArray, List.set_cons_zero, List.set_cons_succ]
  obtain ⟨⟨e0, e1, e2, e3, e4, e5, e6, e7, e8, e9⟩, f0⟩ := bxK (HBx.out _ HB3.out)
  refine wpAnyH_ready (rs := [12]) (by kernel_rfl) (by simp) ?_
  refine AllReadyH.cons rfl (fun K hK => ?_) AllReadyH.nil
  go_simp
  refine hK.out _ _ (HSk.out _ (HSt.out _ HBg.out _ _ _ _ _ _ _ _ _ _)) (fun hHeld => ?_)
  clear hK K
  refine wpAnyH_take (i := 13) (v := ?_) rfl (by kernel_rfl) (by kernel_rfl) (by kernel_rfl) (fun _ _ _ h => h) (Or.inl ⟨by rfl, ?_⟩) hHeld ?_
  rotate_left 1
  · intro w9 hSw; obtain ⟨⟨⟨g0, g1, g2, g3⟩, g4, g5, g6, g7⟩, g8⟩ := hSw; go_simp; try with_reducible rfl
  change wpAnyH _ _ _ _ _ _ _ (Act.put _ (some 5) _) _
  simp only [Act.put, List.setIfInBounds_toArray, List.set_cons_zero, List.set_cons_succ]
  refine wpAnyH_done (by kernel_rfl) ?_ _
  clear hHeld
  have HEnd2 : Hid (∀ u0 u1 u2 u3 u4 u5 u6 u7 u8 u9, R (.returned (.tuple #[.agg #[.string x.t.n, .string x.t.p, .slice x1 x.t.own.length y1, .slice x2 x.t.all.length y2, .slice x3 x.t.ch.length y3, .int .i64 x.t.nd, .int .i64 x.t.lf, .int .i64 x.t.sq, .bool x.s, .slice x4 l.length y4], .bool true])) (st10 wg w.heap.size u0 u1 u2 u3 u4 u5 u6 u7 u8 u9)) := HEnd.out wg _ _ _ _ HBg.out HO2.out HOw.out
  clear HEnd HO2 HOw HK HCo HNd HSk HBx HSt HBk HBf HBg HB1 HB2 HB3 B1 B2 D2
  go_wp2_with fail
  try simp only [Exit.inBlock, Exit.then]
  refine bodyPost_ret (v := .tuple #[.agg #[.string x.t.n, .string x.t.p, .slice x1 x.t.own.length y1, .slice x2 x.t.all.length y2, .slice x3 x.t.ch.length y3, .int .i64 x.t.nd, .int .i64 x.t.lf, .int .i64 x.t.sq, .bool x.s, .slice x4 l.length y4], .bool true]) ?_ rfl (HEnd2.out _ _ _ _ _ _ _ _ _ _)
  rw [results_c2 rfl]; go_simp
  first | done | exact ⟨rfl, rfl, rfl, rfl, rfl⟩
end Go.Proofs.YtlndgepoekllkaaGreatDoor
/- store's Stored by another one than the maker: its walk. -/
namespace Go.Proofs.YtlndgepoekllkaaGreatDoor
open Go.RowKit Go.ChangeMaps

set_option maxRecDepth 100000 in
set_option maxHeartbeats 1000000 in
theorem stored_other {base : Nat} {w : World} {s m g : Nat} {E : List (ByteArray × Nat)} {X : Nat → Kp} (h : StV base w s m E X) (n : ByteArray) (hn : n.size ≤ 1000000) (hL : lkS E (fldB n) = some g) (a b c N : Int) (hne : ¬ ((X g).t.nd = a ∧ (X g).t.lf = b ∧ (X g).t.sq = c)) (hT : UT w) :
    Calls Tryz.prog 14 #[stP s, .string n, idV a b c, .int .i64 N] w fun e w' => e = .returned (.tuple #[.bool false, .int .i64 4]) ∧ Below w.heap.size w w' := by
  have HFi : Hid (∀ W, Below w.heap.size w W → Calls Tryz.prog 29 #[stP s, .string n] W fun e w' => e = .returned (.pointer (some ⟨g, 0, none⟩)) ∧ Below W.heap.size W w') := fun W hb => by
    have := find_any (h.below hb) n hn (Utf8Tabs_below hT hb)
    rw [hL] at this
    exact this
  obtain ⟨hbg, vo, va, vc, h0, ho⟩ := h.kp _ (lkS_memB hL)
  dsimp only at hbg h0 ho
  obtain ⟨t, s0, f0, hX⟩ : ∃ t s0 f0, X g = ⟨t, s0, f0⟩ := ⟨_, _, _, rfl⟩
  rw [hX] at h0 ho hne
  dsimp only at hne
  have HE : Hid (∀ W : World, (if t.nd = a then if t.lf = b then if t.sq = c then Result.ok (Next.value (Value.bool false)) W else Result.ok (Next.value (Value.bool true)) W else Result.ok (Next.value (Value.bool true)) W else Result.ok (Next.value (Value.bool true)) W) = (Result.ok (Next.value (Value.bool true)) W : Result Next)) := fun W => by
    by_cases h1 : t.nd = a
    · by_cases h2 : t.lf = b
      · by_cases h3 : t.sq = c
        · exact absurd ⟨h1, h2, h3⟩ hne
        · simp [h1, h2, h3]
      · simp [h1, h2]
    · simp [h1]
  have HK : Hid (∀ W, Below w.heap.size w W → W.cell? ⟨g, 5, none⟩ = some (.int .i64 t.nd) ∧ W.cell? ⟨g, 6, none⟩ = some (.int .i64 t.lf) ∧ W.cell? ⟨g, 7, none⟩ = some (.int .i64 t.sq)) := fun W hb => by
    have hk := (hb.block _ (Array.getElem?_eq_some_iff.1 h0).1).trans h0
    exact ⟨by rw [Lib.cell_of_heap hk]; rfl, by rw [Lib.cell_of_heap hk]; rfl, by rw [Lib.cell_of_heap hk]; rfl⟩
  clear h hn hL hT hbg h0 ho hX hne
  obtain ⟨w1, hw1⟩ : ∃ w1, w1 = w.alloc (.cells #[.int .i64 a, .int .i64 b, .int .i64 c] 33) := ⟨_, rfl⟩
  have B1 : Hid (Below w.heap.size w w1) := by show Below _ _ _; rw [hw1]; exact al_b _ _
  have hn1 : w1.heap[w.heap.size]? = some (.cells #[.int .i64 a, .int .i64 b, .int .i64 c] 33 (0, 0)) := by rw [hw1]; exact new_at _ _
  have HI : Hid (∀ W, Below w1.heap.size w1 W → W.cell? ⟨w.heap.size, 0, none⟩ = some (.int .i64 a) ∧ W.cell? ⟨w.heap.size, 1, none⟩ = some (.int .i64 b) ∧ W.cell? ⟨w.heap.size, 2, none⟩ = some (.int .i64 c)) := fun W hb => by
    have hk := (hb.block _ (Array.getElem?_eq_some_iff.1 hn1).1).trans hn1
    exact ⟨by rw [Lib.cell_of_heap hk]; rfl, by rw [Lib.cell_of_heap hk]; rfl, by rw [Lib.cell_of_heap hk]; rfl⟩
  clear hn1
  go_enter Tryz.func14, Tryz.ntmps14
  go_wp2_with fail
  rw [← hw1]
  clear hw1
  refine (HFi.out _ B1.out).mono ?_
  rintro e w2 ⟨rfl, hb⟩
  have B2 : Hid (Below w.heap.size w w2) := B1.out.trans (hb.mono B1.out.size)
  have D2 : Hid (Below w1.heap.size w1 w2) := hb
  clear hb HFi
  go_wp2_with fail
  refine wp_region_quiet (C := fun w' => Below w2.heap.size w2 w') (by kernel_rfl) (by kernel_rfl) ((Below.refl _ _).drew) ?_
  dsimp only
  repeat (first
    | go_big_quiet_skip
    | (go_big_quiet_want
       apply Exists.intro
       refine ⟨fun W' hW' => ?_, ?_⟩
       · have hw : Below w2.heap.size w2 W' := hW'
         obtain ⟨i0, i1, i2⟩ := HI.out W' (D2.out.trans (hw.mono D2.out.size))
         obtain ⟨c5, c6, c7⟩ := HK.out W' (B2.out.trans (hw.mono B2.out.size))
         go_simp
         first
           | done
           | rfl
       go_big_quiet_on
       try simp only [Act.put, List.setIfInBounds_toArray, List.set_cons_zero, List.set_cons_succ]))
  go_big_quiet_want
  refine ⟨.bool true, fun W' hW' => ?_, ?_⟩
  · have hw : Below w2.heap.size w2 W' := hW'
    have := HE.out W'
    go_simp
  go_big_quiet_on
  try simp only [Act.put, List.setIfInBounds_toArray, List.set_cons_zero, List.set_cons_succ]
  repeat (first
    | go_big_quiet_skip
    | (go_big_quiet_want
       apply Exists.intro
       refine ⟨fun W' hW' => ?_, ?_⟩
       · have hw : Below w2.heap.size w2 W' := hW'
         obtain ⟨i0, i1, i2⟩ := HI.out W' (D2.out.trans (hw.mono D2.out.size))
         obtain ⟨c5, c6, c7⟩ := HK.out W' (B2.out.trans (hw.mono B2.out.size))
         go_simp
         first
           | done
           | rfl
       go_big_quiet_on
       try simp only [Act.put, List.setIfInBounds_toArray, List.set_cons_zero, List.set_cons_succ]))
  refine wpQuiet_nil ?_
  intro w3 hqw
  have B3 : Hid (Below w.heap.size w w3) := B2.out.trans (hqw.mono B2.out.size)
  clear hqw HI HK HE
  go_wp2
  refine bodyPost_ret (results_tmp2 rfl _ _ _) rfl ⟨?_, B3.out⟩
  go_simp
  try rfl
end Go.Proofs.YtlndgepoekllkaaGreatDoor
/- Stored, Begin of a name of which nothing is kept; Begin of what are no nodes: walks. -/
namespace Go.Proofs.YtlndgepoekllkaaGreatDoor
open Go.RowKit Go.ChangeMaps

set_option maxRecDepth 100000 in
set_option maxHeartbeats 1000000 in
theorem stored_none {base : Nat} {w : World} {s m : Nat} {E : List (ByteArray × Nat)} {X : Nat → Kp} (h : StV base w s m E X) (n : ByteArray) (hn : n.size ≤ 1000000) (hL : lkS E (fldB n) = none) (a b c N : Int) (hT : UT w) :
    Calls Tryz.prog 14 #[stP s, .string n, idV a b c, .int .i64 N] w fun e w' => e = .returned (.tuple #[.bool false, .int .i64 4]) ∧ Below w.heap.size w w' := by
  have HFi : Hid (∀ W, Below w.heap.size w W → Calls Tryz.prog 29 #[stP s, .string n] W fun e w' => e = .returned (.pointer none) ∧ Below W.heap.size W w') := fun W hb => by
    have := find_any (h.below hb) n hn (Utf8Tabs_below hT hb)
    rw [hL] at this
    exact this
  obtain ⟨w1, hw1⟩ : ∃ w1, w1 = w.alloc (.cells #[.int .i64 a, .int .i64 b, .int .i64 c] 33) := ⟨_, rfl⟩
  have B1 : Hid (Below w.heap.size w w1) := by show Below _ _ _; rw [hw1]; exact al_b _ _
  clear h hn hL hT
  go_enter Tryz.func14, Tryz.ntmps14
  go_wp2_with fail
  rw [← hw1]
  clear hw1
  refine (HFi.out _ B1.out).mono ?_
  rintro e w2 ⟨rfl, hb⟩
  have B2 : Hid (Below w.heap.size w w2) := B1.out.trans (hb.mono B1.out.size)
  clear hb HFi
  go_wp2_with fail
  refine wp_region_quiet (C := fun w' => Below w2.heap.size w2 w') (by kernel_rfl) (by kernel_rfl) ((Below.refl _ _).drew) ?_
  dsimp only
  repeat (first
    | go_big_quiet_skip
    | (go_big_quiet_want
       apply Exists.intro
       refine ⟨fun W' hW' => ?_, ?_⟩
       · go_simp
         first
           | done
           | rfl
       go_big_quiet_on
       try simp only [Act.put, List.setIfInBounds_toArray, List.set_cons_zero, List.set_cons_succ]))
  refine wpQuiet_nil ?_
  intro w3 hqw
  have B3 : Hid (Below w.heap.size w w3) := B2.out.trans (hqw.mono B2.out.size)
  clear hqw
  go_wp2
  refine bodyPost_ret (results_tmp2 rfl _ _ _) rfl ⟨?_, B3.out⟩
  go_simp
  try rfl
set_option maxRecDepth 100000 in
theorem begin_bad (w : World) (s : Nat) (n : ByteArray) (v : Value) (l : List Int) (hr : IsRow w 1 v l.length (iCells l)) (hl : l.length ≤ 1000000) (hP : ¬ NodesP l) :
    Calls Tryz.prog 13 #[stP s, .string n, v] w fun e w' => e = .returned (.tuple #[.bool false, .int .i64 1]) ∧ w' = w := by
  obtain ⟨a0, c0, rfl⟩ := hr.form
  have HN := nodes_any _ l w hr hl
  rw [nodesB_false hP] at HN
  clear hr hl hP
  go_enter Tryz.func13, Tryz.ntmps13
  go_wp2_with fail
  refine HN.mono ?_
  rintro e w1 ⟨rfl, rfl⟩
  go_wp2
  refine bodyPost_ret (results_tmp2 rfl _ _ _) rfl ⟨?_, rfl⟩
  go_simp
  try rfl
set_option maxRecDepth 100000 in
theorem begin_none {base : Nat} {w : World} {s m : Nat} {E : List (ByteArray × Nat)} {X : Nat → Kp} (h : StV base w s m E X) (n : ByteArray) (hn : n.size ≤ 1000000) (hL : lkS E (fldB n) = none) (v : Value) (l : List Int) (hr : IsRow w 1 v l.length (iCells l)) (hl : l.length ≤ 1000000) (hP : NodesP l) (hT : UT w) :
    Calls Tryz.prog 13 #[stP s, .string n, v] w fun e w' => e = .returned (.tuple #[.bool false, .int .i64 4]) ∧ Below w.heap.size w w' := by
  obtain ⟨a0, c0, rfl⟩ := hr.form
  have HN := nodes_any _ l w hr hl
  rw [nodesB_true hP] at HN
  have HFi := find_any h n hn hT
  rw [hL] at HFi
  have HFi : Calls Tryz.prog 29 #[stP s, .string n] w fun e w' => e = .returned (.pointer none) ∧ Below w.heap.size w w' := HFi
  clear h hn hL hT hr hl hP
  go_enter Tryz.func13, Tryz.ntmps13
  go_wp2_with fail
  refine HN.mono ?_
  rintro e w1 ⟨rfl, rfl⟩
  go_wp2_with fail
  refine HFi.mono ?_
  rintro e w2 ⟨rfl, hb⟩
  have B2 : Hid (Below w1.heap.size w1 w2) := hb
  clear hb
  go_wp2
  refine bodyPost_ret (results_tmp2 rfl _ _ _) rfl ⟨?_, B2.out⟩
  go_simp
  try rfl
end Go.Proofs.YtlndgepoekllkaaGreatDoor
/- store's Stored of a type that is kept, by its maker: its walk. -/
namespace Go.Proofs.YtlndgepoekllkaaGreatDoor
open Go.RowKit Go.ChangeMaps

set_option maxRecDepth 100000 in
set_option maxHeartbeats 4000000 in
theorem stored_no {base : Nat} {w : World} {s m g : Nat} {E : List (ByteArray × Nat)} {X : Nat → Kp} (h : StV base w s m E X) (n : ByteArray) (hn : n.size ≤ 1000000) (hL : lkS E (fldB n) = some g) (N : Int) (hT : UT w) (hb : (isN N && (X g).f N.toNat) = false) :
    Calls Tryz.prog 14 #[stP s, .string n, idV (X g).t.nd (X g).t.lf (X g).t.sq, .int .i64 N] w fun e w' => e = .returned (.tuple #[.bool false, .int .i64 4]) ∧ Below w.heap.size w w' := by
  have HFi : Hid (∀ W, Below w.heap.size w W → Calls Tryz.prog 29 #[stP s, .string n] W fun e w' => e = .returned (.pointer (some ⟨g, 0, none⟩)) ∧ Below W.heap.size W w') := fun W hb => by
    have := find_any (h.below hb) n hn (Utf8Tabs_below hT hb)
    rw [hL] at this
    exact this
  obtain ⟨hbg, vo, va, vc, h0, ho⟩ := h.kp _ (lkS_memB hL)
  dsimp only at hbg h0 ho
  obtain ⟨t, s0, f0, hX⟩ : ∃ t s0 f0, X g = ⟨t, s0, f0⟩ := ⟨_, _, _, rfl⟩
  rw [hX]
  rw [hX] at h0 ho hb
  have HK : Hid (∀ W, Below w.heap.size w W → W.cell? ⟨g, 5, none⟩ = some (.int .i64 t.nd) ∧ W.cell? ⟨g, 6, none⟩ = some (.int .i64 t.lf) ∧ W.cell? ⟨g, 7, none⟩ = some (.int .i64 t.sq)) := fun W hb => by
    have hk := (hb.block _ (Array.getElem?_eq_some_iff.1 h0).1).trans h0
    exact ⟨by rw [Lib.cell_of_heap hk]; rfl, by rw [Lib.cell_of_heap hk]; rfl, by rw [Lib.cell_of_heap hk]; rfl⟩
  have HWf : Hid (∀ W, Below w.heap.size w W → Calls Tryz.prog 42 #[.pointer (some ⟨g, 0, none⟩), .int .i64 N] W fun e w' => e = .returned (.bool false) ∧ Below W.heap.size W w') := fun W hb' => by
    have := waitsFor_any W g ⟨t, s0, f0⟩ vo va vc ((hb'.block _ (Array.getElem?_eq_some_iff.1 h0).1).trans h0) N
    dsimp only at this
    rw [hb] at this
    exact this
  clear h hn hL hT hbg h0 ho hb hX
  obtain ⟨w1, hw1⟩ : ∃ w1, w1 = w.alloc (.cells #[.int .i64 t.nd, .int .i64 t.lf, .int .i64 t.sq] 33) := ⟨_, rfl⟩
  have B1 : Hid (Below w.heap.size w w1) := by show Below _ _ _; rw [hw1]; exact al_b _ _
  have hn1 : w1.heap[w.heap.size]? = some (.cells #[.int .i64 t.nd, .int .i64 t.lf, .int .i64 t.sq] 33 (0, 0)) := by rw [hw1]; exact new_at _ _
  have HI : Hid (∀ W, Below w1.heap.size w1 W → W.cell? ⟨w.heap.size, 0, none⟩ = some (.int .i64 t.nd) ∧ W.cell? ⟨w.heap.size, 1, none⟩ = some (.int .i64 t.lf) ∧ W.cell? ⟨w.heap.size, 2, none⟩ = some (.int .i64 t.sq)) := fun W hb => by
    have hk := (hb.block _ (Array.getElem?_eq_some_iff.1 hn1).1).trans hn1
    exact ⟨by rw [Lib.cell_of_heap hk]; rfl, by rw [Lib.cell_of_heap hk]; rfl, by rw [Lib.cell_of_heap hk]; rfl⟩
  clear hn1
  go_enter Tryz.func14, Tryz.ntmps14
  go_wp2_with fail
  rw [← hw1]
  clear hw1
  refine (HFi.out _ B1.out).mono ?_
  rintro e w2 ⟨rfl, hb⟩
  have B2 : Hid (Below w.heap.size w w2) := B1.out.trans (hb.mono B1.out.size)
  have D2 : Hid (Below w1.heap.size w1 w2) := hb
  clear hb
  go_wp2_with fail
  refine wp_region_quiet (C := fun w' => Below w2.heap.size w2 w') (by kernel_rfl) (by kernel_rfl) ((Below.refl _ _).drew) ?_
  dsimp only
  repeat (first
    | go_big_quiet_skip
    | (go_big_quiet_want
       apply Exists.intro
       refine ⟨fun W' hW' => ?_, ?_⟩
       · have hw : Below w2.heap.size w2 W' := hW'
         obtain ⟨i0, i1, i2⟩ := HI.out W' (D2.out.trans (hw.mono D2.out.size))
         obtain ⟨c5, c6, c7⟩ := HK.out W' (B2.out.trans (hw.mono B2.out.size))
         go_simp
         first
           | done
           | rfl
           | (go_at_call 42; (with_reducible refine Calls.mono (HWf.out W' (B2.out.trans (hw.mono B2.out.size))) ?_); rintro e w'' ⟨rfl, hb⟩; exact ⟨rfl, hw.trans (hb.mono hw.size)⟩)
       go_big_quiet_on
       try simp only [Act.put, List.setIfInBounds_toArray, List.set_cons_zero, List.set_cons_succ]))
  refine wpQuiet_nil ?_
  intro w3 hqw
  have B3 : Hid (Below w.heap.size w w3) := B2.out.trans (hqw.mono B2.out.size)
  clear hqw
  clear HI HK HWf HFi
  go_wp2
  refine bodyPost_ret (results_tmp2 rfl _ _ _) rfl ⟨?_, B3.out⟩
  go_simp
  try rfl
end Go.Proofs.YtlndgepoekllkaaGreatDoor
/- store's Stored of a type that is kept, by its maker, when it waits for the node: its walk. -/
namespace Go.Proofs.YtlndgepoekllkaaGreatDoor
open Go.RowKit Go.ChangeMaps

set_option maxRecDepth 100000 in
set_option maxHeartbeats 4000000 in
theorem stored_yes {base : Nat} {w : World} {s m g : Nat} {E : List (ByteArray × Nat)} {X : Nat → Kp} (h : StV base w s m E X) (n : ByteArray) (hn : n.size ≤ 1000000) (hL : lkS E (fldB n) = some g) (N : Int) (hT : UT w) (hi : isN N = true) (hf : (X g).f N.toNat = true) :
    Calls Tryz.prog 14 #[stP s, .string n, idV (X g).t.nd (X g).t.lf (X g).t.sq, .int .i64 N] w fun e w' => e = .returned (.tuple #[.bool (!anyW (updW (X g).f N.toNat false)), .int .i64 0]) ∧ StV base w' s m E (upX X g ⟨(X g).t, !anyW (updW (X g).f N.toNat false), updW (X g).f N.toNat false⟩) ∧ Stp w (fun k => k = g) (fun k => k = g) w' := by
  have HFi : Hid (∀ W, Below w.heap.size w W → Calls Tryz.prog 29 #[stP s, .string n] W fun e w' => e = .returned (.pointer (some ⟨g, 0, none⟩)) ∧ Below W.heap.size W w') := fun W hb => by
    have := find_any (h.below hb) n hn (Utf8Tabs_below hT hb)
    rw [hL] at this
    exact this
  obtain ⟨hbg, vo, va, vc, h0, ho⟩ := h.kp _ (lkS_memB hL)
  dsimp only at hbg h0 ho
  obtain ⟨t, s0, f0, hX⟩ : ∃ t s0 f0, X g = ⟨t, s0, f0⟩ := ⟨_, _, _, rfl⟩
  have HEnd : Hid (∀ W W' D, Below w.heap.size w W → Onl g W W' → W'.heap[g]? = some (.cells (kpA ⟨(X g).t, D, updW (X g).f N.toNat false⟩ vo va vc) 87 (0, 0)) → StV base W' s m E (upX X g ⟨(X g).t, D, updW (X g).f N.toNat false⟩) ∧ Stp w (fun k => k = g) (fun k => k = g) W') := fun W W' D hb ho' hg' =>
    ⟨(h.below hb).upd rfl (vo := vo) (va := va) (vc := vc) ((hb.block g (Array.getElem?_eq_some_iff.1 h0).1).trans h0) (ho.below hb) hg' fun j hj _ => ho'.block j hj, Onl.stp hb ho'⟩
  obtain ⟨R, hR⟩ : ∃ R : Bool → World → Prop, R = fun D W' => StV base W' s m E (upX X g ⟨(X g).t, D, updW (X g).f N.toNat false⟩) ∧ Stp w (fun k => k = g) (fun k => k = g) W' := ⟨_, rfl⟩
  have HEnd : Hid (∀ W W' D, Below w.heap.size w W → Onl g W W' → W'.heap[g]? = some (.cells (kpA ⟨(X g).t, D, updW (X g).f N.toNat false⟩ vo va vc) 87 (0, 0)) → R D W') := fun W W' D a b c => by rw [hR]; exact HEnd.out W W' D a b c
  have hpost : ∀ (e : Ending) (w' : World), (e = .returned (.tuple #[.bool (!anyW (updW (X g).f N.toNat false)), .int .i64 0]) ∧ R (!anyW (updW (X g).f N.toNat false)) w') → (e = .returned (.tuple #[.bool (!anyW (updW (X g).f N.toNat false)), .int .i64 0]) ∧ StV base w' s m E (upX X g ⟨(X g).t, !anyW (updW (X g).f N.toNat false), updW (X g).f N.toNat false⟩) ∧ Stp w (fun k => k = g) (fun k => k = g) w') := fun e w' he => by rw [hR] at he; exact he
  refine Calls.mono ?_ hpost
  clear hpost hR
  rw [hX] at HEnd
  rw [hX]
  rw [hX] at h0 ho hf
  have HK : Hid (∀ W, Below w.heap.size w W → W.cell? ⟨g, 5, none⟩ = some (.int .i64 t.nd) ∧ W.cell? ⟨g, 6, none⟩ = some (.int .i64 t.lf) ∧ W.cell? ⟨g, 7, none⟩ = some (.int .i64 t.sq)) := fun W hb => by
    have hk := (hb.block _ (Array.getElem?_eq_some_iff.1 h0).1).trans h0
    exact ⟨by rw [Lib.cell_of_heap hk]; rfl, by rw [Lib.cell_of_heap hk]; rfl, by rw [Lib.cell_of_heap hk]; rfl⟩
  have HWf : Hid (∀ W, Below w.heap.size w W → Calls Tryz.prog 42 #[.pointer (some ⟨g, 0, none⟩), .int .i64 N] W fun e w' => e = .returned (.bool true) ∧ Below W.heap.size W w') := fun W hb' => by
    have := waitsFor_any W g ⟨t, s0, f0⟩ vo va vc ((hb'.block _ (Array.getElem?_eq_some_iff.1 h0).1).trans h0) N
    dsimp only at this
    rw [show (isN N && f0 N.toNat) = true by rw [hi, show f0 N.toNat = true from hf]; rfl] at this
    exact this
  have HK0 : Hid (∀ W, Below w.heap.size w W → W.heap[g]? = some (.cells (kpA ⟨t, s0, f0⟩ vo va vc) 87 (0, 0))) := fun W hb => (hb.block _ (Array.getElem?_eq_some_iff.1 h0).1).trans h0
  obtain ⟨j1, j2⟩ := isN_get hi
  obtain ⟨k, rfl⟩ : ∃ k : Nat, N = (k : Int) := ⟨N.toNat, by omega⟩
  rw [Int.toNat_natCast] at HEnd ⊢
  dsimp only at HEnd ⊢
  have HA : Hid (∀ W W', W'.heap[g]? = some (.cells (kpA ⟨t, s0, updW f0 k false⟩ vo va vc) 87 (0, 0)) → W = W' → Calls Tryz.prog 41 #[.pointer (some ⟨g, 0, none⟩)] W fun e w' => e = .returned (.bool (anyW (updW f0 k false))) ∧ w' = W) := fun W W' hg' e => by
    subst e
    have := waitsAll_any W g ⟨t, s0, updW f0 k false⟩ vo va vc hg'
    exact this
  obtain ⟨F, hF⟩ : ∃ F, F = updW f0 k false := ⟨_, rfl⟩
  have HKp : Hid (∀ W : World, W.heap[g]? = some (.cells (kpA ⟨t, s0, f0⟩ vo va vc) 87 (0, 0)) → (W.setCell ⟨g, 9 + k, none⟩ (.bool false)).heap[g]? = some (.cells (kpA ⟨t, s0, F⟩ vo va vc) 87 (0, 0))) := fun W hW => by rw [hF]; exact kp_step hW (by omega) false
  rw [← hF] at HA HEnd ⊢
  generalize anyW F = A at *
  have d1 : decide ((k : Int) < 0) = false := decide_eq_false (by omega)
  have d2 : decide ((k : Int) < 16) = true := decide_eq_true (by omega)
  have d3 : decide ((16 : Int) ≤ (k : Int)) = false := decide_eq_false (by omega)
  clear h hn hL hT hbg h0 ho hf hi hX hF
  obtain ⟨w1, hw1⟩ : ∃ w1, w1 = w.alloc (.cells #[.int .i64 t.nd, .int .i64 t.lf, .int .i64 t.sq] 33) := ⟨_, rfl⟩
  have B1 : Hid (Below w.heap.size w w1) := by show Below _ _ _; rw [hw1]; exact al_b _ _
  have hn1 : w1.heap[w.heap.size]? = some (.cells #[.int .i64 t.nd, .int .i64 t.lf, .int .i64 t.sq] 33 (0, 0)) := by rw [hw1]; exact new_at _ _
  have HI : Hid (∀ W, Below w1.heap.size w1 W → W.cell? ⟨w.heap.size, 0, none⟩ = some (.int .i64 t.nd) ∧ W.cell? ⟨w.heap.size, 1, none⟩ = some (.int .i64 t.lf) ∧ W.cell? ⟨w.heap.size, 2, none⟩ = some (.int .i64 t.sq)) := fun W hb => by
    have hk := (hb.block _ (Array.getElem?_eq_some_iff.1 hn1).1).trans hn1
    exact ⟨by rw [Lib.cell_of_heap hk]; rfl, by rw [Lib.cell_of_heap hk]; rfl, by rw [Lib.cell_of_heap hk]; rfl⟩
  clear hn1
  go_enter Tryz.func14, Tryz.ntmps14
  go_wp2_with fail
  rw [← hw1]
  clear hw1
  refine (HFi.out _ B1.out).mono ?_
  rintro e w2 ⟨rfl, hb⟩
  have B2 : Hid (Below w.heap.size w w2) := B1.out.trans (hb.mono B1.out.size)
  have D2 : Hid (Below w1.heap.size w1 w2) := hb
  clear hb
  go_wp2_with fail
  refine wp_region_quiet (C := fun w' => Below w2.heap.size w2 w') (by kernel_rfl) (by kernel_rfl) ((Below.refl _ _).drew) ?_
  dsimp only
  repeat (first
    | go_big_quiet_skip
    | (go_big_quiet_want
       apply Exists.intro
       refine ⟨fun W' hW' => ?_, ?_⟩
       · have hw : Below w2.heap.size w2 W' := hW'
         obtain ⟨i0, i1, i2⟩ := HI.out W' (D2.out.trans (hw.mono D2.out.size))
         obtain ⟨c5, c6, c7⟩ := HK.out W' (B2.out.trans (hw.mono B2.out.size))
         go_simp
         first
           | done
           | rfl
           | (go_at_call 42; (with_reducible refine Calls.mono (HWf.out W' (B2.out.trans (hw.mono B2.out.size))) ?_); rintro e w'' ⟨rfl, hb⟩; exact ⟨rfl, hw.trans (hb.mono hw.size)⟩)
       go_big_quiet_on
       try simp only [Act.put, List.setIfInBounds_toArray, List.set_cons_zero, List.set_cons_succ]))
  refine wpQuiet_nil ?_
  intro w3 hqw
  have B3 : Hid (Below w.heap.size w w3) := B2.out.trans (hqw.mono B2.out.size)
  clear hqw
  have hk3 := HK0.out w3 B3.out
  have hcg := kp_cell hk3 (k := k) (by omega)
  have fz : ∀ i, w3.frozen? ⟨g, i, none⟩ = false := fun i => Lib.frozen_of_heap hk3 i
  obtain ⟨w4, hw4⟩ : ∃ w4, w4 = w3.setCell ⟨g, 9 + k, none⟩ (.bool false) := ⟨_, rfl⟩
  have O4 : Hid (Onl g w3 w4) := by show Onl _ _ _; rw [hw4]; exact (Onl.refl g w3).set _ _
  have K4 : Hid (w4.heap[g]? = some (.cells (kpA ⟨t, s0, F⟩ vo va vc) 87 (0, 0))) := by show _ = _; rw [hw4]; exact HKp.out w3 hk3
  clear HI HK HWf HFi hk3 HKp HK0
  go_wp2_with fail
  rw [← hw4]
  clear hw4 hcg fz
  refine (HA.out w4 w4 K4.out rfl).mono ?_
  rintro e w5 ⟨rfl, rfl⟩
  have c8 : w5.cell? ⟨g, 8, none⟩ = some (.bool s0) := by rw [Lib.cell_of_heap K4.out]; rfl
  have fz : ∀ i, w5.frozen? ⟨g, i, none⟩ = false := fun i => Lib.frozen_of_heap K4.out i
  have HE : Hid (∀ D', D' = (!A) → R (!A) (w5.setCell ⟨g, 8, none⟩ (.bool D'))) := fun D' e => by
    subst e
    exact HEnd.out w3 _ _ B3.out (O4.out.set 8 _) ((heap_setS K4.out 8 (.bool (!A))).trans rfl)
  clear HA HEnd O4 K4
  go_wp2
  refine bodyPost_ret (results_tmp2 rfl _ _ _) rfl ⟨?_, HE.out _ (by simp)⟩
  go_simp
  try rfl
end Go.Proofs.YtlndgepoekllkaaGreatDoor
