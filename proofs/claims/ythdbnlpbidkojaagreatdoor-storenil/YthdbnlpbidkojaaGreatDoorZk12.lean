/- law17's few, StoreNil: walks. -/
import Derived.Test.YthdbnlpbidkojaaGreatDoorZk7
import Derived.Test.YthdbnlpbidkojaaGreatDoorZk10
import Derived.Test.YthdbnlpbidkojaaGreatDoorZk11
namespace Go.Proofs.YthdbnlpbidkojaaGreatDoor
open Go.RowKit Go.ChangeMaps

/-- Is an act not more than statements go through? -/
def few17B (x : Ac) : Bool := decide (x.n.size ≤ 200) && (decide (x.l.length ≤ 20) && fewL (tys [x.z]))
theorem OkAc.below {w w' : World} {x : Ac} (h : OkAc w x) (hb : Below w.heap.size w w') : OkAc w' x := ⟨⟨h.1.1.below hb, h.1.2⟩, h.2.1.below hb, h.2.2⟩
theorem isTys_one {W : World} {g : Nat} {z : LT} (h : W.heap[g]? = some (.cells (tyA z.t z.vo z.va z.vc) 35 (0, 0))) (hz : IsTy W z.t z.vo z.va z.vc) : IsTys W (.slice (some ⟨g, 0, none⟩) 1 1) [z] := by
  refine ⟨⟨rfl, .inr ⟨g, 0, 1, rfl, (Array.getElem?_eq_some_iff.1 h).1, Nat.le_refl _, by decide, fun j u hu => ?_⟩⟩, fun x hx => ?_⟩
  · rw [Lib.cell_of_heap h, Nat.zero_add]
    simpa [tCells, enT] using hu
  · rw [List.mem_singleton] at hx
    subst hx
    exact hz
set_option maxRecDepth 100000 in
set_option maxHeartbeats 4000000 in
theorem few17_any (x : Ac) (w : World) (ho : OkAc w x) : Calls Tryz.prog 8 #[acV x] w fun e w' => e = .returned (.bool (few17B x)) ∧ Below w.heap.size w w' := by
  have HF : Hid (∀ W g, Below w.heap.size w W → W.heap[g]? = some (.cells (tyA x.z.t x.z.vo x.z.va x.z.vc) 35 (0, 0)) → Calls Tryz.prog 13 #[.slice (some ⟨g, 0, none⟩) 1 1] W fun e w' => e = .returned (.bool (fewL (tys [x.z]))) ∧ Below W.heap.size W w') := fun W g hb hg => fewT_any _ [x.z] W (isTys_one hg (ho.1.1.below hb)) (by simp) fun y hy => by
    rw [List.mem_singleton] at hy
    subst hy
    exact ho.1.2
  have HD : Hid (few17B x = (decide (x.n.size ≤ 200) && (decide (x.l.length ≤ 20) && fewL (tys [x.z])))) := rfl
  generalize fewL (tys [x.z]) = F at *
  generalize few17B x = R at *
  clear ho
  obtain ⟨kd, ⟨t, ao, co, aa, ca, ac, cc⟩, n, lp, lc, l, a, b, c, i⟩ := x
  dsimp only at *
  obtain ⟨w1, hw1⟩ : ∃ w1, w1 = w.alloc (.cells (acA ⟨kd, ⟨t, ao, co, aa, ca, ac, cc⟩, n, lp, lc, l, a, b, c, i⟩) 38) := ⟨_, rfl⟩
  have B1 : Hid (Below w.heap.size w w1) := by show Below _ _ _; rw [hw1]; exact al_b _ _
  have hn1 : w1.heap[w.heap.size]? = some (.cells (acA ⟨kd, ⟨t, ao, co, aa, ca, ac, cc⟩, n, lp, lc, l, a, b, c, i⟩) 38 (0, 0)) := by rw [hw1]; exact new_at _ _
  have C1 : Hid (∀ W, Below w1.heap.size w1 W → W.heap[w.heap.size]? = some (.cells (acA ⟨kd, ⟨t, ao, co, aa, ca, ac, cc⟩, n, lp, lc, l, a, b, c, i⟩) 38 (0, 0))) := fun W h => (h.block _ (Array.getElem?_eq_some_iff.1 hn1).1).trans hn1
  clear hn1
  have hk := C1.out w1 (Below.refl _ _)
  have c1_0 : w1.cell? ⟨w.heap.size, 0, none⟩ = some (.int .i64 kd) := by rw [Lib.cell_of_heap hk]; rfl
  have c1_1 : w1.cell? ⟨w.heap.size, 1, none⟩ = some (.string t.n) := by rw [Lib.cell_of_heap hk]; rfl
  have c1_2 : w1.cell? ⟨w.heap.size, 2, none⟩ = some (.string t.p) := by rw [Lib.cell_of_heap hk]; rfl
  have c1_3 : w1.cell? ⟨w.heap.size, 3, none⟩ = some (.slice ao t.own.length co) := by rw [Lib.cell_of_heap hk]; rfl
  have c1_4 : w1.cell? ⟨w.heap.size, 4, none⟩ = some (.slice aa t.all.length ca) := by rw [Lib.cell_of_heap hk]; rfl
  have c1_5 : w1.cell? ⟨w.heap.size, 5, none⟩ = some (.slice ac t.ch.length cc) := by rw [Lib.cell_of_heap hk]; rfl
  have c1_6 : w1.cell? ⟨w.heap.size, 6, none⟩ = some (.int .i64 t.nd) := by rw [Lib.cell_of_heap hk]; rfl
  have c1_7 : w1.cell? ⟨w.heap.size, 7, none⟩ = some (.int .i64 t.lf) := by rw [Lib.cell_of_heap hk]; rfl
  have c1_8 : w1.cell? ⟨w.heap.size, 8, none⟩ = some (.int .i64 t.sq) := by rw [Lib.cell_of_heap hk]; rfl
  have c1_9 : w1.cell? ⟨w.heap.size, 9, none⟩ = some (.string n) := by rw [Lib.cell_of_heap hk]; rfl
  have c1_10 : w1.cell? ⟨w.heap.size, 10, none⟩ = some (.slice lp l.length lc) := by rw [Lib.cell_of_heap hk]; rfl
  have c1_11 : w1.cell? ⟨w.heap.size, 11, none⟩ = some (.int .i64 a) := by rw [Lib.cell_of_heap hk]; rfl
  have c1_12 : w1.cell? ⟨w.heap.size, 12, none⟩ = some (.int .i64 b) := by rw [Lib.cell_of_heap hk]; rfl
  have c1_13 : w1.cell? ⟨w.heap.size, 13, none⟩ = some (.int .i64 c) := by rw [Lib.cell_of_heap hk]; rfl
  have c1_14 : w1.cell? ⟨w.heap.size, 14, none⟩ = some (.int .i64 i) := by rw [Lib.cell_of_heap hk]; rfl
  clear hk
  by_cases h1 : n.size ≤ 200
  rotate_left
  · have hR : R = false := by rw [HD.out, decide_eq_false h1, Bool.false_and]
    have d1 : decide ((n.size : Int) ≤ 200) = false := by simp; omega
    subst hR
    clear HD HF h1
    rw [hw1] at c1_0 c1_1 c1_2 c1_3 c1_4 c1_5 c1_6 c1_7 c1_8 c1_9 c1_10 c1_11 c1_12 c1_13 c1_14
    go_enter Tryz.func8, Tryz.ntmps8
    go_wp2
    rw [← hw1]
    go_ret
    exact ⟨rfl, B1.out⟩
  have d1 : decide ((n.size : Int) ≤ 200) = true := by simp; omega
  by_cases h2 : l.length ≤ 20
  rotate_left
  · have hR : R = false := by rw [HD.out, decide_eq_false h2, Bool.false_and, Bool.and_false]
    have d2 : decide ((l.length : Int) ≤ 20) = false := by simp; omega
    subst hR
    clear HD HF h1 h2
    rw [hw1] at c1_0 c1_1 c1_2 c1_3 c1_4 c1_5 c1_6 c1_7 c1_8 c1_9 c1_10 c1_11 c1_12 c1_13 c1_14
    go_enter Tryz.func8, Tryz.ntmps8
    go_wp2
    rw [← hw1]
    go_ret
    exact ⟨rfl, B1.out⟩
  have d2 : decide ((l.length : Int) ≤ 20) = true := by simp; omega
  have hR : R = F := by rw [HD.out, decide_eq_true h1, decide_eq_true h2, Bool.true_and, Bool.true_and]
  subst hR
  clear HD h1 h2
  rw [hw1] at c1_0 c1_1 c1_2 c1_3 c1_4 c1_5 c1_6 c1_7 c1_8 c1_9 c1_10 c1_11 c1_12 c1_13 c1_14
  go_enter Tryz.func8, Tryz.ntmps8
  go_upto_region 1 with fail
  rw [← hw1]
  clear hw1 c1_0 c1_1 c1_2 c1_3 c1_4 c1_5 c1_6 c1_7 c1_8 c1_9 c1_10 c1_11 c1_12 c1_13 c1_14
  obtain ⟨w2, hw2⟩ : ∃ w2, w2 = w1.alloc (.cells (tyA t (.slice ao t.own.length co) (.slice aa t.all.length ca) (.slice ac t.ch.length cc)) 35) := ⟨_, rfl⟩
  have B2 : Hid (Below w1.heap.size w1 w2) := by show Below _ _ _; rw [hw2]; exact al_b _ _
  have hn2 : w2.heap[w1.heap.size]? = some (.cells (tyA t (.slice ao t.own.length co) (.slice aa t.all.length ca) (.slice ac t.ch.length cc)) 35 (0, 0)) := by rw [hw2]; exact new_at _ _
  have C2 : Hid (∀ W, Below w2.heap.size w2 W → W.heap[w1.heap.size]? = some (.cells (tyA t (.slice ao t.own.length co) (.slice aa t.all.length ca) (.slice ac t.ch.length cc)) 35 (0, 0))) := fun W h => (h.block _ (Array.getElem?_eq_some_iff.1 hn2).1).trans hn2
  clear hn2
  have HFk := HF.out _ w1.heap.size (bTS B1.out B2.out) (C2.out _ (Below.refl _ _))
  clear HF
  have hk := C1.out w1 (Below.refl _ _)
  have c1_0 : w1.cell? ⟨w.heap.size, 0, none⟩ = some (.int .i64 kd) := by rw [Lib.cell_of_heap hk]; rfl
  have c1_1 : w1.cell? ⟨w.heap.size, 1, none⟩ = some (.string t.n) := by rw [Lib.cell_of_heap hk]; rfl
  have c1_2 : w1.cell? ⟨w.heap.size, 2, none⟩ = some (.string t.p) := by rw [Lib.cell_of_heap hk]; rfl
  have c1_3 : w1.cell? ⟨w.heap.size, 3, none⟩ = some (.slice ao t.own.length co) := by rw [Lib.cell_of_heap hk]; rfl
  have c1_4 : w1.cell? ⟨w.heap.size, 4, none⟩ = some (.slice aa t.all.length ca) := by rw [Lib.cell_of_heap hk]; rfl
  have c1_5 : w1.cell? ⟨w.heap.size, 5, none⟩ = some (.slice ac t.ch.length cc) := by rw [Lib.cell_of_heap hk]; rfl
  have c1_6 : w1.cell? ⟨w.heap.size, 6, none⟩ = some (.int .i64 t.nd) := by rw [Lib.cell_of_heap hk]; rfl
  have c1_7 : w1.cell? ⟨w.heap.size, 7, none⟩ = some (.int .i64 t.lf) := by rw [Lib.cell_of_heap hk]; rfl
  have c1_8 : w1.cell? ⟨w.heap.size, 8, none⟩ = some (.int .i64 t.sq) := by rw [Lib.cell_of_heap hk]; rfl
  have c1_9 : w1.cell? ⟨w.heap.size, 9, none⟩ = some (.string n) := by rw [Lib.cell_of_heap hk]; rfl
  have c1_10 : w1.cell? ⟨w.heap.size, 10, none⟩ = some (.slice lp l.length lc) := by rw [Lib.cell_of_heap hk]; rfl
  have c1_11 : w1.cell? ⟨w.heap.size, 11, none⟩ = some (.int .i64 a) := by rw [Lib.cell_of_heap hk]; rfl
  have c1_12 : w1.cell? ⟨w.heap.size, 12, none⟩ = some (.int .i64 b) := by rw [Lib.cell_of_heap hk]; rfl
  have c1_13 : w1.cell? ⟨w.heap.size, 13, none⟩ = some (.int .i64 c) := by rw [Lib.cell_of_heap hk]; rfl
  have c1_14 : w1.cell? ⟨w.heap.size, 14, none⟩ = some (.int .i64 i) := by rw [Lib.cell_of_heap hk]; rfl
  clear hk
  go_wp2_with fail
  rw [← hw2]
  clear hw2
  clear c1_0 c1_1 c1_2 c1_3 c1_4 c1_5 c1_6 c1_7 c1_8 c1_9 c1_10 c1_11 c1_12 c1_13 c1_14
  refine (HFk).mono ?_
  rintro e w3 ⟨rfl, hb⟩
  have B3 : Hid (Below w2.heap.size w2 w3) := hb
  clear hb 
  have HBz : Hid (Below w.heap.size w w3) := (bTS (bTS B1.out B2.out) B3.out)
  go_wp2
  go_ret
  exact ⟨rfl, HBz.out⟩
set_option maxRecDepth 100000 in
set_option maxHeartbeats 4000000 in
theorem storeNil_walk (x : Ac) (w : World) (ho : OkAc w x) (hT : UT w) (hM : ML w) : Calls Tryz.prog 5 #[acV x] w fun e w' => e = .returned (.bool true) ∧ Below w.heap.size w w' := by
  have HF : Hid (∀ W, Below w.heap.size w W → Calls Tryz.prog 8 #[acV x] W fun e w' => e = .returned (.bool (few17B x)) ∧ Below W.heap.size W w') := fun W hb => few17_any x W (ho.below hb)
  have HA : Hid (∀ W, Below w.heap.size w W → Calls Tryz.prog 7 #[] W fun e w' => e = .returned (.bool true) ∧ Below W.heap.size W w') := fun W hb => awake17_any W (Utf8Tabs_below hT hb) (ML_below hM hb)
  have HSm : Hid (∀ W, Calls Tryz.prog 14 #[zTyV, zTyV] W fun e w' => e = .returned (.bool true) ∧ Below W.heap.size W w') := fun W => by
    have := sameT_any ⟨zT, none, 0, none, 0, none, 0⟩ ⟨zT, none, 0, none, 0, none, 0⟩ W ⟨IsRow.nil _ _, IsRow.nil _ _, IsRow.nil _ _⟩ ⟨IsRow.nil _ _, IsRow.nil _ _, IsRow.nil _ _⟩ (by decide) (by decide)
    rw [show sameT (LT.t ⟨zT, none, 0, none, 0, none, 0⟩) (LT.t ⟨zT, none, 0, none, 0, none, 0⟩) = true from (sameT_iff _ _).2 rfl] at this
    exact this
  have HPu : Hid (∀ W, Below w.heap.size w W → Calls Tryz.prog 15 #[nilS, ltV x.z] W fun e w' => e = .returned (.tuple #[zTyV, .int .i64 1]) ∧ Below W.heap.size W w') := fun W hb => putS_nil _ _ _ _ W (ho.1.1.below hb)
  have HSe : Hid (∀ W, Calls Tryz.prog 23 #[nilS, ltV x.z] W fun e w' => e = .returned (.int .i64 1) ∧ Below W.heap.size W w') := fun W => setS_nil _ _ _ _ W
  have HFd : Hid (∀ W, Calls Tryz.prog 11 #[nilS, .string x.n] W fun e w' => e = .returned (.tuple #[zKpV, .bool false]) ∧ Below W.heap.size W w') := fun W => findS_nil _ W
  have HBe : Hid (∀ W, Calls Tryz.prog 20 #[nilS, .string x.n, .slice x.lp x.l.length x.lc] W fun e w' => e = .returned (.tuple #[.bool false, .int .i64 1]) ∧ Below W.heap.size W w') := fun W => beginS_nil _ _ W
  have HSt : Hid (∀ W, Calls Tryz.prog 21 #[nilS, .string x.n, idV x.a x.b x.c, .int .i64 x.i] W fun e w' => e = .returned (.tuple #[.bool false, .int .i64 1]) ∧ Below W.heap.size W w') := fun W => storedS_nil _ _ _ _ _ W
  have HLo : Hid (∀ W, Calls Tryz.prog 22 #[nilS] W fun e w' => e = .returned (.tuple #[]) ∧ Below W.heap.size W w') := loosenS_nil
  have HAl : Hid (∀ W, Calls Tryz.prog 16 #[nilS] W fun e w' => e = .returned (.slice none 0 0) ∧ Below W.heap.size W w') := allS_nil
  have HWa : Hid (∀ W, Calls Tryz.prog 24 #[nilS] W fun e w' => e = .returned (.int .i64 0) ∧ Below W.heap.size W w') := waitsS_nil
  clear ho hT hM
  obtain ⟨F, HFe⟩ : ∃ F, Hid (few17B x = F) := ⟨_, rfl⟩
  rw [HFe.out] at HF
  clear HFe
  obtain ⟨kd, ⟨t, ao, co, aa, ca, ac, cc⟩, n, lp, lc, l, a, b, c, i⟩ := x
  dsimp only [LT.vo, LT.va, LT.vc] at *
  obtain ⟨w1, hw1⟩ : ∃ w1, w1 = w.alloc (.cells (acA ⟨kd, ⟨t, ao, co, aa, ca, ac, cc⟩, n, lp, lc, l, a, b, c, i⟩) 38) := ⟨_, rfl⟩
  have B1 : Hid (Below w.heap.size w w1) := by show Below _ _ _; rw [hw1]; exact al_b _ _
  have hn1 : w1.heap[w.heap.size]? = some (.cells (acA ⟨kd, ⟨t, ao, co, aa, ca, ac, cc⟩, n, lp, lc, l, a, b, c, i⟩) 38 (0, 0)) := by rw [hw1]; exact new_at _ _
  have C1 : Hid (∀ W, Below w1.heap.size w1 W → W.heap[w.heap.size]? = some (.cells (acA ⟨kd, ⟨t, ao, co, aa, ca, ac, cc⟩, n, lp, lc, l, a, b, c, i⟩) 38 (0, 0))) := fun W h => (h.block _ (Array.getElem?_eq_some_iff.1 hn1).1).trans hn1
  clear hn1
  have hk := C1.out w1 (Below.refl _ _)
  have c1_0 : w1.cell? ⟨w.heap.size, 0, none⟩ = some (.int .i64 kd) := by rw [Lib.cell_of_heap hk]; rfl
  have c1_1 : w1.cell? ⟨w.heap.size, 1, none⟩ = some (.string t.n) := by rw [Lib.cell_of_heap hk]; rfl
  have c1_2 : w1.cell? ⟨w.heap.size, 2, none⟩ = some (.string t.p) := by rw [Lib.cell_of_heap hk]; rfl
  have c1_3 : w1.cell? ⟨w.heap.size, 3, none⟩ = some (.slice ao t.own.length co) := by rw [Lib.cell_of_heap hk]; rfl
  have c1_4 : w1.cell? ⟨w.heap.size, 4, none⟩ = some (.slice aa t.all.length ca) := by rw [Lib.cell_of_heap hk]; rfl
  have c1_5 : w1.cell? ⟨w.heap.size, 5, none⟩ = some (.slice ac t.ch.length cc) := by rw [Lib.cell_of_heap hk]; rfl
  have c1_6 : w1.cell? ⟨w.heap.size, 6, none⟩ = some (.int .i64 t.nd) := by rw [Lib.cell_of_heap hk]; rfl
  have c1_7 : w1.cell? ⟨w.heap.size, 7, none⟩ = some (.int .i64 t.lf) := by rw [Lib.cell_of_heap hk]; rfl
  have c1_8 : w1.cell? ⟨w.heap.size, 8, none⟩ = some (.int .i64 t.sq) := by rw [Lib.cell_of_heap hk]; rfl
  have c1_9 : w1.cell? ⟨w.heap.size, 9, none⟩ = some (.string n) := by rw [Lib.cell_of_heap hk]; rfl
  have c1_10 : w1.cell? ⟨w.heap.size, 10, none⟩ = some (.slice lp l.length lc) := by rw [Lib.cell_of_heap hk]; rfl
  have c1_11 : w1.cell? ⟨w.heap.size, 11, none⟩ = some (.int .i64 a) := by rw [Lib.cell_of_heap hk]; rfl
  have c1_12 : w1.cell? ⟨w.heap.size, 12, none⟩ = some (.int .i64 b) := by rw [Lib.cell_of_heap hk]; rfl
  have c1_13 : w1.cell? ⟨w.heap.size, 13, none⟩ = some (.int .i64 c) := by rw [Lib.cell_of_heap hk]; rfl
  have c1_14 : w1.cell? ⟨w.heap.size, 14, none⟩ = some (.int .i64 i) := by rw [Lib.cell_of_heap hk]; rfl
  clear hk
  rw [hw1] at c1_0 c1_1 c1_2 c1_3 c1_4 c1_5 c1_6 c1_7 c1_8 c1_9 c1_10 c1_11 c1_12 c1_13 c1_14
  go_enter Tryz.func5, Tryz.ntmps5
  go_wp2_with fail
  rw [← hw1]
  clear hw1
  clear c1_0 c1_1 c1_2 c1_3 c1_4 c1_5 c1_6 c1_7 c1_8 c1_9 c1_10 c1_11 c1_12 c1_13 c1_14
  refine (HF.out _ B1.out).mono ?_
  rintro e w2 ⟨rfl, hb⟩
  have B2 : Hid (Below w1.heap.size w1 w2) := hb
  clear hb HF
  cases F
  · clear HSm HPu HSe HFd HBe HSt HLo HAl HWa
    go_wp2_with fail
    refine (HA.out _ (bTS B1.out B2.out)).mono ?_
    rintro e w3 ⟨rfl, hb⟩
    have B3 : Hid (Below w2.heap.size w2 w3) := hb
    clear hb 
    have HBz : Hid (Below w.heap.size w w3) := (bTS (bTS B1.out B2.out) B3.out)
    go_wp2
    go_ret
    exact ⟨rfl, HBz.out⟩
  have hk := C1.out w2 B2.out
  have c1_1 : w2.cell? ⟨w.heap.size, 1, none⟩ = some (.string t.n) := by rw [Lib.cell_of_heap hk]; rfl
  have c1_2 : w2.cell? ⟨w.heap.size, 2, none⟩ = some (.string t.p) := by rw [Lib.cell_of_heap hk]; rfl
  have c1_3 : w2.cell? ⟨w.heap.size, 3, none⟩ = some (.slice ao t.own.length co) := by rw [Lib.cell_of_heap hk]; rfl
  have c1_4 : w2.cell? ⟨w.heap.size, 4, none⟩ = some (.slice aa t.all.length ca) := by rw [Lib.cell_of_heap hk]; rfl
  have c1_5 : w2.cell? ⟨w.heap.size, 5, none⟩ = some (.slice ac t.ch.length cc) := by rw [Lib.cell_of_heap hk]; rfl
  have c1_6 : w2.cell? ⟨w.heap.size, 6, none⟩ = some (.int .i64 t.nd) := by rw [Lib.cell_of_heap hk]; rfl
  have c1_7 : w2.cell? ⟨w.heap.size, 7, none⟩ = some (.int .i64 t.lf) := by rw [Lib.cell_of_heap hk]; rfl
  have c1_8 : w2.cell? ⟨w.heap.size, 8, none⟩ = some (.int .i64 t.sq) := by rw [Lib.cell_of_heap hk]; rfl
  clear hk
  go_wp2_with fail
  clear c1_1 c1_2 c1_3 c1_4 c1_5 c1_6 c1_7 c1_8
  refine (HPu.out _ (bTS B1.out B2.out)).mono ?_
  rintro e w3 ⟨rfl, hb⟩
  have B3 : Hid (Below w2.heap.size w2 w3) := hb
  clear hb HPu
  obtain ⟨w4, hw4⟩ : ∃ w4, w4 = w3.alloc (.cells zTyA 35) := ⟨_, rfl⟩
  have B4 : Hid (Below w3.heap.size w3 w4) := by show Below _ _ _; rw [hw4]; exact al_b _ _
  have hn4 : w4.heap[w3.heap.size]? = some (.cells zTyA 35 (0, 0)) := by rw [hw4]; exact new_at _ _
  have C4 : Hid (∀ W, Below w4.heap.size w4 W → W.heap[w3.heap.size]? = some (.cells zTyA 35 (0, 0))) := fun W h => (h.block _ (Array.getElem?_eq_some_iff.1 hn4).1).trans hn4
  clear hn4
  go_upto_region 5 with fail
  rw [← hw4]
  clear hw4
  have hk := C1.out w4 (bTS (bTS B2.out B3.out) B4.out)
  have c1_9 : w4.cell? ⟨w.heap.size, 9, none⟩ = some (.string n) := by rw [Lib.cell_of_heap hk]; rfl
  clear hk
  go_wp2_with fail
  clear c1_9
  refine (HFd.out _).mono ?_
  rintro e w5 ⟨rfl, hb⟩
  have B5 : Hid (Below w4.heap.size w4 w5) := hb
  clear hb HFd
  obtain ⟨w6, hw6⟩ : ∃ w6, w6 = w5.alloc (.cells zKpA 43) := ⟨_, rfl⟩
  have B6 : Hid (Below w5.heap.size w5 w6) := by show Below _ _ _; rw [hw6]; exact al_b _ _
  have hn6 : w6.heap[w5.heap.size]? = some (.cells zKpA 43 (0, 0)) := by rw [hw6]; exact new_at _ _
  have C6 : Hid (∀ W, Below w6.heap.size w6 W → W.heap[w5.heap.size]? = some (.cells zKpA 43 (0, 0))) := fun W h => (h.block _ (Array.getElem?_eq_some_iff.1 hn6).1).trans hn6
  clear hn6
  go_upto_region 6 with fail
  rw [← hw6]
  clear hw6
  have hk := C1.out w6 (bTS (bTS (bTS (bTS B2.out B3.out) B4.out) B5.out) B6.out)
  have c1_9 : w6.cell? ⟨w.heap.size, 9, none⟩ = some (.string n) := by rw [Lib.cell_of_heap hk]; rfl
  have c1_10 : w6.cell? ⟨w.heap.size, 10, none⟩ = some (.slice lp l.length lc) := by rw [Lib.cell_of_heap hk]; rfl
  clear hk
  go_wp2_with fail
  clear c1_9 c1_10
  refine (HBe.out _).mono ?_
  rintro e w7 ⟨rfl, hb⟩
  have B7 : Hid (Below w6.heap.size w6 w7) := hb
  clear hb HBe
  have hk := C1.out w7 (bTS (bTS (bTS (bTS (bTS B2.out B3.out) B4.out) B5.out) B6.out) B7.out)
  have c1_9 : w7.cell? ⟨w.heap.size, 9, none⟩ = some (.string n) := by rw [Lib.cell_of_heap hk]; rfl
  have c1_11 : w7.cell? ⟨w.heap.size, 11, none⟩ = some (.int .i64 a) := by rw [Lib.cell_of_heap hk]; rfl
  have c1_12 : w7.cell? ⟨w.heap.size, 12, none⟩ = some (.int .i64 b) := by rw [Lib.cell_of_heap hk]; rfl
  have c1_13 : w7.cell? ⟨w.heap.size, 13, none⟩ = some (.int .i64 c) := by rw [Lib.cell_of_heap hk]; rfl
  have c1_14 : w7.cell? ⟨w.heap.size, 14, none⟩ = some (.int .i64 i) := by rw [Lib.cell_of_heap hk]; rfl
  clear hk
  go_wp2_with fail
  clear c1_9 c1_11 c1_12 c1_13 c1_14
  refine (HSt.out _).mono ?_
  rintro e w8 ⟨rfl, hb⟩
  have B8 : Hid (Below w7.heap.size w7 w8) := hb
  clear hb HSt
  go_wp2_with fail
  refine (HLo.out _).mono ?_
  rintro e w9 ⟨rfl, hb⟩
  have B9 : Hid (Below w8.heap.size w8 w9) := hb
  clear hb HLo
  go_wp2_with fail
  refine (HA.out _ (bTS (bTS (bTS (bTS (bTS (bTS (bTS (bTS B1.out B2.out) B3.out) B4.out) B5.out) B6.out) B7.out) B8.out) B9.out)).mono ?_
  rintro e w10 ⟨rfl, hb⟩
  have B10 : Hid (Below w9.heap.size w9 w10) := hb
  clear hb HA
  have hk := C4.out w10 (bTS (bTS (bTS (bTS (bTS B5.out B6.out) B7.out) B8.out) B9.out) B10.out)
  have c4_0 : w10.cell? ⟨w3.heap.size, 0, none⟩ = some (.string ⟨#[]⟩) := by rw [Lib.cell_of_heap hk]; rfl
  have c4_1 : w10.cell? ⟨w3.heap.size, 1, none⟩ = some (.string ⟨#[]⟩) := by rw [Lib.cell_of_heap hk]; rfl
  have c4_2 : w10.cell? ⟨w3.heap.size, 2, none⟩ = some (.slice none 0 0) := by rw [Lib.cell_of_heap hk]; rfl
  have c4_3 : w10.cell? ⟨w3.heap.size, 3, none⟩ = some (.slice none 0 0) := by rw [Lib.cell_of_heap hk]; rfl
  have c4_4 : w10.cell? ⟨w3.heap.size, 4, none⟩ = some (.slice none 0 0) := by rw [Lib.cell_of_heap hk]; rfl
  have c4_5 : w10.cell? ⟨w3.heap.size, 5, none⟩ = some (.int .i64 0) := by rw [Lib.cell_of_heap hk]; rfl
  have c4_6 : w10.cell? ⟨w3.heap.size, 6, none⟩ = some (.int .i64 0) := by rw [Lib.cell_of_heap hk]; rfl
  have c4_7 : w10.cell? ⟨w3.heap.size, 7, none⟩ = some (.int .i64 0) := by rw [Lib.cell_of_heap hk]; rfl
  clear hk
  go_wp2_with fail
  clear c4_0 c4_1 c4_2 c4_3 c4_4 c4_5 c4_6 c4_7
  refine (HSm.out _).mono ?_
  rintro e w11 ⟨rfl, hb⟩
  have B11 : Hid (Below w10.heap.size w10 w11) := hb
  clear hb HSm
  have hk := C1.out w11 (bTS (bTS (bTS (bTS (bTS (bTS (bTS (bTS (bTS B2.out B3.out) B4.out) B5.out) B6.out) B7.out) B8.out) B9.out) B10.out) B11.out)
  have c1_1 : w11.cell? ⟨w.heap.size, 1, none⟩ = some (.string t.n) := by rw [Lib.cell_of_heap hk]; rfl
  have c1_2 : w11.cell? ⟨w.heap.size, 2, none⟩ = some (.string t.p) := by rw [Lib.cell_of_heap hk]; rfl
  have c1_3 : w11.cell? ⟨w.heap.size, 3, none⟩ = some (.slice ao t.own.length co) := by rw [Lib.cell_of_heap hk]; rfl
  have c1_4 : w11.cell? ⟨w.heap.size, 4, none⟩ = some (.slice aa t.all.length ca) := by rw [Lib.cell_of_heap hk]; rfl
  have c1_5 : w11.cell? ⟨w.heap.size, 5, none⟩ = some (.slice ac t.ch.length cc) := by rw [Lib.cell_of_heap hk]; rfl
  have c1_6 : w11.cell? ⟨w.heap.size, 6, none⟩ = some (.int .i64 t.nd) := by rw [Lib.cell_of_heap hk]; rfl
  have c1_7 : w11.cell? ⟨w.heap.size, 7, none⟩ = some (.int .i64 t.lf) := by rw [Lib.cell_of_heap hk]; rfl
  have c1_8 : w11.cell? ⟨w.heap.size, 8, none⟩ = some (.int .i64 t.sq) := by rw [Lib.cell_of_heap hk]; rfl
  clear hk
  go_wp2_with fail
  clear c1_1 c1_2 c1_3 c1_4 c1_5 c1_6 c1_7 c1_8
  refine (HSe.out _).mono ?_
  rintro e w12 ⟨rfl, hb⟩
  have B12 : Hid (Below w11.heap.size w11 w12) := hb
  clear hb HSe
  have hk := C6.out w12 (bTS (bTS (bTS (bTS (bTS B7.out B8.out) B9.out) B10.out) B11.out) B12.out)
  have c6_8 : w12.cell? ⟨w5.heap.size, 8, none⟩ = some (.bool false) := by rw [Lib.cell_of_heap hk]; rfl
  clear hk
  go_wp2_with fail
  clear c6_8
  refine (HAl.out _).mono ?_
  rintro e w13 ⟨rfl, hb⟩
  have B13 : Hid (Below w12.heap.size w12 w13) := hb
  clear hb HAl
  go_wp2_with fail
  refine (HWa.out _).mono ?_
  rintro e w14 ⟨rfl, hb⟩
  have B14 : Hid (Below w13.heap.size w13 w14) := hb
  clear hb HWa
  have HBz : Hid (Below w.heap.size w w14) := (bTS (bTS (bTS (bTS (bTS (bTS (bTS (bTS (bTS (bTS (bTS (bTS (bTS B1.out B2.out) B3.out) B4.out) B5.out) B6.out) B7.out) B8.out) B9.out) B10.out) B11.out) B12.out) B13.out) B14.out)
  go_wp2
  go_ret
  exact ⟨rfl, HBz.out⟩
end Go.Proofs.YthdbnlpbidkojaaGreatDoor
