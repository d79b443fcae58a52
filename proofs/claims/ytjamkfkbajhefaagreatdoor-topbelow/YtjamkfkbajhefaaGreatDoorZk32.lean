/- TopBelow: its walk. -/
import Derived.Test.YtjamkfkbajhefaaGreatDoorZk29
import Derived.Test.YtjamkfkbajhefaaGreatDoorZk30
import Derived.Test.YtjamkfkbajhefaaGreatDoorZk28
import Derived.Test.YtjamkfkbajhefaaGreatDoorZk27
import Derived.Test.YtjamkfkbajhefaaGreatDoorZk26
import Derived.Test.YtjamkfkbajhefaaGreatDoorZk31
import Derived.Test.YtjamkfkbajhefaaGreatDoorZk8
import Derived.Deep.DeepCutAuto
namespace Go.Proofs.YtjamkfkbajhefaaGreatDoor.F
open Go.RowKit Go.ChangeMaps

theorem fewA_shortB {l : List At} (h : fewA l = true) : l.length ≤ 41 ∧ NmA l := by
  have h' := of_decide_eq_true h
  have hx : ∀ x ∈ l, x.n.size ≤ 200 ∧ x.s.size ≤ 500 := fun x hx => by
    obtain ⟨k, hk, rfl⟩ := List.getElem_of_mem hx
    exact (h' k hk).2
  refine ⟨?_, fun x hx' => by have := hx x hx'; omega⟩
  rcases Nat.lt_or_ge 41 l.length with q | q
  · have := (h' 41 q).1; omega
  · exact q
theorem few8_nmB {D : List Pd} (h : few8 D = true) : D.length ≤ 21 ∧ ∀ y ∈ D, NmP y := by
  unfold few8 at h
  rw [Bool.and_eq_true, decide_eq_true_eq, List.all_eq_true] at h
  refine ⟨h.1, fun y hy => ?_⟩
  have h2 := h.2 y hy
  unfold okP at h2
  rw [Bool.and_eq_true, Bool.and_eq_true, decide_eq_true_eq, decide_eq_true_eq, List.all_eq_true] at h2
  refine ⟨by omega, by omega, fun x hx => ?_⟩
  have := of_decide_eq_true (h2.2.2 x hx)
  omega
/-- What is kept of an event, where it lies. -/
def CtK (w : World) (K : List At) (p : Value) (wx : World) : Prop := ∃ g x y, p = .pointer (some ⟨g, 0, none⟩) ∧ Hid (wx.cell? ⟨g, 4, none⟩ = some (.slice x K.length y)) ∧ Hid (g < wx.heap.size) ∧ Hid (IsRow wx 4 (.slice x K.length y) K.length (aCells K)) ∧ Hid (Below w.heap.size w wx)
abbrev st5 (W : World) (g : Nat) (u0 u1 u2 u3 u4 : Value) : World := ((((W.setCell ⟨g, 0, none⟩ u0).setCell ⟨g, 1, none⟩ u1).setCell ⟨g, 2, none⟩ u2).setCell ⟨g, 3, none⟩ u3).setCell ⟨g, 4, none⟩ u4
theorem st5_bel {w W : World} {B g : Nat} (h : Below B w W) (hg : B ≤ g) (u0 u1 u2 u3 u4 : Value) : Below B w (st5 W g u0 u1 u2 u3 u4) :=
  ((((h.setCell (p := ⟨g, 0, none⟩) hg u0).setCell (p := ⟨g, 1, none⟩) hg u1).setCell (p := ⟨g, 2, none⟩) hg u2).setCell (p := ⟨g, 3, none⟩) hg u3).setCell (p := ⟨g, 4, none⟩) hg u4
theorem set_size (W : World) (a : Addr) (v : Value) : (W.setCell a v).heap.size = W.heap.size := by
  show (W.heap.modify _ _).size = _
  simp
theorem st5_size (W : World) (g : Nat) (u0 u1 u2 u3 u4 : Value) : (st5 W g u0 u1 u2 u3 u4).heap.size = W.heap.size := by
  unfold st5
  simp only [set_size]
theorem st5_at {W : World} {g : Nat} {C : Array Value} {ty : TypeId} {z : Nat × Nat} (h : W.heap[g]? = some (.cells C ty z)) (hC : C.size = 5) (u0 u1 u2 u3 u4 : Value) : (st5 W g u0 u1 u2 u3 u4).cell? ⟨g, 4, none⟩ = some u4 := by
  have s : ∀ {W : World} {C : Array Value} (h : W.heap[g]? = some (.cells C ty z)) (j : Nat) (v : Value), (W.setCell ⟨g, j, none⟩ v).heap[g]? = some (.cells (C.setIfInBounds j v) ty z) := fun h j v => by
    show (Array.modify _ g _)[g]? = _
    rw [Array.getElem?_modify, if_pos rfl, h]
    rfl
  have e := s (s (s (s (s h 0 u0) 1 u1) 2 u2) 3 u3) 4 u4
  unfold st5
  rw [Lib.cell_of_heap e]
  simp [hC]
theorem ctk_a {w W4 : World} {K : List At} {x : Option Addr} {y : Nat} {o : Obj} {C : Array Value} {ty : TypeId} (ho : o = .cells C ty (0, 0)) (hC : C.size = 5) (hB : Below w.heap.size w W4) (hr : IsRow W4 4 (.slice x K.length y) K.length (aCells K)) (u0 u1 u2 u3 : Value) :
    CtK w K (.pointer (some ⟨W4.heap.size, 0, none⟩)) (st5 (W4.alloc o) W4.heap.size u0 u1 u2 u3 (.slice x K.length y)) := by
  subst ho
  have h1 : Below W4.heap.size W4 (st5 (W4.alloc (.cells C ty (0, 0))) W4.heap.size u0 u1 u2 u3 (.slice x K.length y)) := st5_bel (al_b W4 _) (Nat.le_refl _) _ _ _ _ _
  refine ⟨_, x, y, rfl, st5_at (new_at W4 _) hC _ _ _ _ _, ?_, hr.below h1, hB.trans (h1.mono hB.size)⟩
  show _ < _
  rw [st5_size]
  exact (Array.getElem?_eq_some_iff.1 (new_at W4 (.cells C ty (0, 0)))).1
theorem ctk_b {w Wd W4 : World} {K : List At} {x : Option Addr} {y : Nat} {o : Obj} {C : Array Value} {ty : TypeId} (ho : o = .cells C ty (0, 0)) (hC : C.size = 5) (hB : Below w.heap.size w Wd) (h4 : Below (Wd.alloc o).heap.size (Wd.alloc o) W4) (hr : IsRow W4 4 (.slice x K.length y) K.length (aCells K)) (hN : NewA (Wd.alloc o).heap.size x) (u0 u1 u2 u3 : Value) :
    CtK w K (.pointer (some ⟨Wd.heap.size, 0, none⟩)) (st5 W4 Wd.heap.size u0 u1 u2 u3 (.slice x K.length y)) := by
  subst ho
  have hn := new_at Wd (.cells C ty (0, 0))
  have hlt := (Array.getElem?_eq_some_iff.1 hn).1
  have hk := (h4.block _ hlt).trans hn
  refine ⟨_, x, y, rfl, st5_at hk hC _ _ _ _ _, ?_, ?_, ?_⟩
  · show _ < _
    rw [st5_size]
    exact (Array.getElem?_eq_some_iff.1 hk).1
  · exact row_far (row_far (row_far (row_far (row_far hr hN hlt 0 _) hN hlt 1 _) hN hlt 2 _) hN hlt 3 _) hN hlt 4 _
  · have h5 : Below w.heap.size w (Wd.alloc (.cells C ty (0, 0))) := hB.trans ((al_b Wd _).mono hB.size)
    exact st5_bel (h5.trans (h4.mono h5.size)) hB.size _ _ _ _ _
/-- A type's eight cells. -/
abbrev BxT8 (b o : Nat) (x : LT) (W : World) : Prop := (W.cell? ⟨b, o, none⟩ = some (.string x.t.n) ∧ W.cell? ⟨b, o + 1, none⟩ = some (.string x.t.p) ∧ W.cell? ⟨b, o + 2, none⟩ = some x.vo ∧ W.cell? ⟨b, o + 3, none⟩ = some x.va) ∧ W.cell? ⟨b, o + 4, none⟩ = some x.vc ∧ W.cell? ⟨b, o + 5, none⟩ = some (.int .i64 x.t.nd) ∧ W.cell? ⟨b, o + 6, none⟩ = some (.int .i64 x.t.lf) ∧ W.cell? ⟨b, o + 7, none⟩ = some (.int .i64 x.t.sq)
set_option maxRecDepth 100000 in
set_option maxHeartbeats 16000000 in
theorem topBelow_walk (v : Value) (L : List LT) (u1 : Value) (F : List PR) (a b c : Int) (k : ByteArray) (u : Value) (A : List At) (w : World) (hL : IsTys w v L) (hl : L.length ≤ 140737488355328) (hi : ∀ x ∈ L, InT x.t) (hf : IsFl w u1 F) (hfl : F.length ≤ 140737488355328) (hfL : ∀ x ∈ F, x.y.l.length ≤ 140737488355328) (hq : IsRow w 4 u A.length (aCells A)) (hal : A.length ≤ 140737488355328) (hW : WT w) :
    Calls Tryz.prog 3 #[v, u1, .agg (evA a b c k u)] w fun e w' => e = .returned (.bool true) ∧ Below w.heap.size w w' := by
  obtain ⟨al, cl, rfl⟩ := hL.1.form
  obtain ⟨af, cf, rfl⟩ := hf.1.form
  obtain ⟨au, cu, rfl⟩ := hq.form
  obtain ⟨W0, hW0⟩ : ∃ W0, W0 = w.alloc (.cells (evA a b c k (.slice au A.length cu)) 28) := ⟨_, rfl⟩
  have hA : Below w.heap.size w W0 := by rw [hW0]; exact al_b w _
  have hn0 : W0.heap[w.heap.size]? = some (.cells (evA a b c k (.slice au A.length cu)) 28 (0, 0)) := by rw [hW0]; exact new_at w _
  have hz0 : w.heap.size < W0.heap.size := (Array.getElem?_eq_some_iff.1 hn0).1
  have HBw : Hid (∀ W, Below W0.heap.size W0 W → Below w.heap.size w W) := fun W h => hA.trans (h.mono hA.size)
  have HE : Hid (∀ W, Below W0.heap.size W0 W → BxV w.heap.size a b c k (.slice au A.length cu) W) := fun W h => BxV.of ((h.block _ hz0).trans hn0)
  have HEz : Hid (w.heap.size < W0.heap.size) := hz0
  have HW : Hid (∀ W, Below w.heap.size w W → WT W) := fun W h => hW.below h
  have HFn : Hid (∀ W, Below w.heap.size w W → Calls Tryz.prog 4 #[] W fun e w' => e = .returned (.bool true) ∧ Below W.heap.size W w') := fun W h => fine_any W (hW.below h)
  have HF5 : Hid (∀ W, Below w.heap.size w W → Calls Tryz.prog 5 #[.slice al L.length cl] W fun e w' => e = .returned (.bool (fewL (tys L))) ∧ Below W.heap.size W w') := fun W h => fewT_any _ L W (hL.below h) hl hi
  have HF8 : Hid (∀ W, Below w.heap.size w W → Calls Tryz.prog 6 #[.slice af F.length cf] W fun e w' => e = .returned (.bool (few8 (F.map (·.y)))) ∧ Below W.heap.size W w') := fun W h => (few8_any _ F W (hf.below h) hfl hfL).mono fun e w' ⟨h1, h2⟩ => ⟨h1, by subst h2; exact Below.refl _ _⟩
  have HF6 : Hid (∀ W, Below w.heap.size w W → Calls Tryz.prog 7 #[.agg (evA a b c k (.slice au A.length cu))] W fun e w' => e = .returned (.bool (fewE k A)) ∧ Below W.heap.size W w') := fun W h => fewE_any a b c k _ A W (hq.below h) hal
  have HLs : Hid (∀ W, Below w.heap.size w W → IsTys W (.slice al L.length cl) L) := fun W h => hL.below h
  have HFl : Hid (∀ W, Below w.heap.size w W → IsFl W (.slice af F.length cf) F) := fun W h => hf.below h
  have HQ : Hid (∀ W, Below w.heap.size w W → IsRow W 4 (.slice au A.length cu) A.length (aCells A)) := fun W h => hq.below h
  have HW0 : Hid (Below W0.heap.size W0 W0) := Below.refl _ _
  obtain ⟨D, HD⟩ : ∃ D, Hid (F.map (·.y) = D) := ⟨_, rfl⟩
  rw [HD.out] at HF8
  clear hL hl hi hW hA hn0 hz0 hq hal hf hfl hfL
  go_enter Tryz.func3, Tryz.ntmps3
  go_wp2_with fail
  rw [← hW0]
  clear hW0
  refine (HFn.out _ (HBw.out _ HW0.out)).mono ?_
  rintro e w1 ⟨rfl, hb⟩
  have Hw1 : Hid (Below W0.heap.size W0 w1) := hb
  clear hb
  go_wp2_with fail
  refine (HF5.out _ (HBw.out _ Hw1.out)).mono ?_
  rintro e w2 ⟨rfl, hb⟩
  have Hw2 : Hid (Below W0.heap.size W0 w2) := Hw1.out.trans (hb.mono Hw1.out.size)
  clear hb HF5 
  cases hfw2 : fewL (tys L)
  · clear hfw2 HE HEz HW HF8 HF6 HLs HFl HQ HW0 HD
    go_wp2_with fail
    refine (HFn.out _ (HBw.out _ Hw2.out)).mono ?_
    rintro e wz ⟨rfl, hb⟩
    have HBz : Hid (Below w.heap.size w wz) := HBw.out _ (Hw2.out.trans (hb.mono Hw2.out.size))
    clear hb
    go_wp2
    go_ret
    exact ⟨rfl, HBz.out⟩
  have Hf5 : Hid (fewL (tys L) = true) := hfw2
  clear hfw2
  go_wp2_with fail
  refine (HF8.out _ (HBw.out _ Hw2.out)).mono ?_
  rintro e w3 ⟨rfl, hb⟩
  have Hw3 : Hid (Below W0.heap.size W0 w3) := Hw2.out.trans (hb.mono Hw2.out.size)
  clear hb HF8 
  cases hfw3 : few8 D
  · clear hfw3 HE HEz HW HF6 HLs HFl HQ HW0 HD Hf5
    go_wp2_with fail
    refine (HFn.out _ (HBw.out _ Hw3.out)).mono ?_
    rintro e wz ⟨rfl, hb⟩
    have HBz : Hid (Below w.heap.size w wz) := HBw.out _ (Hw3.out.trans (hb.mono Hw3.out.size))
    clear hb
    go_wp2
    go_ret
    exact ⟨rfl, HBz.out⟩
  have Hf8 : Hid (few8 D = true) := hfw3
  clear hfw3
  obtain ⟨⟨q0, q1, q2⟩, q3, q4⟩ := HE.out _ Hw3.out
  go_wp2_with fail
  refine (HF6.out _ (HBw.out _ Hw3.out)).mono ?_
  rintro e w4 ⟨rfl, hb⟩
  have Hw4 : Hid (Below W0.heap.size W0 w4) := Hw3.out.trans (hb.mono Hw3.out.size)
  clear hb HF6 q0 q1 q2 q3 q4
  cases hfw4 : fewE k A
  · clear hfw4 HE HEz HW HLs HFl HQ HW0 HD Hf5 Hf8
    go_wp2_with fail
    refine (HFn.out _ (HBw.out _ Hw4.out)).mono ?_
    rintro e wz ⟨rfl, hb⟩
    have HBz : Hid (Below w.heap.size w wz) := HBw.out _ (Hw4.out.trans (hb.mono Hw4.out.size))
    clear hb
    go_wp2
    go_ret
    exact ⟨rfl, HBz.out⟩
  have Hf6 : Hid (fewE k A = true) := hfw4
  clear hfw4
  have HIs : Hid (∀ W, Below w.heap.size w W → Calls Tryz.prog 8 #[.slice al L.length cl] W fun e w' => e = .returned (.bool (isB (tys L))) ∧ Below W.heap.size W w') := fun W h => by
    obtain ⟨f1, f2, f3⟩ := fewL_ok Hf5.out
    exact is_any _ L W (HLs.out _ h) (by omega) f2 ⟨(HW.out _ h).u, (HW.out _ h).m⟩
  go_wp2_with fail
  refine (HIs.out _ (HBw.out _ Hw4.out)).mono ?_
  rintro e w5 ⟨rfl, hb⟩
  have Hw5 : Hid (Below W0.heap.size W0 w5) := Hw4.out.trans (hb.mono Hw4.out.size)
  clear hb HIs 
  cases hfw5 : isB (tys L)
  · clear hfw5 HE HEz HW HLs HFl HQ HW0 HD Hf5 Hf8 Hf6
    go_wp2_with fail
    refine (HFn.out _ (HBw.out _ Hw5.out)).mono ?_
    rintro e wz ⟨rfl, hb⟩
    have HBz : Hid (Below w.heap.size w wz) := HBw.out _ (Hw5.out.trans (hb.mono Hw5.out.size))
    clear hb
    go_wp2
    go_ret
    exact ⟨rfl, HBz.out⟩
  obtain ⟨f1, f2, f3⟩ := fewL_ok Hf5.out
  have hf8 := few8_nmB Hf8.out
  have hfF : F.length ≤ 21 := by rw [← List.length_map (f := (·.y)), HD.out]; exact hf8.1
  have hf6 : fewE k A = true := Hf6.out
  unfold fewE at hf6
  rw [Bool.and_eq_true, decide_eq_true_eq] at hf6
  obtain ⟨-, hfa⟩ := hf6
  obtain ⟨e1, e2⟩ := fewA_shortB hfa
  have hm : ∀ (i : Nat) (h : i < L.length), L[i].t ∈ tys L := fun i h => List.mem_map.2 ⟨L[i], List.getElem_mem h, rfl⟩
  have HFit : Hid (∀ (i : Nat) (h : i < L.length) W, Below w.heap.size w W → Calls Tryz.prog 9 #[L[i].va, .slice af F.length cf] W fun e w' => e = .returned (.int .i64 (fitsX L[i].t.all D)) ∧ Below W.heap.size W w') := fun i h W hb => fitsP_any _ L[i].t.all _ F D W ((HLs.out W hb).2 _ (List.getElem_mem h)).2.1 (by have := (f3 _ (List.getElem_mem h)).2.1; omega) (HFl.out W hb) HD.out (by omega) hf8.2 (f2 _ (List.getElem_mem h)).a (HW.out W hb).u (HW.out W hb).m
  have HOf : Hid (∀ (i m : Nat) (h : i < L.length) (g : m < L.length) W, Below w.heap.size w W → Calls Tryz.prog 10 #[ltV L[m], .string L[i].t.n] W fun e w' => e = .returned (.bool (ofB L[m].t L[i].t.n)) ∧ Below W.heap.size W w') := fun i m h g W hb => of_any L[m] _ W ((HLs.out W hb).2 _ (List.getElem_mem g)) (f2 _ (List.getElem_mem g)).lc (f2 _ (List.getElem_mem g)).c (f2 _ (List.getElem_mem h)).n (HW.out W hb).u
  have HWi : Hid (∀ (i m : Nat) (h : i < L.length) (g : m < L.length) W, Below w.heap.size w W → Calls Tryz.prog 11 #[L[i].va, L[m].va] W fun e w' => e = .returned (.bool (withinL L[i].t.all L[m].t.all)) ∧ Below W.heap.size W w') := fun i m h g W hb => withinF_any _ _ L[i].t.all L[m].t.all W ((HLs.out W hb).2 _ (List.getElem_mem h)).2.1 ((HLs.out W hb).2 _ (List.getElem_mem g)).2.1 (by have := (f3 _ (List.getElem_mem h)).2.1; omega) (by have := (f3 _ (List.getElem_mem g)).2.1; omega) (f2 _ (List.getElem_mem h)).a (f2 _ (List.getElem_mem g)).a (HW.out W hb).u
  have HKp : Hid (∀ (i : Nat) (h : i < L.length) W, Below w.heap.size w W → Calls Tryz.prog 12 #[.agg (evA a b c k (.slice au A.length cu)), L[i].va] W fun e w' => KpP a b c k (keepL L[i].t.all A) W e w') := fun i h W hb => keep_any a b c k _ _ A L[i].t.all W (HQ.out W hb) ((HLs.out W hb).2 _ (List.getElem_mem h)).2.1 (by omega) (f3 _ (List.getElem_mem h)).2.1 e2 (f2 _ (List.getElem_mem h)).a (HW.out W hb).u
  have HAt : Hid (∀ W, Below w.heap.size w W → Calls Tryz.prog 13 #[.slice au A.length cu] W fun e w' => e = .returned (.bool (chkA A)) ∧ Below W.heap.size W w') := fun W hb => attrs_any _ A W (HQ.out W hb) (by omega) e2 (HW.out W hb).u (HW.out W hb).m
  have HLe : Hid (∀ (u : Value) (K : List At) W, Below w.heap.size w W → IsRow W 4 u K.length (aCells K) → K.length ≤ 1000 → NmA K → Calls Tryz.prog 14 #[.slice af F.length cf, u] W fun e w' => e = .returned (.bool (letsB D K)) ∧ Below W.heap.size W w') := fun u K W hb hr hk hn => lets_any _ F D u K W (HFl.out W hb) HD.out (by omega) hf8.2 hr (by omega) hn (HW.out W hb).u (HW.out W hb).m
  have HLa : Hid (∀ W, Below w.heap.size w W → Calls Tryz.prog 14 #[.slice af F.length cf, .slice au A.length cu] W fun e w' => e = .returned (.bool (letsB D A)) ∧ Below W.heap.size W w') := fun W hb => HLe.out _ A W hb (HQ.out W hb) (by omega) e2
  have HLk : Hid (∀ (i : Nat) (h : i < L.length), fitsX L[i].t.all D = 0 → chkA A = true → ∀ (x : Option Addr) (y : Nat) W, Below w.heap.size w W → IsRow W 4 (.slice x (keepL L[i].t.all A).length y) (keepL L[i].t.all A).length (aCells (keepL L[i].t.all A)) → Calls Tryz.prog 14 #[.slice af F.length cf, .slice x (keepL L[i].t.all A).length y] W fun e w' => e = .returned (.bool (letsB D A)) ∧ Below W.heap.size W w') := fun i h h1 h2 x y W hb hr => by
    rw [← lets_keep h1 h2]
    exact HLe.out _ _ W hb hr (by have := keep_len L[i].t.all A; omega) (fun x hx => e2 x (keep_mem.1 hx).1)
  have HM1 : Hid (∀ (i m : Nat) (h : i < L.length) (g : m < L.length), fitsX L[i].t.all D = 0 → ofB L[m].t L[i].t.n = true → fitsX L[m].t.all D = 0 ∧ withinL L[i].t.all L[m].t.all = true) := fun i m h g h1 h2 => below_all hfw5 (hm i h) (hm m g) h2 h1
  have HC : Hid (∀ (i : Nat) (h : i < L.length), ∃ b0 o0, al = some ⟨b0, o0, none⟩ ∧ b0 < w.heap.size ∧ ∀ (i : Nat) (h : i < L.length) W, Below w.heap.size w W → BxT8 b0 (o0 + i * 8) L[i] W) := fun i h => by
    obtain ⟨b0, o0, h1, h2, -, -, h3⟩ := t_at (HLs.out w (Below.refl _ _)).1 (by omega)
    refine ⟨b0, o0, h1, h2, fun i h W hb => ?_⟩
    obtain ⟨⟨c0, c1, c2, c3⟩, c4, c5, c6, c7⟩ := h3 i h
    exact ⟨⟨(hb.cell (p := ⟨b0, _, none⟩) h2).trans c0, (hb.cell (p := ⟨b0, _, none⟩) h2).trans c1, (hb.cell (p := ⟨b0, _, none⟩) h2).trans c2, (hb.cell (p := ⟨b0, _, none⟩) h2).trans c3⟩, (hb.cell (p := ⟨b0, _, none⟩) h2).trans c4, (hb.cell (p := ⟨b0, _, none⟩) h2).trans c5, (hb.cell (p := ⟨b0, _, none⟩) h2).trans c6, (hb.cell (p := ⟨b0, _, none⟩) h2).trans c7⟩
  have hL26 : L.length ≤ 26 := f1
  clear f1 f2 f3 hf8 hfF hfa e1 e2 hm hfw5 Hf5 Hf8 Hf6 HLs HFl HQ HW HLe HFn
  have HW5 : Hid (Below W0.heap.size W0 w5) := Hw5.out
  clear Hw1 Hw2 Hw3 Hw4 Hw5 HW0
  go_wp2_with fail
  go_loopw [7] (fun i wr => ∃ j : Nat, j ≤ L.length ∧ i = .int .i64 (j : Int) ∧ Hid (Below W0.heap.size W0 wr)) (fun i _ => L.length - (intOf i).toNat)
  case atStart => exact ⟨0, by omega, rfl, HW5.out⟩
  case round =>
    obtain ⟨i, hi, rfl, HB⟩ := hrel
    clear HW5
    by_cases hlk : i < L.length
    rotate_left
    · have dj : decide ((i : Int) < (L.length : Int)) = false := by simp; omega
      have HBz : Hid (Below w.heap.size w wr) := HBw.out _ HB.out
      clear HFit HOf HWi HKp HAt HLa HLk HM1 HC HE HEz HD
      go_wp2
      go_ret
      exact ⟨rfl, HBz.out⟩
    have dj : decide ((i : Int) < (L.length : Int)) = true := by simp; omega
    have q1 : (0 : Int) ≤ (i : Int) := by omega
    have q2 : (i : Int) < (L.length : Int) := by omega
    obtain ⟨b0, o0, rfl, hlt, hcs⟩ := HC.out i hlk
    have HCs : Hid (∀ (i : Nat) (h : i < L.length) W, Below w.heap.size w W → BxT8 b0 (o0 + i * 8) L[i] W) := hcs
    have Hlt : Hid (b0 < w.heap.size) := hlt
    have HFi := HFit.out i hlk
    obtain ⟨Z, hZ⟩ : ∃ Z, fitsX L[i].t.all D = Z := ⟨_, rfl⟩
    rw [hZ] at HFi
    have HZ : Hid (fitsX L[i].t.all D = Z) := hZ
    have HFiH : Hid (∀ W, Below w.heap.size w W → Calls Tryz.prog 9 #[L[i].va, .slice af F.length cf] W fun e w' => e = .returned (.int .i64 Z) ∧ Below W.heap.size W w') := HFi
    clear hZ
    have HIk : Hid (i < L.length) := hlk
    clear hcs hlt HFi
    obtain ⟨⟨-, -, -, c3⟩, -⟩ := HCs.out i hlk wr (HBw.out _ HB.out)
    go_wp2_with fail
    clear c3
    refine (HFiH.out _ (HBw.out _ HB.out)).mono ?_
    rintro e w6 ⟨rfl, hb⟩
    have HB6 : Hid (Below W0.heap.size W0 w6) := HB.out.trans (hb.mono HB.out.size)
    clear hb HB HFiH
    by_cases hF : Z = 0
    rotate_left
    · have dF : (Z != 0) = true := by simp [hF]
      have dF' : (Z == 0) = false := by simp [hF]
      clear HFit HOf HWi HKp HAt HLa HLk HM1 HC HCs HE HEz HD HZ
      go_wp2
      go_roundw
      case rel => exact ⟨i + 1, by omega, by simp, HB6.out⟩
      case measure => simp [intOf]; omega
    subst hF
    have HF0 : Hid (fitsX L[i].t.all D = 0) := HZ.out
    clear HZ
    go_wp2_with fail
    go_loopw [8] (fun m wq => ∃ j : Nat, j ≤ L.length ∧ m = .int .i64 (j : Int) ∧ Hid (Below W0.heap.size W0 wq)) (fun m _ => L.length - (intOf m).toNat)
    case atStart => exact ⟨0, by omega, rfl, HB6.out⟩
    case round =>
      obtain ⟨m, hm, rfl, HB⟩ := hrel
      clear HB6
      by_cases hmk : m < L.length
      rotate_left
      · have dm : decide ((m : Int) < (L.length : Int)) = false := by simp; omega
        clear HFit HOf HWi HKp HAt HLa HLk HM1 HC HCs HE HEz HD HF0
        go_wp2
        go_roundw
        case rel => exact ⟨i + 1, by omega, by simp, HB.out⟩
        case measure => simp [intOf]; omega
      have dm : decide ((m : Int) < (L.length : Int)) = true := by simp; omega
      have p1 : (0 : Int) ≤ (m : Int) := by omega
      have p2 : (m : Int) < (L.length : Int) := by omega
      have HBr : Hid (Below w.heap.size w wr) := HBw.out _ HB.out
      have HB0 : Hid (∀ W, Below wr.heap.size wr W → Below w.heap.size w W) := fun W h => HBr.out.trans (h.mono HBr.out.size)
      have HB00 : Hid (∀ W, Below wr.heap.size wr W → Below W0.heap.size W0 W) := fun W h => HB.out.trans (h.mono HB.out.size)
      have HOf1 : Hid (∀ W, Below w.heap.size w W → Calls Tryz.prog 10 #[ltV L[m], .string L[i].t.n] W fun e w' => e = .returned (.bool (ofB L[m].t L[i].t.n)) ∧ Below W.heap.size W w') := HOf.out i m hlk hmk
      have HFm : Hid (∀ W, Below w.heap.size w W → Calls Tryz.prog 9 #[L[m].va, .slice af F.length cf] W fun e w' => e = .returned (.int .i64 (fitsX L[m].t.all D)) ∧ Below W.heap.size W w') := HFit.out m hmk
      have HWm : Hid (∀ W, Below w.heap.size w W → Calls Tryz.prog 11 #[L[i].va, L[m].va] W fun e w' => e = .returned (.bool (withinL L[i].t.all L[m].t.all)) ∧ Below W.heap.size W w') := HWi.out i m hlk hmk
      have HMm : Hid (ofB L[m].t L[i].t.n = true → fitsX L[m].t.all D = 0 ∧ withinL L[i].t.all L[m].t.all = true) := HM1.out i m hlk hmk HF0.out
      have HKi : Hid (∀ W, Below w.heap.size w W → Calls Tryz.prog 12 #[.agg (evA a b c k (.slice au A.length cu)), L[i].va] W fun e w' => KpP a b c k (keepL L[i].t.all A) W e w') := HKp.out i hlk
      have HLi : Hid (chkA A = true → ∀ (x : Option Addr) (y : Nat) W, Below w.heap.size w W → IsRow W 4 (.slice x (keepL L[i].t.all A).length y) (keepL L[i].t.all A).length (aCells (keepL L[i].t.all A)) → Calls Tryz.prog 14 #[.slice af F.length cf, .slice x (keepL L[i].t.all A).length y] W fun e w' => e = .returned (.bool (letsB D A)) ∧ Below W.heap.size W w') := HLk.out i hlk HF0.out
      have HCi : Hid (∀ W, Below w.heap.size w W → BxT8 b0 (o0 + i * 8) L[i] W) := HCs.out i hlk
      have HCm : Hid (∀ W, Below w.heap.size w W → BxT8 b0 (o0 + m * 8) L[m] W) := HCs.out m hmk
      have HR1 : Hid (m + 1 ≤ L.length) := hmk
      clear HFit HOf HWi HM1 HKp HLk HCs HC HF0 HD
      generalize keepL L[i].t.all A = K at *
      generalize L[i]'hlk = x at *
      generalize L[m]'hmk = y at *
      generalize letsB D A = X at *
      generalize ofB y.t x.t.n = Y at *
      -- region 10
      go_wp2_with fail
      refine wp_region_quiet (C := fun w' => Below wr.heap.size wr w') (by kernel_rfl) (by kernel_rfl) ((Below.refl _ _).drew) ?_
      dsimp only
      repeat (first
        | go_big_quiet_skip
        | (go_big_quiet_want
           apply Exists.intro
           refine ⟨fun W' hW' => ?_, ?_⟩
           · have hw : Below wr.heap.size wr W' := hW'
             have hv : Below wr.heap.size wr W' := hw
             obtain ⟨⟨c0, c1, c2, c3⟩, c4, c5, c6, c7⟩ := HCm.out W' (HB0.out _ hv)
             obtain ⟨⟨g0, -, -, -⟩, -⟩ := HCi.out W' (HB0.out _ hv)
             go_simp
             first
               | done
               | rfl
               | (go_at_call 10; (with_reducible refine Calls.mono (HOf1.out W' (HB0.out _ hv)) ?_); rintro e w'' ⟨rfl, hb⟩; exact ⟨rfl, hw.trans (hb.mono hw.size)⟩)
           go_big_quiet_on
           try simp only [Act.put, List.setIfInBounds_toArray, List.set_cons_zero, List.set_cons_succ]))
      refine wpQuiet_nil ?_
      intro w10 hq
      have B10 : Hid (Below wr.heap.size wr w10) := hq
      clear hq HOf1
      cases Y with
      | false =>
        clear HWm HFm HMm HKi HLi HCi HCm HAt HLa HE HEz
        go_wp2
        go_roundw
        case rel => exact ⟨m + 1, HR1.out, by simp, HB00.out _ B10.out⟩
        case measure => simp [intOf]; omega
      | true =>
      obtain ⟨z1, z2⟩ := HMm.out (by trivial)
      rw [z1] at HFm
      rw [z2] at HWm
      clear z1 z2 HMm
      go_wp2_with fail
      refine wp_region_quiet (C := fun w' => Below w10.heap.size w10 w') (by kernel_rfl) (by kernel_rfl) ((Below.refl _ _).drew) ?_
      dsimp only
      repeat (first
        | go_big_quiet_skip
        | (go_big_quiet_want
           apply Exists.intro
           refine ⟨fun W' hW' => ?_, ?_⟩
           · have hw : Below w10.heap.size w10 W' := hW'
             have hv : Below wr.heap.size wr W' := B10.out.trans (hw.mono B10.out.size)
             obtain ⟨⟨-, -, -, c3⟩, -⟩ := HCm.out W' (HB0.out _ hv)
             obtain ⟨⟨-, -, -, g3⟩, -⟩ := HCi.out W' (HB0.out _ hv)
             go_simp
             first
               | done
               | rfl
               | (go_at_call 9; (with_reducible refine Calls.mono (HFm.out W' (HB0.out _ hv)) ?_); rintro e w'' ⟨rfl, hb⟩; exact ⟨rfl, hw.trans (hb.mono hw.size)⟩)
               | (go_at_call 11; (with_reducible refine Calls.mono (HWm.out W' (HB0.out _ hv)) ?_); rintro e w'' ⟨rfl, hb⟩; exact ⟨rfl, hw.trans (hb.mono hw.size)⟩)
           go_big_quiet_on
           try simp only [Act.put, List.setIfInBounds_toArray, List.set_cons_zero, List.set_cons_succ]))
      refine wpQuiet_nil ?_
      intro w11 hq
      have B11 : Hid (Below wr.heap.size wr w11) := B10.out.trans (Below.mono hq B10.out.size)
      clear hq HFm HWm B10 HCm
      go_upto_region 13 with fail
      go_cut [9] (fun p wx => CtK wr K p wx)
      case first =>
        clear HLi HLa HAt
        have HDk : Hid (Below wr.heap.size wr w11.drew) := B11.out.drew
        have HS : Hid (∀ W, Below wr.heap.size wr W → (W.cell? ⟨w.heap.size, 0, none⟩ = some (.int .i64 a) ∧ W.cell? ⟨w.heap.size, 1, none⟩ = some (.int .i64 b) ∧ W.cell? ⟨w.heap.size, 2, none⟩ = some (.int .i64 c) ∧ W.cell? ⟨w.heap.size, 3, none⟩ = some (.string k) ∧ W.cell? ⟨w.heap.size, 4, none⟩ = some (.slice au A.length cu) ∧ W.cell? ⟨b0, o0 + i * 8 + 3, none⟩ = some x.va)) := fun W h => by
          obtain ⟨⟨e0, e1, e2⟩, e3, e4⟩ := HE.out W (HB00.out _ h)
          obtain ⟨⟨-, -, -, g3⟩, -⟩ := HCi.out W (HB0.out _ h)
          exact ⟨e0, e1, e2, e3, e4, g3⟩
        go_wp2_with fail
        refine wp_region_held_drew (S := fun W => W.cell? ⟨w.heap.size, 0, none⟩ = some (.int .i64 a) ∧ W.cell? ⟨w.heap.size, 1, none⟩ = some (.int .i64 b) ∧ W.cell? ⟨w.heap.size, 2, none⟩ = some (.int .i64 c) ∧ W.cell? ⟨w.heap.size, 3, none⟩ = some (.string k) ∧ W.cell? ⟨w.heap.size, 4, none⟩ = some (.slice au A.length cu) ∧ W.cell? ⟨b0, o0 + i * 8 + 3, none⟩ = some x.va) (by kernel_rfl) (HS.out _ HDk.out) (fun hHeld => ?_)
        generalize w11.drew = wd at *
        refine wpAnyH_take (i := 0) (v := ?_) rfl (by kernel_rfl) (by kernel_rfl) (by kernel_rfl) (fun _ _ _ h => h) (Or.inl ⟨by rfl, ?_⟩) hHeld ?_
        rotate_left 1
        · intro w9 hSw; obtain ⟨g0, g1, g2, g3, g4, g5⟩ := hSw; go_simp; try with_reducible rfl
        change wpAnyH _ _ _ _ _ _ _ (Act.put _ (some 86) _) _
        simp only [Act.put, List.setIfInBounds_toArray, List.set_cons_zero, List.set_cons_succ]
        refine wpAnyH_take (i := 1) (v := ?_) rfl (by kernel_rfl) (by kernel_rfl) (by kernel_rfl) (fun _ _ _ h => h) (Or.inl ⟨by rfl, ?_⟩) hHeld ?_
        rotate_left 1
        · intro w9 hSw; obtain ⟨g0, g1, g2, g3, g4, g5⟩ := hSw; go_simp; try with_reducible rfl
        change wpAnyH _ _ _ _ _ _ _ (Act.put _ (some 87) _) _
        simp only [Act.put, List.setIfInBounds_toArray, List.set_cons_zero, List.set_cons_succ]
        refine wpAnyH_take (i := 2) (v := ?_) rfl (by kernel_rfl) (by kernel_rfl) (by kernel_rfl) (fun _ _ _ h => h) (Or.inl ⟨by rfl, ?_⟩) hHeld ?_
        rotate_left 1
        · intro w9 hSw; obtain ⟨g0, g1, g2, g3, g4, g5⟩ := hSw; go_simp; try with_reducible rfl
        change wpAnyH _ _ _ _ _ _ _ (Act.put _ (some 88) _) _
        simp only [Act.put, List.setIfInBounds_toArray, List.set_cons_zero, List.set_cons_succ]
        refine wpAnyH_take (i := 3) (v := ?_) rfl (by kernel_rfl) (by kernel_rfl) (by kernel_rfl) (fun _ _ _ h => h) (Or.inl ⟨by rfl, ?_⟩) hHeld ?_
        rotate_left 1
        · intro w9 hSw; obtain ⟨g0, g1, g2, g3, g4, g5⟩ := hSw; go_simp; try with_reducible rfl
        change wpAnyH _ _ _ _ _ _ _ (Act.put _ (some 89) _) _
        simp only [Act.put, List.setIfInBounds_toArray, List.set_cons_zero, List.set_cons_succ]
        refine wpAnyH_take (i := 4) (v := ?_) rfl (by kernel_rfl) (by kernel_rfl) (by kernel_rfl) (fun _ _ _ h => h) (Or.inl ⟨by rfl, ?_⟩) hHeld ?_
        rotate_left 1
        · intro w9 hSw; obtain ⟨g0, g1, g2, g3, g4, g5⟩ := hSw; go_simp; try with_reducible rfl
        change wpAnyH _ _ _ _ _ _ _ (Act.put _ (some 90) _) _
        simp only [Act.put, List.setIfInBounds_toArray, List.set_cons_zero, List.set_cons_succ]
        refine wpAnyH_take (i := 5) (v := ?_) rfl (by kernel_rfl) (by kernel_rfl) (by kernel_rfl) (fun _ _ _ h => h) (Or.inl ⟨by rfl, ?_⟩) hHeld ?_
        rotate_left 1
        · intro w9 hSw; obtain ⟨g0, g1, g2, g3, g4, g5⟩ := hSw; go_simp; try with_reducible rfl
        change wpAnyH _ _ _ _ _ _ _ (Act.put _ (some 91) _) _
        simp only [Act.put, List.setIfInBounds_toArray, List.set_cons_zero, List.set_cons_succ]
        refine wpAnyH_ready (rs := [6, 7]) (by kernel_rfl) (by simp) ?_
        refine AllReadyH.cons rfl (fun K' hK => ?_) (AllReadyH.cons rfl (fun K' hK => ?_) AllReadyH.nil)
        · go_simp
          refine (HKi.out _ (HB0.out _ (HDk.out))).mono ?_
          rintro e w12 ⟨x6, y6, rfl, hr6, hN6, hb⟩
          have B12 : Hid (Below wr.heap.size wr w12) := Below.trans (HDk.out) (hb.mono (Below.size (HDk.out)))
          go_simp
          refine hK.out _ _ (HS.out _ B12.out) (fun hHeld => ?_)
          clear hK K'
          refine wpAnyH_ready (rs := [7]) (by kernel_rfl) (by simp) ?_
          refine AllReadyH.cons rfl (fun K' hK => ?_) AllReadyH.nil
          go_simp
          have B13 : Hid (Below wr.heap.size wr (w12.alloc (.cells #[.int .i64 0, .int .i64 0, .int .i64 0, .string ⟨#[]⟩, .slice none 0 0] 28))) := B12.out.trans ((al_b w12 _).mono B12.out.size)
          refine hK.out _ _ (HS.out _ B13.out) (fun hHeld => ?_)
          clear hK K'
          have HGe : Hid (wr.heap.size ≤ w12.heap.size) := B12.out.size
          have hkE := new_at w12 (.cells #[.int .i64 0, .int .i64 0, .int .i64 0, .string ⟨#[]⟩, .slice none 0 0] 28)
          have m0 : (w12.alloc (.cells #[.int .i64 0, .int .i64 0, .int .i64 0, .string ⟨#[]⟩, .slice none 0 0] 28)).cell? ⟨w12.heap.size, 0, none⟩ = some (.int .i64 0) := by rw [Lib.cell_of_heap hkE]; rfl
          have m1 : (w12.alloc (.cells #[.int .i64 0, .int .i64 0, .int .i64 0, .string ⟨#[]⟩, .slice none 0 0] 28)).cell? ⟨w12.heap.size, 1, none⟩ = some (.int .i64 0) := by rw [Lib.cell_of_heap hkE]; rfl
          have m2 : (w12.alloc (.cells #[.int .i64 0, .int .i64 0, .int .i64 0, .string ⟨#[]⟩, .slice none 0 0] 28)).cell? ⟨w12.heap.size, 2, none⟩ = some (.int .i64 0) := by rw [Lib.cell_of_heap hkE]; rfl
          have m3 : (w12.alloc (.cells #[.int .i64 0, .int .i64 0, .int .i64 0, .string ⟨#[]⟩, .slice none 0 0] 28)).cell? ⟨w12.heap.size, 3, none⟩ = some (.string ⟨#[]⟩) := by rw [Lib.cell_of_heap hkE]; rfl
          have m4 : (w12.alloc (.cells #[.int .i64 0, .int .i64 0, .int .i64 0, .string ⟨#[]⟩, .slice none 0 0] 28)).cell? ⟨w12.heap.size, 4, none⟩ = some (.slice none 0 0) := by rw [Lib.cell_of_heap hkE]; rfl
          have mf : ∀ j, (w12.alloc (.cells #[.int .i64 0, .int .i64 0, .int .i64 0, .string ⟨#[]⟩, .slice none 0 0] 28)).frozen? ⟨w12.heap.size, j, none⟩ = false := fun j => Lib.frozen_of_heap hkE j
          have HCt : Hid (∀ u0 u1 u2 u3, CtK wr K (.pointer (some ⟨w12.heap.size, 0, none⟩)) (st5 ((w12.alloc (.cells #[.int .i64 0, .int .i64 0, .int .i64 0, .string ⟨#[]⟩, .slice none 0 0] 28))) (w12.heap.size) u0 u1 u2 u3 (.slice x6 K.length y6))) := fun u0 u1 u2 u3 => ctk_a rfl rfl B12.out hr6 u0 u1 u2 u3
          have HS5 : Hid (∀ u0 u1 u2 u3 u4, (st5 ((w12.alloc (.cells #[.int .i64 0, .int .i64 0, .int .i64 0, .string ⟨#[]⟩, .slice none 0 0] 28))) (w12.heap.size) u0 u1 u2 u3 u4).cell? ⟨w.heap.size, 0, none⟩ = some (.int .i64 a) ∧ (st5 ((w12.alloc (.cells #[.int .i64 0, .int .i64 0, .int .i64 0, .string ⟨#[]⟩, .slice none 0 0] 28))) (w12.heap.size) u0 u1 u2 u3 u4).cell? ⟨w.heap.size, 1, none⟩ = some (.int .i64 b) ∧ (st5 ((w12.alloc (.cells #[.int .i64 0, .int .i64 0, .int .i64 0, .string ⟨#[]⟩, .slice none 0 0] 28))) (w12.heap.size) u0 u1 u2 u3 u4).cell? ⟨w.heap.size, 2, none⟩ = some (.int .i64 c) ∧ (st5 ((w12.alloc (.cells #[.int .i64 0, .int .i64 0, .int .i64 0, .string ⟨#[]⟩, .slice none 0 0] 28))) (w12.heap.size) u0 u1 u2 u3 u4).cell? ⟨w.heap.size, 3, none⟩ = some (.string k) ∧ (st5 ((w12.alloc (.cells #[.int .i64 0, .int .i64 0, .int .i64 0, .string ⟨#[]⟩, .slice none 0 0] 28))) (w12.heap.size) u0 u1 u2 u3 u4).cell? ⟨w.heap.size, 4, none⟩ = some (.slice au A.length cu) ∧ (st5 ((w12.alloc (.cells #[.int .i64 0, .int .i64 0, .int .i64 0, .string ⟨#[]⟩, .slice none 0 0] 28))) (w12.heap.size) u0 u1 u2 u3 u4).cell? ⟨b0, o0 + i * 8 + 3, none⟩ = some x.va) := fun u0 u1 u2 u3 u4 => HS.out _ (st5_bel (B13.out) HGe.out u0 u1 u2 u3 u4)
          clear hkE hb hr6 hN6
          generalize (w12.alloc (.cells #[.int .i64 0, .int .i64 0, .int .i64 0, .string ⟨#[]⟩, .slice none 0 0] 28)) = WE at *
          refine wpAnyH_ready (rs := [8]) (by kernel_rfl) (by simp) ?_
          refine AllReadyH.cons rfl (fun K' hK => ?_) AllReadyH.nil
          go_simp
          refine hK.out _ _ (HS5.out _ _ _ _ _) (fun hHeld => ?_)
          clear hK K'
          refine wpAnyH_done (by kernel_rfl) ?_ _
          clear hHeld HS HS5 m0 m1 m2 m3 m4 mf
          try go_wp2_with fail
          go_meet
          exact HCt.out _ _ _ _
        · go_simp
          have Bd : Hid (Below wr.heap.size wr (wd.alloc (.cells #[.int .i64 0, .int .i64 0, .int .i64 0, .string ⟨#[]⟩, .slice none 0 0] 28))) := HDk.out.trans ((al_b wd _).mono HDk.out.size)
          refine hK.out _ _ (HS.out _ Bd.out) (fun hHeld => ?_)
          clear hK K'
          refine wpAnyH_ready (rs := [6]) (by kernel_rfl) (by simp) ?_
          refine AllReadyH.cons rfl (fun K' hK => ?_) AllReadyH.nil
          go_simp
          refine (HKi.out _ (HB0.out _ (Bd.out))).mono ?_
          rintro e w12 ⟨x6, y6, rfl, hr6, hN6, hb⟩
          have B12 : Hid (Below wr.heap.size wr w12) := Below.trans (Bd.out) (hb.mono (Below.size (Bd.out)))
          go_simp
          refine hK.out _ _ (HS.out _ B12.out) (fun hHeld => ?_)
          clear hK K'
          have HGe : Hid (wr.heap.size ≤ wd.heap.size) := HDk.out.size
          have hkE := (hb.block _ (Array.getElem?_eq_some_iff.1 (new_at wd (.cells #[.int .i64 0, .int .i64 0, .int .i64 0, .string ⟨#[]⟩, .slice none 0 0] 28))).1).trans (new_at wd (.cells #[.int .i64 0, .int .i64 0, .int .i64 0, .string ⟨#[]⟩, .slice none 0 0] 28))
          have m0 : w12.cell? ⟨wd.heap.size, 0, none⟩ = some (.int .i64 0) := by rw [Lib.cell_of_heap hkE]; rfl
          have m1 : w12.cell? ⟨wd.heap.size, 1, none⟩ = some (.int .i64 0) := by rw [Lib.cell_of_heap hkE]; rfl
          have m2 : w12.cell? ⟨wd.heap.size, 2, none⟩ = some (.int .i64 0) := by rw [Lib.cell_of_heap hkE]; rfl
          have m3 : w12.cell? ⟨wd.heap.size, 3, none⟩ = some (.string ⟨#[]⟩) := by rw [Lib.cell_of_heap hkE]; rfl
          have m4 : w12.cell? ⟨wd.heap.size, 4, none⟩ = some (.slice none 0 0) := by rw [Lib.cell_of_heap hkE]; rfl
          have mf : ∀ j, w12.frozen? ⟨wd.heap.size, j, none⟩ = false := fun j => Lib.frozen_of_heap hkE j
          have HCt : Hid (∀ u0 u1 u2 u3, CtK wr K (.pointer (some ⟨wd.heap.size, 0, none⟩)) (st5 (w12) (wd.heap.size) u0 u1 u2 u3 (.slice x6 K.length y6))) := fun u0 u1 u2 u3 => ctk_b rfl rfl HDk.out hb hr6 hN6 u0 u1 u2 u3
          have HS5 : Hid (∀ u0 u1 u2 u3 u4, (st5 (w12) (wd.heap.size) u0 u1 u2 u3 u4).cell? ⟨w.heap.size, 0, none⟩ = some (.int .i64 a) ∧ (st5 (w12) (wd.heap.size) u0 u1 u2 u3 u4).cell? ⟨w.heap.size, 1, none⟩ = some (.int .i64 b) ∧ (st5 (w12) (wd.heap.size) u0 u1 u2 u3 u4).cell? ⟨w.heap.size, 2, none⟩ = some (.int .i64 c) ∧ (st5 (w12) (wd.heap.size) u0 u1 u2 u3 u4).cell? ⟨w.heap.size, 3, none⟩ = some (.string k) ∧ (st5 (w12) (wd.heap.size) u0 u1 u2 u3 u4).cell? ⟨w.heap.size, 4, none⟩ = some (.slice au A.length cu) ∧ (st5 (w12) (wd.heap.size) u0 u1 u2 u3 u4).cell? ⟨b0, o0 + i * 8 + 3, none⟩ = some x.va) := fun u0 u1 u2 u3 u4 => HS.out _ (st5_bel (B12.out) HGe.out u0 u1 u2 u3 u4)
          clear hkE hb hr6 hN6
          obtain ⟨WE, rfl⟩ : ∃ WE, WE = w12 := ⟨_, rfl⟩
          refine wpAnyH_ready (rs := [8]) (by kernel_rfl) (by simp) ?_
          refine AllReadyH.cons rfl (fun K' hK => ?_) AllReadyH.nil
          go_simp
          refine hK.out _ _ (HS5.out _ _ _ _ _) (fun hHeld => ?_)
          clear hK K'
          refine wpAnyH_done (by kernel_rfl) ?_ _
          clear hHeld HS HS5 m0 m1 m2 m3 m4 mf
          try go_wp2_with fail
          go_meet
          exact HCt.out _ _ _ _
      case rest =>
        obtain ⟨g, x6, y6, rfl, HC4, HG, HR6, B13⟩ := hcut
        have H4 : Hid (∀ W, Below wc.heap.size wc W → W.cell? ⟨g, 4, none⟩ = some (.slice x6 K.length y6)) := fun W h => (h.cell (p := ⟨g, 4, none⟩) HG.out).trans HC4.out
        clear HC4 HKi HCi B11
        generalize chkA A = Z at *
        cases Z with
        | false =>
          have HLk : Hid (∀ (x : Option Addr) (y : Nat) (W : World), Below w.heap.size w W → IsRow W 4 (.slice x K.length y) K.length (aCells K) → True) := fun _ _ _ _ _ => trivial
          go_wp2_with fail
          refine wp_region_quiet (C := fun w' => Below wc.heap.size wc w') (by kernel_rfl) (by kernel_rfl) ((Below.refl _ _).drew) ?_
          dsimp only
          repeat (first
            | go_big_quiet_skip
            | (go_big_quiet_want
               apply Exists.intro
               refine ⟨fun W' hW' => ?_, ?_⟩
               · have hw : Below wc.heap.size wc W' := hW'
                 have hv : Below wc.heap.size wc W' := hw
                 obtain ⟨-, -, e4⟩ := HE.out W' (HB00.out _ (B13.out.trans (hv.mono B13.out.size)))
                 have g4 := H4.out W' hv
                 go_simp
                 first
                   | done
                   | rfl
                   | (go_at_call 13; (with_reducible refine Calls.mono (HAt.out W' (HB0.out _ (B13.out.trans (hv.mono B13.out.size)))) ?_); rintro e w'' ⟨rfl, hb⟩; exact ⟨rfl, hw.trans (hb.mono hw.size)⟩)
                   | (go_at_call 14; (with_reducible refine Calls.mono (HLa.out W' (HB0.out _ (B13.out.trans (hv.mono B13.out.size)))) ?_); rintro e w'' ⟨rfl, hb⟩; exact ⟨rfl, hw.trans (hb.mono hw.size)⟩)
               go_big_quiet_on
               try simp only [Act.put, List.setIfInBounds_toArray, List.set_cons_zero, List.set_cons_succ]))
          refine wpQuiet_nil ?_
          intro w14 hq
          have B14 : Hid (Below wr.heap.size wr w14) := B13.out.trans (Below.mono hq B13.out.size)
          clear hq HAt HLa HE H4 HR6 HG HLk HLi
          go_wp2
          go_roundw
          case rel => exact ⟨m + 1, HR1.out, by simp, HB00.out _ B14.out⟩
          case measure => simp [intOf]; omega
        | true =>
          have HLk : Hid (∀ (x : Option Addr) (y : Nat) W, Below w.heap.size w W → IsRow W 4 (.slice x K.length y) K.length (aCells K) → Calls Tryz.prog 14 #[.slice af F.length cf, .slice x K.length y] W fun e w' => e = .returned (.bool X) ∧ Below W.heap.size W w') := HLi.out (by trivial)
          clear HLi
          cases X with
          | false =>
            go_wp2_with fail
            refine wp_region_quiet (C := fun w' => Below wc.heap.size wc w') (by kernel_rfl) (by kernel_rfl) ((Below.refl _ _).drew) ?_
            dsimp only
            repeat (first
              | go_big_quiet_skip
              | (go_big_quiet_want
                 apply Exists.intro
                 refine ⟨fun W' hW' => ?_, ?_⟩
                 · have hw : Below wc.heap.size wc W' := hW'
                   have hv : Below wc.heap.size wc W' := hw
                   obtain ⟨-, -, e4⟩ := HE.out W' (HB00.out _ (B13.out.trans (hv.mono B13.out.size)))
                   have g4 := H4.out W' hv
                   go_simp
                   first
                     | done
                     | rfl
                     | (go_at_call 13; (with_reducible refine Calls.mono (HAt.out W' (HB0.out _ (B13.out.trans (hv.mono B13.out.size)))) ?_); rintro e w'' ⟨rfl, hb⟩; exact ⟨rfl, hw.trans (hb.mono hw.size)⟩)
                     | (go_at_call 14; (with_reducible refine Calls.mono (HLa.out W' (HB0.out _ (B13.out.trans (hv.mono B13.out.size)))) ?_); rintro e w'' ⟨rfl, hb⟩; exact ⟨rfl, hw.trans (hb.mono hw.size)⟩)
                     | (go_at_call 14; (with_reducible refine Calls.mono (HLk.out _ _ W' (HB0.out _ (B13.out.trans (hv.mono B13.out.size))) (HR6.out.below hv)) ?_); rintro e w'' ⟨rfl, hb⟩; exact ⟨rfl, hw.trans (hb.mono hw.size)⟩)
                 go_big_quiet_on
                 try simp only [Act.put, List.setIfInBounds_toArray, List.set_cons_zero, List.set_cons_succ]))
            refine wpQuiet_nil ?_
            intro w14 hq
            have B14 : Hid (Below wr.heap.size wr w14) := B13.out.trans (Below.mono hq B13.out.size)
            clear hq HAt HLa HE H4 HR6 HG HLk
            go_wp2
            go_roundw
            case rel => exact ⟨m + 1, HR1.out, by simp, HB00.out _ B14.out⟩
            case measure => simp [intOf]; omega
          | true =>
            go_wp2_with fail
            refine wp_region_quiet (C := fun w' => Below wc.heap.size wc w') (by kernel_rfl) (by kernel_rfl) ((Below.refl _ _).drew) ?_
            dsimp only
            repeat (first
              | go_big_quiet_skip
              | (go_big_quiet_want
                 apply Exists.intro
                 refine ⟨fun W' hW' => ?_, ?_⟩
                 · have hw : Below wc.heap.size wc W' := hW'
                   have hv : Below wc.heap.size wc W' := hw
                   obtain ⟨-, -, e4⟩ := HE.out W' (HB00.out _ (B13.out.trans (hv.mono B13.out.size)))
                   have g4 := H4.out W' hv
                   go_simp
                   first
                     | done
                     | rfl
                     | (go_at_call 13; (with_reducible refine Calls.mono (HAt.out W' (HB0.out _ (B13.out.trans (hv.mono B13.out.size)))) ?_); rintro e w'' ⟨rfl, hb⟩; exact ⟨rfl, hw.trans (hb.mono hw.size)⟩)
                     | (go_at_call 14; (with_reducible refine Calls.mono (HLa.out W' (HB0.out _ (B13.out.trans (hv.mono B13.out.size)))) ?_); rintro e w'' ⟨rfl, hb⟩; exact ⟨rfl, hw.trans (hb.mono hw.size)⟩)
                     | (go_at_call 14; (with_reducible refine Calls.mono (HLk.out _ _ W' (HB0.out _ (B13.out.trans (hv.mono B13.out.size))) (HR6.out.below hv)) ?_); rintro e w'' ⟨rfl, hb⟩; exact ⟨rfl, hw.trans (hb.mono hw.size)⟩)
                 go_big_quiet_on
                 try simp only [Act.put, List.setIfInBounds_toArray, List.set_cons_zero, List.set_cons_succ]))
            refine wpQuiet_nil ?_
            intro w14 hq
            have B14 : Hid (Below wr.heap.size wr w14) := B13.out.trans (Below.mono hq B13.out.size)
            clear hq HAt HLa HE H4 HR6 HG HLk
            go_wp2
            go_roundw
            case rel => exact ⟨m + 1, HR1.out, by simp, HB00.out _ B14.out⟩
            case measure => simp [intOf]; omega
end Go.Proofs.YtjamkfkbajhefaaGreatDoor.F
