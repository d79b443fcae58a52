/- ForestFits: its walk. -/
import Derived.Test.YtkcnkjaeidbjbaaGreatDoorZs
import Derived.Test.YtkcnkjaeidbjbaaGreatDoorZl
import Derived.Test.YtkcnkjaeidbjbaaGreatDoorZv
import Derived.Test.YtkcnkjaeidbjbaaGreatDoorZw
import Derived.Test.YtkcnkjaeidbjbaaGreatDoorZh
import Derived.Test.YtkcnkjaeidbjbaaGreatDoorZr
namespace Go.Proofs.YtkcnkjaeidbjbaaGreatDoor
open Go.RowKit Go.ChangeMaps

theorem fewF_short {l : List Fd} (h : fewF l = true) : NmR l ∧ l.length ≤ 41 := by
  have h := of_decide_eq_true h
  refine ⟨fun x hx => ?_, ?_⟩
  · obtain ⟨i, hi, rfl⟩ := List.mem_iff_getElem.1 hx
    have := (h i hi).2
    omega
  · by_cases h0 : l.length ≤ 41
    · exact h0
    · have := (h 41 (by omega)).1
      omega
theorem fewA_short {l : List At} (h : fewA l = true) : l.length ≤ 41 ∧ NmA l ∧ NmRA l := by
  have h' := of_decide_eq_true h
  have hx : ∀ x ∈ l, x.n.size ≤ 200 ∧ x.s.size ≤ 500 := fun x hx => by
    obtain ⟨k, hk, rfl⟩ := List.getElem_of_mem hx
    exact (h' k hk).2
  refine ⟨?_, fun x hx' => by have := hx x hx'; omega, fun x hx' => by have := hx x hx'; omega⟩
  rcases Nat.lt_or_ge 41 l.length with q | q
  · have := (h' 41 q).1; omega
  · exact q
theorem nmQ_of {t : Ty} (h : oneB t = true) : NmQ t := by
  unfold oneB at h
  simp only [Bool.and_eq_true, decide_eq_true_eq] at h
  obtain ⟨h1, h2, h3, h4, h5, h6⟩ := h
  obtain ⟨a1, a2⟩ := fewF_short h5
  obtain ⟨b1, b2⟩ := fewF_short h6
  exact ⟨by omega, by omega, fun s hs => by have := h4 s hs; omega, a1, b1, by omega, by omega, by omega⟩
theorem nmQ_zT : NmQ zT := ⟨by decide, by decide, fun s hs => by simp [zT] at hs, fun x hx => by simp [zT] at hx, fun x hx => by simp [zT] at hx, by decide, by decide, by decide⟩
theorem NmQ.t {t : Ty} (h : NmQ t) : NmT t := ⟨by have := h.n; omega, by have := h.p; omega, fun s hs => by have := h.c s hs; omega, fun x hx => by have := h.o x hx; omega, fun x hx => by have := h.a x hx; omega, h.lo, h.la, h.lc⟩
theorem fewL_oneF {l : List Ty} (h : fewL l = true) {t : Ty} (ht : t ∈ l) : oneB t = true := by
  unfold fewL at h
  rw [decide_eq_true_eq] at h
  obtain ⟨k, hk, rfl⟩ := List.mem_iff_getElem.1 ht
  exact (h k hk).2
theorem nmQ_get {l : List Ty} (h : fewL l = true) (s : ByteArray) : NmQ ((parN l s).getD zT) := by
  cases hp : parN l s with
  | none => exact nmQ_zT
  | some o => exact nmQ_of (fewL_oneF h (parN_some hp).1)
/-- The event's block: what is read of it. -/
def BxE (g : Nat) (a b c : Int) (k : ByteArray) (u : Value) (w : World) : Prop := (w.cell? ⟨g, 0, none⟩ = some (.int .i64 a) ∧ w.cell? ⟨g, 1, none⟩ = some (.int .i64 b) ∧ w.cell? ⟨g, 2, none⟩ = some (.int .i64 c)) ∧ w.cell? ⟨g, 3, none⟩ = some (.string k) ∧ w.cell? ⟨g, 4, none⟩ = some u
theorem BxE.of {g : Nat} {a b c : Int} {k : ByteArray} {u : Value} {w : World} {ty : TypeId} {z : Nat × Nat} (h : w.heap[g]? = some (.cells (evA a b c k u) ty z)) : BxE g a b c k u w := by
  have e : ∀ j, w.cell? ⟨g, j, none⟩ = (evA a b c k u)[j]? := fun j => by rw [Lib.cell_of_heap h]
  exact ⟨⟨e 0, e 1, e 2⟩, e 3, e 4⟩
set_option maxRecDepth 100000 in
set_option maxHeartbeats 8000000 in
theorem forestFits_walk (v : Value) (L : List LT) (a b c : Int) (k : ByteArray) (u : Value) (l : List At) (s : ByteArray) (w : World) (hL : IsTys w v L) (hl : L.length ≤ 140737488355328) (hi : ∀ x ∈ L, InT x.t) (hq : IsRow w 4 u l.length (aCells l)) (hal : l.length ≤ 140737488355328) (hW : W3 w) :
    Calls Tryz.prog 5 #[v, .agg (evA a b c k u), .string s] w fun e w' => e = .returned (.bool true) ∧ Below w.heap.size w w' := by
  obtain ⟨al, cl, rfl⟩ := hL.1.form
  obtain ⟨au, cu, rfl⟩ := hq.form
  obtain ⟨W0, hW0⟩ : ∃ W0, W0 = w.alloc (.cells (evA a b c k (.slice au l.length cu)) 63) := ⟨_, rfl⟩
  have hA : Below w.heap.size w W0 := by rw [hW0]; exact al_b w _
  have hn0 : W0.heap[w.heap.size]? = some (.cells (evA a b c k (.slice au l.length cu)) 63 (0, 0)) := by rw [hW0]; exact new_at w _
  have hz0 : w.heap.size < W0.heap.size := (Array.getElem?_eq_some_iff.1 hn0).1
  have HBw : Hid (∀ W, Below W0.heap.size W0 W → Below w.heap.size w W) := fun W h => hA.trans (h.mono hA.size)
  have HE : Hid (∀ W, Below W0.heap.size W0 W → BxE w.heap.size a b c k (.slice au l.length cu) W) := fun W h => BxE.of ((h.block _ hz0).trans hn0)
  have HEz : Hid (∀ W, Below W0.heap.size W0 W → w.heap.size < W.heap.size ∧ W.frozen? ⟨w.heap.size, 3, none⟩ = false) := fun W h => ⟨Nat.lt_of_lt_of_le hz0 h.size, Lib.frozen_of_heap ((h.block _ hz0).trans hn0) 3⟩
  have HW : Hid (∀ W, Below W0.heap.size W0 W → W3 W) := fun W h => hW.below (HBw.out W h)
  have HAw : Hid (∀ W, Below W0.heap.size W0 W → Calls Tryz.prog 10 #[] W fun e w' => e = .returned (.bool true) ∧ Below W.heap.size W w') := fun W h => awake5_any W (HW.out W h)
  have HAwW : Hid (∀ W, Below w.heap.size w W → Calls Tryz.prog 10 #[] W fun e w' => e = .returned (.bool true) ∧ Below W.heap.size W w') := fun W h => awake5_any W (hW.below h)
  have HFw : Hid (∀ W, Below W0.heap.size W0 W → Calls Tryz.prog 7 #[.slice al L.length cl] W fun e w' => e = .returned (.bool (fewL (tys L))) ∧ Below W.heap.size W w') := fun W h => fewT_any _ L W (hL.below (HBw.out W h)) hl hi
  have HFa : Hid (∀ W, Below W0.heap.size W0 W → Calls Tryz.prog 26 #[.slice au l.length cu] W fun e w' => e = .returned (.bool (fewA l)) ∧ w' = W) := fun W h => fewA_any _ l W (hq.below (HBw.out W h)) hal
  have HLs : Hid (∀ W, Below W0.heap.size W0 W → IsTys W (.slice al L.length cl) L) := fun W h => hL.below (HBw.out W h)
  have HQ : Hid (∀ W, Below w.heap.size w W → IsRow W 4 (.slice au l.length cu) l.length (aCells l)) := fun W h => hq.below h
  have HWw : Hid (∀ W, Below w.heap.size w W → W3 W) := fun W h => hW.below h
  have HW0 : Hid (Below W0.heap.size W0 W0) := Below.refl _ _
  clear hL hl hi hW hA hn0 hz0 hq hal
  go_enter Tryz.func5, Tryz.ntmps5
  go_wp2_with fail
  rw [← hW0]
  clear hW0
  refine (HFw.out _ HW0.out).mono ?_
  rintro e w1 ⟨rfl, hb⟩
  have Hw1 : Hid (Below W0.heap.size W0 w1) := hb
  clear hb HFw
  cases hf : fewL (tys L)
  · clear hf HE HEz HLs HW HFa HQ HWw
    go_wp2_with fail
    refine (HAw.out _ Hw1.out).mono ?_
    rintro e wz ⟨rfl, hb⟩
    have HBz : Hid (Below w.heap.size w wz) := HBw.out _ (Hw1.out.trans (hb.mono Hw1.out.size))
    clear hb
    go_wp2
    go_ret
    exact ⟨rfl, HBz.out⟩
  obtain ⟨f1, f2, f3⟩ := fewL_ok hf
  obtain ⟨⟨q0, q1, q2⟩, q3, q4⟩ := HE.out _ Hw1.out
  obtain ⟨q5, q6⟩ := HEz.out _ Hw1.out
  by_cases h0 : k.size ≤ 200
  rotate_left
  · have d0 : decide ((200 : Int) < (k.size : Int)) = true := by simp; omega
    clear hf HE HEz HLs HW f1 f2 f3 HFa HQ HWw
    go_wp2_with fail
    refine (HAw.out _ Hw1.out).mono ?_
    rintro e wz ⟨rfl, hb⟩
    have HBz : Hid (Below w.heap.size w wz) := HBw.out _ (Hw1.out.trans (hb.mono Hw1.out.size))
    clear hb
    go_wp2
    go_ret
    exact ⟨rfl, HBz.out⟩
  have d0 : decide ((200 : Int) < (k.size : Int)) = false := by simp; omega
  by_cases h1 : s.size ≤ 200
  rotate_left
  · have d1 : decide ((200 : Int) < (s.size : Int)) = true := by simp; omega
    clear hf HE HEz HLs HW f1 f2 f3 HFa HQ HWw
    go_wp2_with fail
    refine (HAw.out _ Hw1.out).mono ?_
    rintro e wz ⟨rfl, hb⟩
    have HBz : Hid (Below w.heap.size w wz) := HBw.out _ (Hw1.out.trans (hb.mono Hw1.out.size))
    clear hb
    go_wp2
    go_ret
    exact ⟨rfl, HBz.out⟩
  have d1 : decide ((200 : Int) < (s.size : Int)) = false := by simp; omega
  go_wp2_with fail
  refine (HFa.out _ Hw1.out).mono ?_
  rintro e w1' ⟨rfl, rfl⟩
  cases hfa : fewA l
  · clear hf hfa HE HEz HLs HW f1 f2 f3 HFa HQ HWw
    go_wp2_with fail
    refine (HAw.out _ Hw1.out).mono ?_
    rintro e wz ⟨rfl, hb⟩
    have HBz : Hid (Below w.heap.size w wz) := HBw.out _ (Hw1.out.trans (hb.mono Hw1.out.size))
    clear hb
    go_wp2
    go_ret
    exact ⟨rfl, HBz.out⟩
  obtain ⟨e1, e2, e3⟩ := fewA_short hfa
  rename World => w1
  have HIs : Hid (∀ W, Below W0.heap.size W0 W → Calls Tryz.prog 31 #[.slice al L.length cl] W fun e w' => e = .returned (.bool (isB (tys L))) ∧ Below W.heap.size W w') := fun W h => is_any _ L W (HLs.out _ h) (by omega) f2 (HW.out _ h)
  have HFi : Hid (∀ (s : ByteArray) W, s.size ≤ 200000 → Below W0.heap.size W0 W → Calls Tryz.prog 28 #[.slice al L.length cl, .string s] W fun e w' => FnP L s W e w') := fun s W hs h => findT_any _ L s W (HLs.out W h) (by omega) (nmN f2) f3 (by omega) (HW.out W h).t
  have HAt : Hid (∀ W, Below W0.heap.size W0 W → Calls Tryz.prog 27 #[.slice au l.length cu] W fun e w' => ∃ x y, e = .returned (.slice x l.length y) ∧ IsRow w' 4 (.slice x l.length y) l.length (aCells l) ∧ Below W.heap.size W w') := fun W h => (attrsR_any _ l W (HQ.out _ (HBw.out W h)) (by omega)).mono fun e w' ⟨v1, h1, h2, h3⟩ => by
    obtain ⟨x, y, rfl⟩ := h2.form
    exact ⟨x, y, h1, h2, h3⟩
  have HFt : Hid (∀ (o : LT) (k : ByteArray) W, Below w.heap.size w W → IsTy W o.t o.vo o.va o.vc → NmQ o.t → k.size ≤ 200000 → Calls Tryz.prog 29 #[ltV o, .agg (evA a b c k (.slice au l.length cu))] W fun e w' => e = .returned (.int .i64 (fitsT o.t k l)) ∧ Below W.heap.size W w') := fun o k W h hI no hk => fitsT_any o a b c k _ l W hI no.t (by omega) (HQ.out _ h) (by omega) e2 (HWw.out W h)
  have HRt : Hid (∀ (o : LT) W, IsTy W o.t o.vo o.va o.vc → NmQ o.t → Calls Tryz.prog 17 #[ltV o] W fun e w' => RtP o.t W e w') := fun o W hI no => refT_any o W hI no.lo no.la
  have HRF : Hid (∀ (o : LT) (x : Option Addr) (y : Nat) W, IsTy W o.t o.vo o.va o.vc → NmQ o.t → IsRow W 4 (.slice x l.length y) l.length (aCells l) → Calls Tryz.prog 30 #[ltV o, .string k, .slice x l.length y] W fun e w' => e = .returned (.int .i64 (fitsT o.t k l)) ∧ Below W.heap.size W w') := fun o x y W hI no hr => refFitsT_any o k _ l W hI no (by omega) hr (by omega) e3
  have HNm : Hid (∀ s, NmQ ((parN (tys L) s).getD zT)) := fun s => nmQ_get hf s
  have HNl : Hid (∀ (j : Nat) (h : j < l.length), l[j].n.size ≤ 200000) := fun j h => (e3 _ (List.getElem_mem h)).1
  have HRr : Hid (∀ (o : LT) W, IsTy W o.t o.vo o.va o.vc → NmQ o.t → Calls Tryz.prog 11 #[o.va] W fun e w' => ∃ x y, e = .returned (.slice x o.t.all.length y) ∧ IsRow w' 3 (.slice x o.t.all.length y) o.t.all.length (fCells o.t.all) ∧ Below W.heap.size W w') := fun o W hI no => (refs_any _ o.t.all W hI.2.1 no.la).mono fun e w' ⟨v1, h1, h2, h3⟩ => by
    obtain ⟨x, y, rfl⟩ := h2.form
    exact ⟨x, y, h1, h2, h3⟩
  have HRn : Hid (∀ (o : LT) (x : Option Addr) (y : Nat) (j : Nat) (hj : j < l.length) W, NmQ o.t → IsRow W 3 (.slice x o.t.all.length y) o.t.all.length (fCells o.t.all) → Calls Tryz.prog 32 #[.slice x o.t.all.length y, .string l[j].n] W fun e w' => ∃ r, e = .returned (.int .i64 r) ∧ FiR o.t.all l[j].n r ∧ Below W.heap.size W w') := fun o x y j hj W no hr => refFindF_any _ o.t.all _ W hr no.la no.a (HNl.out j hj)
  have HLl : Hid (l.length ≤ 41) := e1
  clear hf hfa HLs HW f1 f2 f3 e2 e3 HFa
  go_wp2_with fail
  refine (HAt.out _ Hw1.out).mono ?_
  rintro e w2 ⟨x2, y2, rfl, hr2, hb⟩
  have Hw2 : Hid (Below W0.heap.size W0 w2) := Hw1.out.trans (hb.mono Hw1.out.size)
  have HR2 : Hid (∀ W, Below w2.heap.size w2 W → IsRow W 4 (.slice x2 l.length y2) l.length (aCells l)) := fun W h => hr2.below h
  clear hb hr2 q0 q1 q2 q3 q4 q5 q6 HAt
  go_wp2_with fail
  refine (HFi.out s _ (by omega) Hw2.out).mono ?_
  rintro e wf0 ⟨t, rfl, htt, htI, -, hb⟩
  have Hwf0 : Hid (Below W0.heap.size W0 wf0) := Hw2.out.trans (hb.mono Hw2.out.size)
  obtain ⟨Wa, hWa⟩ : ∃ Wa, Wa = wf0.alloc (.cells (tyA t.t t.vo t.va t.vc) 30) := ⟨_, rfl⟩
  have hb2 : Below wf0.heap.size wf0 Wa := by rw [hWa]; exact al_b _ _
  have hn2 : Wa.heap[wf0.heap.size]? = some (.cells (tyA t.t t.vo t.va t.vc) 30 (0, 0)) := by rw [hWa]; exact new_at _ _
  have hb02 : Below w2.heap.size w2 Wa := hb.trans (hb2.mono hb.size)
  have HWa : Hid (Below W0.heap.size W0 Wa) := Hwf0.out.trans (hb2.mono Hwf0.out.size)
  have HXt : Hid (∀ W, Below Wa.heap.size Wa W → BxT wf0.heap.size t.t t.vo t.va t.vc W ∧ IsTy W t.t t.vo t.va t.vc ∧ wf0.heap.size < W.heap.size ∧ Below W0.heap.size W0 W ∧ IsRow W 4 (.slice x2 l.length y2) l.length (aCells l)) := fun W h => ⟨BxT.of ((h.block _ (Array.getElem?_eq_some_iff.1 hn2).1).trans hn2), (htI.below hb2).below h, Nat.lt_of_lt_of_le (Array.getElem?_eq_some_iff.1 hn2).1 h.size, HWa.out.trans (h.mono HWa.out.size), HR2.out W (hb02.trans (h.mono hb02.size))⟩
  have HNt : Hid (NmQ t.t) := by show NmQ t.t; rw [htt]; exact HNm.out s
  have HTt : Hid (t.t = (parN (tys L) s).getD zT) := htt
  clear hb hb2 hn2 hb02 htt htI HR2
  obtain ⟨⟨q0, q1, q2⟩, q3, q4⟩ := HE.out _ Hwf0.out
  obtain ⟨q5, q6⟩ := HEz.out _ Hwf0.out
  have HSS : Hid (∀ W, Below Wa.heap.size Wa W → BxE w.heap.size a b c k (.slice au l.length cu) W ∧ BxT wf0.heap.size t.t t.vo t.va t.vc W) := fun W h => ⟨HE.out W (HXt.out W h).2.2.2.1, (HXt.out W h).1⟩
  have HRd : Hid (Below Wa.heap.size Wa Wa.drew) := (Below.refl _ _).drew
  have HtBw : Hid (∀ W, Below Wa.heap.size Wa W → Below w.heap.size w W) := fun W h => HBw.out W (HXt.out W h).2.2.2.1
  have hF0 : Hid (∃ F, F = fitsT t.t k l) := ⟨_, rfl⟩
  obtain ⟨F, hFF⟩ := hF0.out
  have HFt1 : Hid (∀ W, Below Wa.heap.size Wa W → Calls Tryz.prog 29 #[ltV t, .agg (evA a b c k (.slice au l.length cu))] W fun e w' => e = .returned (.int .i64 F) ∧ Below W.heap.size W w') := fun W h => by rw [hFF]; exact HFt.out t k W (HtBw.out W h) (HXt.out W h).2.1 HNt.out (by omega)
  have HRF1 : Hid (∀ (o : LT) W, o.t = t.t → Below Wa.heap.size Wa W → IsTy W o.t o.vo o.va o.vc → Calls Tryz.prog 30 #[ltV o, .string k, .slice x2 l.length y2] W fun e w' => e = .returned (.int .i64 F) ∧ Below W.heap.size W w') := fun o W e h hI => by rw [hFF, ← e]; exact HRF.out o x2 y2 W hI (by rw [e]; exact HNt.out) (HXt.out W h).2.2.2.2
  have HFF : Hid (F = fitsT t.t k l) := hFF
  clear hFF hF0 HRF
  go_wp2_with fail
  rw [← hWa]
  clear hWa
  clear q0 q1 q2 q3 q4 q5 q6
  go_cut [52] (fun e0 wx => e0 = .bool false ∧ Hid (Below Wa.heap.size Wa wx))
  case first =>
    refine wp_region_held_drew (S := fun w' => BxE w.heap.size a b c k (.slice au l.length cu) w' ∧ BxT wf0.heap.size t.t t.vo t.va t.vc w') (by kernel_rfl) (HSS.out _ HRd.out) (fun hHeld => ?_)
    generalize Wa.drew = wd at *
    refine wpAnyH_take (i := 0) (v := ?_) rfl (by kernel_rfl) (by kernel_rfl) (by kernel_rfl) (fun _ _ _ h => h) (Or.inl ⟨by rfl, ?_⟩) hHeld ?_
    rotate_left 1
    · intro w9 hSw; obtain ⟨⟨⟨k0, k1, k2⟩, k3, k4⟩, ⟨g0, g1, g2, g3⟩, g4, g5, g6, g7⟩ := hSw; go_simp; try with_reducible rfl
    change wpAnyH _ _ _ _ _ _ _ (Act.put _ (some 43) _) _
    simp only [Act.put, List.setIfInBounds_toArray, List.set_cons_zero, List.set_cons_succ]
    refine wpAnyH_take (i := 1) (v := ?_) rfl (by kernel_rfl) (by kernel_rfl) (by kernel_rfl) (fun _ _ _ h => h) (Or.inl ⟨by rfl, ?_⟩) hHeld ?_
    rotate_left 1
    · intro w9 hSw; obtain ⟨⟨⟨k0, k1, k2⟩, k3, k4⟩, ⟨g0, g1, g2, g3⟩, g4, g5, g6, g7⟩ := hSw; go_simp; try with_reducible rfl
    change wpAnyH _ _ _ _ _ _ _ (Act.put _ (some 44) _) _
    simp only [Act.put, List.setIfInBounds_toArray, List.set_cons_zero, List.set_cons_succ]
    refine wpAnyH_take (i := 3) (v := ?_) rfl (by kernel_rfl) (by kernel_rfl) (by kernel_rfl) (fun _ _ _ h => h) (Or.inl ⟨by rfl, ?_⟩) hHeld ?_
    rotate_left 1
    · intro w9 hSw; obtain ⟨⟨⟨k0, k1, k2⟩, k3, k4⟩, ⟨g0, g1, g2, g3⟩, g4, g5, g6, g7⟩ := hSw; go_simp; try with_reducible rfl
    change wpAnyH _ _ _ _ _ _ _ (Act.put _ (some 46) _) _
    simp only [Act.put, List.setIfInBounds_toArray, List.set_cons_zero, List.set_cons_succ]
    refine wpAnyH_take (i := 5) (v := ?_) rfl (by kernel_rfl) (by kernel_rfl) (by kernel_rfl) (fun _ _ _ h => h) (Or.inl ⟨by rfl, ?_⟩) hHeld ?_
    rotate_left 1
    · intro w9 hSw; obtain ⟨⟨⟨k0, k1, k2⟩, k3, k4⟩, ⟨g0, g1, g2, g3⟩, g4, g5, g6, g7⟩ := hSw; go_simp; try with_reducible rfl
    change wpAnyH _ _ _ _ _ _ _ (Act.put _ (some 48) _) _
    simp only [Act.put, List.setIfInBounds_toArray, List.set_cons_zero, List.set_cons_succ]
    refine wpAnyH_take (i := 6) (v := ?_) rfl (by kernel_rfl) (by kernel_rfl) (by kernel_rfl) (fun _ _ _ h => h) (Or.inl ⟨by rfl, ?_⟩) hHeld ?_
    rotate_left 1
    · intro w9 hSw; obtain ⟨⟨⟨k0, k1, k2⟩, k3, k4⟩, ⟨g0, g1, g2, g3⟩, g4, g5, g6, g7⟩ := hSw; go_simp; try with_reducible rfl
    change wpAnyH _ _ _ _ _ _ _ (Act.put _ (some 49) _) _
    simp only [Act.put, List.setIfInBounds_toArray, List.set_cons_zero, List.set_cons_succ]
    refine wpAnyH_take (i := 7) (v := ?_) rfl (by kernel_rfl) (by kernel_rfl) (by kernel_rfl) (fun _ _ _ h => h) (Or.inl ⟨by rfl, ?_⟩) hHeld ?_
    rotate_left 1
    · intro w9 hSw; obtain ⟨⟨⟨k0, k1, k2⟩, k3, k4⟩, ⟨g0, g1, g2, g3⟩, g4, g5, g6, g7⟩ := hSw; go_simp; try with_reducible rfl
    change wpAnyH _ _ _ _ _ _ _ (Act.put _ (some 50) _) _
    simp only [Act.put, List.setIfInBounds_toArray, List.set_cons_zero, List.set_cons_succ]
    refine wpAnyH_ready (rs := [2]) (by kernel_rfl) (by simp) ?_
    refine AllReadyH.cons rfl (fun K hK => ?_) AllReadyH.nil
    go_simp
    refine (HFt1.out _ HRd.out).mono ?_
    rintro e v4 ⟨rfl, hb⟩
    have Hv4 : Hid (Below Wa.heap.size Wa v4) := HRd.out.trans (hb.mono HRd.out.size)
    clear hb
    go_simp
    refine hK.out _ _ (HSS.out _ Hv4.out) (fun hHeld => ?_)
    clear hK K
    refine wpAnyH_ready (rs := [4]) (by kernel_rfl) (by simp) ?_
    refine AllReadyH.cons rfl (fun K hK => ?_) AllReadyH.nil
    go_simp
    refine (HRt.out t _ (HXt.out _ Hv4.out).2.1 HNt.out).mono ?_
    rintro e v5 ⟨y, rfl, hyt, hyI, hb⟩
    have Hv5 : Hid (Below Wa.heap.size Wa v5) := Hv4.out.trans (hb.mono Hv4.out.size)
    clear hb
    go_simp
    refine hK.out _ _ (HSS.out _ Hv5.out) (fun hHeld => ?_)
    clear hK K
    refine wpAnyH_ready (rs := [8]) (by kernel_rfl) (by simp) ?_
    refine AllReadyH.cons rfl (fun K hK => ?_) AllReadyH.nil
    go_simp
    refine (HRF1.out y _ hyt Hv5.out hyI).mono ?_
    rintro e v6 ⟨rfl, hb⟩
    have Hv6 : Hid (Below Wa.heap.size Wa v6) := Hv5.out.trans (hb.mono Hv5.out.size)
    clear hb
    go_simp
    refine hK.out _ _ (HSS.out _ Hv6.out) (fun hHeld => ?_)
    clear hK K
    refine wpAnyH_take (i := 9) (v := ?_) rfl (by kernel_rfl) (by kernel_rfl) (by kernel_rfl) (fun _ _ _ h => h) (Or.inl ⟨by rfl, ?_⟩) hHeld ?_
    rotate_left 1
    · intro w9 hSw; obtain ⟨⟨⟨k0, k1, k2⟩, k3, k4⟩, ⟨g0, g1, g2, g3⟩, g4, g5, g6, g7⟩ := hSw; go_simp; try with_reducible rfl
    change wpAnyH _ _ _ _ _ _ _ (Act.put _ (some 52) _) _
    simp only [Act.put, List.setIfInBounds_toArray, List.set_cons_zero, List.set_cons_succ]
    refine wpAnyH_done (by kernel_rfl) ?_ _
    try go_wp2_with fail
    go_meet
    exact ⟨by simp, Hv6.out⟩
  case rest =>
  obtain ⟨rfl, Hw3⟩ := hcut
  obtain ⟨⟨⟨q0, q1, q2⟩, q3, q4⟩, ⟨a0, a1, a2, a3⟩, a4, a5, a6, a7⟩ := HSS.out _ Hw3.out
  clear HRF1 HRt HRd
  go_wp2_with fail
  refine (HFi.out _ _ HNt.out.p (HXt.out _ Hw3.out).2.2.2.1).mono ?_
  rintro e wf1 ⟨o, rfl, hot, hoI, hoN, hb⟩
  have Hwf1 : Hid (Below Wa.heap.size Wa wf1) := Hw3.out.trans (hb.mono Hw3.out.size)
  obtain ⟨Wb, hWb⟩ : ∃ Wb, Wb = wf1.alloc (.cells (tyA o.t o.vo o.va o.vc) 30) := ⟨_, rfl⟩
  have hb2 : Below wf1.heap.size wf1 Wb := by rw [hWb]; exact al_b _ _
  have hn2 : Wb.heap[wf1.heap.size]? = some (.cells (tyA o.t o.vo o.va o.vc) 30 (0, 0)) := by rw [hWb]; exact new_at _ _
  have HWb : Hid (Below Wa.heap.size Wa Wb) := Hwf1.out.trans (hb2.mono Hwf1.out.size)
  have hgt : w.heap.size < wf1.heap.size := (HEz.out _ (HXt.out _ Hwf1.out).2.2.2.1).1
  have HXo : Hid (∀ W, Below Wb.heap.size Wb W → BxT wf1.heap.size o.t o.vo o.va o.vc W ∧ IsTy W o.t o.vo o.va o.vc ∧ wf1.heap.size < W.heap.size ∧ Below Wa.heap.size Wa W ∧ Below W0.heap.size W0 W) := fun W h => ⟨BxT.of ((h.block _ (Array.getElem?_eq_some_iff.1 hn2).1).trans hn2), (hoI.below hb2).below h, Nat.lt_of_lt_of_le (Array.getElem?_eq_some_iff.1 hn2).1 h.size, HWb.out.trans (h.mono HWb.out.size), (HXt.out _ (HWb.out.trans (h.mono HWb.out.size))).2.2.2.1⟩
  have HoN : Hid (NewT (w.heap.size + 1) o) := hoN.le (by have := (HEz.out _ (HXt.out _ Hw3.out).2.2.2.1).1; omega)
  have HoG : Hid (w.heap.size < wf1.heap.size) := hgt
  have HNo : Hid (NmQ o.t) := by show NmQ o.t; rw [hot]; exact HNm.out _
  have HTo : Hid (o.t = (parN (tys L) t.t.p).getD zT) := hot
  have hWbr : Below Wb.heap.size Wb Wb := Below.refl _ _
  have HWb0 : Hid (Below W0.heap.size W0 Wb) := (HXo.out _ hWbr).2.2.2.2
  clear hb hb2 hn2 hot hoI hoN hgt hWbr q0 q1 q2 q3 q4 a0 a1 a2 a3 a4 a5 a6 a7 HFi HNm
  cases hs0 : (parN (tys L) s).isSome
  · clear HXt HXo HSS HNt HTt HNo HTo HE HEz HFt HFt1 HRr HRn HIs HQ HWw HFF
    go_wp2_with fail
    rw [← hWb]
    clear hWb
    refine (HAw.out _ HWb0.out).mono ?_
    rintro e wz ⟨rfl, hb⟩
    have HBz : Hid (Below w.heap.size w wz) := HBw.out _ (HWb0.out.trans (hb.mono HWb0.out.size))
    clear hb
    go_wp2
    go_ret
    exact ⟨rfl, HBz.out⟩
  cases hs1 : (parN (tys L) t.t.p).isSome
  · clear HXt HXo HSS HNt HTt HNo HTo HE HEz HFt HFt1 HRr HRn HIs HQ HWw HFF hs0
    go_wp2_with fail
    rw [← hWb]
    clear hWb
    refine (HAw.out _ HWb0.out).mono ?_
    rintro e wz ⟨rfl, hb⟩
    have HBz : Hid (Below w.heap.size w wz) := HBw.out _ (HWb0.out.trans (hb.mono HWb0.out.size))
    clear hb
    go_wp2
    go_ret
    exact ⟨rfl, HBz.out⟩
  go_wp2_with fail
  rw [← hWb]
  clear hWb
  refine (HIs.out _ HWb0.out).mono ?_
  rintro e w4 ⟨rfl, hb⟩
  have Hw4 : Hid (Below Wb.heap.size Wb w4) := hb
  have Hw40 : Hid (Below W0.heap.size W0 w4) := HWb0.out.trans (hb.mono HWb0.out.size)
  clear hb HIs
  cases hib : isB (tys L)
  · clear hib HXt HXo HSS HNt HTt HNo HTo HE HEz HFt HFt1 HRr HRn HQ HWw HFF hs0 hs1
    go_wp2_with fail
    refine (HAw.out _ Hw40.out).mono ?_
    rintro e wz ⟨rfl, hb⟩
    have HBz : Hid (Below w.heap.size w wz) := HBw.out _ (Hw40.out.trans (hb.mono Hw40.out.size))
    clear hb
    go_wp2
    go_ret
    exact ⟨rfl, HBz.out⟩
  have HSS2 : Hid (∀ W, Below Wb.heap.size Wb W → (BxE w.heap.size a b c k (.slice au l.length cu) W ∧ BxT wf0.heap.size t.t t.vo t.va t.vc W) ∧ BxT wf1.heap.size o.t o.vo o.va o.vc W) := fun W h => ⟨HSS.out W (HXo.out W h).2.2.2.1, (HXo.out W h).1⟩
  obtain ⟨⟨⟨⟨q0, q1, q2⟩, q3, q4⟩, ⟨a0, a1, a2, a3⟩, a4, a5, a6, a7⟩, ⟨b0, b1, b2, b3⟩, b4, b5, b6, b7⟩ := HSS2.out _ Hw4.out
  go_wp2_with fail
  refine (HFt1.out _ (HXo.out _ Hw4.out).2.2.2.1).mono ?_
  rintro e w5 ⟨rfl, hb⟩
  have Hw5 : Hid (Below Wb.heap.size Wb w5) := Hw4.out.trans (hb.mono Hw4.out.size)
  have Hw50 : Hid (Below W0.heap.size W0 w5) := (HXo.out _ Hw5.out).2.2.2.2
  clear hb HFt1 q0 q1 q2 q3 q4 a0 a1 a2 a3 a4 a5 a6 a7 b0 b1 b2 b3 b4 b5 b6 b7
  by_cases hF : F = 0
  rotate_left
  · have dF : (F == 0) = false := by simp [hF]
    have dF' : (F != 0) = true := by simp [hF]
    clear hib HXt HXo HSS HSS2 HNt HTt HNo HTo HE HEz HFt HRr HRn HQ HWw HFF hs0 hs1 hF
    go_wp2_with fail
    refine (HAw.out _ Hw50.out).mono ?_
    rintro e wz ⟨rfl, hb⟩
    have HBz : Hid (Below w.heap.size w wz) := HBw.out _ (Hw50.out.trans (hb.mono Hw50.out.size))
    clear hb
    go_wp2
    go_ret
    exact ⟨rfl, HBz.out⟩
  subst hF
  have HLess : Hid ((∀ (j : Nat) (h : j < l.length), getF o.t.all l[j].n ≠ none) → fitsT o.t o.t.n l = 0) := fun hg => by
    obtain ⟨tt, hpt⟩ := Option.isSome_iff_exists.1 hs0
    obtain ⟨oo, hpo⟩ := Option.isSome_iff_exists.1 hs1
    have et : t.t = tt := by rw [HTt.out, hpt]; rfl
    have eo : o.t = oo := by rw [HTo.out, hpo]; rfl
    have mt : t.t ∈ tys L := by rw [et]; exact (parN_some hpt).1
    rw [← eo] at hpo
    obtain ⟨-, c2, c3, c4, c5⟩ := par_sub hib mt hpo
    have hft : fitsT t.t k l = 0 := HFF.out.symm
    unfold fitsT at hft ⊢
    rw [if_pos c2, if_pos (by simp [sameL])]
    refine fits_less c3 c4 c5 (fun y hy => ?_) ?_
    · obtain ⟨j, hj, rfl⟩ := List.mem_iff_getElem.1 hy
      exact hg j hj
    · by_cases g1 : chkT t.t = true
      · rw [if_pos g1] at hft
        by_cases g2 : sameL k.data.toList t.t.n.data.toList = true
        · rw [if_pos g2] at hft; exact hft
        · rw [if_neg g2] at hft; cases hft
      · rw [if_neg g1] at hft; cases hft
  clear hs0 hs1 hib HFF HTt HTo HNt HSS
  go_wp2_with fail
  go_loopw [12, 6] (fun i r wr => r = .bool false ∧ ∃ j : Nat, j ≤ l.length ∧ i = .int .i64 (j : Int) ∧ Hid (∀ (i : Nat) (h : i < l.length), i < j → getF o.t.all l[i].n ≠ none) ∧ Hid (Below Wb.heap.size Wb wr)) (fun i _ _ => l.length - (intOf i).toNat)
  case atStart => exact ⟨rfl, 0, Nat.zero_le _, rfl, fun i h hj => absurd hj (Nat.not_lt_zero _), Hw5.out⟩
  case round =>
    clear Hw5 Hw50 Hw4 Hw40
    obtain ⟨rfl, j, hj, rfl, HO, HB⟩ := hrel
    obtain ⟨⟨⟨⟨q0, q1, q2⟩, q3, q4⟩, ⟨a0, a1, a2, a3⟩, a4, a5, a6, a7⟩, ⟨b0, b1, b2, b3⟩, b4, b5, b6, b7⟩ := HSS2.out _ HB.out
    have HB0 : Hid (Below W0.heap.size W0 wr) := (HXo.out _ HB.out).2.2.2.2
    have hl41 := HLl.out
    by_cases hlk : j < l.length
    · have dk : decide ((j : Int) < (l.length : Int)) = true := by simp; omega
      have i1 : (0 : Int) ≤ (j : Int) := by omega
      have i2 : (j : Int) < (l.length : Int) := by omega
      obtain ⟨bb, off, rfl, hlt, hcap, hc⟩ := a_at (HQ.out wr (HBw.out _ HB0.out)) (by omega)
      have HCj : Hid (∀ W, Below Wb.heap.size Wb W → W.cell? ⟨bb, off + j * 4, none⟩ = some (.string l[j].n)) := fun W h => by
        obtain ⟨b', off', e, -, -, hc'⟩ := a_at (HQ.out W (HBw.out _ (HXo.out _ h).2.2.2.2)) (by omega)
        simp only [Option.some.injEq, Addr.mk.injEq, and_true] at e
        obtain ⟨rfl, rfl⟩ := e
        exact (hc' j hlk).1
      have HRn1 : Hid (∀ (x : Option Addr) (y : Nat) W, IsRow W 3 (.slice x o.t.all.length y) o.t.all.length (fCells o.t.all) → Calls Tryz.prog 32 #[.slice x o.t.all.length y, .string l[j].n] W fun e w' => ∃ r, e = .returned (.int .i64 r) ∧ FiR o.t.all l[j].n r ∧ Below W.heap.size W w') := fun x y W hr => HRn.out o x y j hlk W HNo.out hr
      have HOj : Hid (getF o.t.all l[j].n ≠ none → ∀ (i : Nat) (h : i < l.length), i < j + 1 → getF o.t.all l[i].n ≠ none) := fun h i hi hij => by
        by_cases e : i = j
        · subst e; exact h
        · exact HO.out i hi (by omega)
      have HSS3 : Hid (∀ W, Below Wb.heap.size Wb W → (BxE w.heap.size a b c k (.slice (some ⟨bb, off, none⟩) l.length cu) W ∧ BxT wf1.heap.size o.t o.vo o.va o.vc W) ∧ W.cell? ⟨bb, off + j * 4, none⟩ = some (.string l[j].n)) := fun W h => ⟨⟨(HSS2.out W h).1.1, (HSS2.out W h).2⟩, HCj.out W h⟩
      generalize (l[j]'hlk).n = nm at *
      clear hc HO HRn HLess
      have HRd2 : Hid (Below Wb.heap.size Wb wr.drew) := HB.out.drew
      go_wp2_with fail
      clear q0 q1 q2 q3 q4 a0 a1 a2 a3 a4 a5 a6 a7 b0 b1 b2 b3 b4 b5 b6 b7
      refine wp_region_held_drew (S := fun w' => (BxE w.heap.size a b c k (.slice (some ⟨bb, off, none⟩) l.length cu) w' ∧ BxT wf1.heap.size o.t o.vo o.va o.vc w') ∧ w'.cell? ⟨bb, off + j * 4, none⟩ = some (.string nm)) (by kernel_rfl) (HSS3.out _ HRd2.out) (fun hHeld => ?_)
      generalize wr.drew = wd at *
      refine wpAnyH_take (i := 0) (v := ?_) rfl (by kernel_rfl) (by kernel_rfl) (by kernel_rfl) (fun _ _ _ h => h) (Or.inl ⟨by rfl, ?_⟩) hHeld ?_
      rotate_left 1
      · intro w9 hSw; obtain ⟨⟨⟨⟨k0, k1, k2⟩, k3, k4⟩, ⟨g0, g1, g2, g3⟩, g4, g5, g6, g7⟩, k8⟩ := hSw; go_simp; try with_reducible rfl
      change wpAnyH _ _ _ _ _ _ _ (Act.put _ (some 85) _) _
      simp only [Act.put, List.setIfInBounds_toArray, List.set_cons_zero, List.set_cons_succ]
      refine wpAnyH_take (i := 1) (v := ?_) rfl (by kernel_rfl) (by kernel_rfl) (by kernel_rfl) (fun _ _ _ h => h) (Or.inl ⟨by rfl, ?_⟩) hHeld ?_
      rotate_left 1
      · intro w9 hSw; obtain ⟨⟨⟨⟨k0, k1, k2⟩, k3, k4⟩, ⟨g0, g1, g2, g3⟩, g4, g5, g6, g7⟩, k8⟩ := hSw; go_simp; try with_reducible rfl
      change wpAnyH _ _ _ _ _ _ _ (Act.put _ (some 86) _) _
      simp only [Act.put, List.setIfInBounds_toArray, List.set_cons_zero, List.set_cons_succ]
      refine wpAnyH_take (i := 3) (v := ?_) rfl (by kernel_rfl) (by kernel_rfl) (by kernel_rfl) (fun _ _ _ h => h) (Or.inl ⟨by rfl, ?_⟩) hHeld ?_
      rotate_left 1
      · intro w9 hSw; obtain ⟨⟨⟨⟨k0, k1, k2⟩, k3, k4⟩, ⟨g0, g1, g2, g3⟩, g4, g5, g6, g7⟩, k8⟩ := hSw; go_simp; try with_reducible rfl
      change wpAnyH _ _ _ _ _ _ _ (Act.put _ (some 88) _) _
      simp only [Act.put, List.setIfInBounds_toArray, List.set_cons_zero, List.set_cons_succ]
      refine wpAnyH_take (i := 4) (v := ?_) rfl (by kernel_rfl) (by kernel_rfl) (by kernel_rfl) (fun _ _ _ h => h) (Or.inl ⟨by rfl, ?_⟩) hHeld ?_
      rotate_left 1
      · intro w9 hSw; obtain ⟨⟨⟨⟨k0, k1, k2⟩, k3, k4⟩, ⟨g0, g1, g2, g3⟩, g4, g5, g6, g7⟩, k8⟩ := hSw; go_simp; try with_reducible rfl
      change wpAnyH _ _ _ _ _ _ _ (Act.put _ (some 89) _) _
      simp only [Act.put, List.setIfInBounds_toArray, List.set_cons_zero, List.set_cons_succ]
      refine wpAnyH_take (i := 5) (v := ?_) rfl (by kernel_rfl) (by kernel_rfl) (by kernel_rfl) (fun _ _ _ h => h) (Or.inl ⟨by rfl, ?_⟩) hHeld ?_
      rotate_left 1
      · intro w9 hSw; obtain ⟨⟨⟨⟨k0, k1, k2⟩, k3, k4⟩, ⟨g0, g1, g2, g3⟩, g4, g5, g6, g7⟩, k8⟩ := hSw; go_simp; try with_reducible rfl
      change wpAnyH _ _ _ _ _ _ _ (Act.put _ (some 90) _) _
      simp only [Act.put, List.setIfInBounds_toArray, List.set_cons_zero, List.set_cons_succ]
      refine wpAnyH_take (i := 6) (v := ?_) rfl (by kernel_rfl) (by kernel_rfl) (by kernel_rfl) (fun _ _ _ h => h) (Or.inl ⟨by rfl, ?_⟩) hHeld ?_
      rotate_left 1
      · intro w9 hSw; obtain ⟨⟨⟨⟨k0, k1, k2⟩, k3, k4⟩, ⟨g0, g1, g2, g3⟩, g4, g5, g6, g7⟩, k8⟩ := hSw; go_simp; try with_reducible rfl
      change wpAnyH _ _ _ _ _ _ _ (Act.put _ (some 91) _) _
      simp only [Act.put, List.setIfInBounds_toArray, List.set_cons_zero, List.set_cons_succ]
      refine wpAnyH_take (i := 7) (v := ?_) rfl (by kernel_rfl) (by kernel_rfl) (by kernel_rfl) (fun _ _ _ h => h) (Or.inl ⟨by rfl, ?_⟩) hHeld ?_
      rotate_left 1
      · intro w9 hSw; obtain ⟨⟨⟨⟨k0, k1, k2⟩, k3, k4⟩, ⟨g0, g1, g2, g3⟩, g4, g5, g6, g7⟩, k8⟩ := hSw; go_simp; try with_reducible rfl
      change wpAnyH _ _ _ _ _ _ _ (Act.put _ (some 92) _) _
      simp only [Act.put, List.setIfInBounds_toArray, List.set_cons_zero, List.set_cons_succ]
      refine wpAnyH_take (i := 8) (v := ?_) rfl (by kernel_rfl) (by kernel_rfl) (by kernel_rfl) (fun _ _ _ h => h) (Or.inl ⟨by rfl, ?_⟩) hHeld ?_
      rotate_left 1
      · intro w9 hSw; obtain ⟨⟨⟨⟨k0, k1, k2⟩, k3, k4⟩, ⟨g0, g1, g2, g3⟩, g4, g5, g6, g7⟩, k8⟩ := hSw; go_simp; try with_reducible rfl
      change wpAnyH _ _ _ _ _ _ _ (Act.put _ (some 93) _) _
      simp only [Act.put, List.setIfInBounds_toArray, List.set_cons_zero, List.set_cons_succ]
      refine wpAnyH_ready (rs := [2]) (by kernel_rfl) (by simp) ?_
      refine AllReadyH.cons rfl (fun K hK => ?_) AllReadyH.nil
      go_simp
      refine (HRr.out o _ (HXo.out _ HRd2.out).2.1 HNo.out).mono ?_
      rintro e v5 ⟨rx, ry, rfl, hrI, hb⟩
      have Hv5 : Hid (Below Wb.heap.size Wb v5) := HRd2.out.trans (hb.mono HRd2.out.size)
      clear hb
      go_simp
      refine hK.out _ _ (HSS3.out _ Hv5.out) (fun hHeld => ?_)
      clear hK K
      refine wpAnyH_ready (rs := [9]) (by kernel_rfl) (by simp) ?_
      refine AllReadyH.cons rfl (fun K hK => ?_) AllReadyH.nil
      go_simp
      refine (HRn1.out rx ry _ hrI).mono ?_
      rintro e v6 ⟨r, rfl, hF, hb⟩
      have Hv6 : Hid (Below Wb.heap.size Wb v6) := Hv5.out.trans (hb.mono Hv5.out.size)
      have Hv60 : Hid (Below W0.heap.size W0 v6) := (HXo.out _ Hv6.out).2.2.2.2
      clear hb
      go_simp
      refine hK.out _ _ (HSS3.out _ Hv6.out) (fun hHeld => ?_)
      clear hK K
      rcases hF with ⟨m, hm, rfl, hg⟩ | ⟨rfl, hg⟩
      · have dj : decide ((m : Int) < 0) = false := by simp
        have HO2 : Hid (∀ (i : Nat) (h : i < l.length), i < j + 1 → getF o.t.all l[i].n ≠ none) := HOj.out (by rw [hg]; exact fun h => by cases h)
        clear HOj hg
        refine wpAnyH_take (i := 10) (v := ?_) rfl (by kernel_rfl) (by kernel_rfl) (by kernel_rfl) (fun _ _ _ h => h) (Or.inl ⟨by rfl, ?_⟩) hHeld ?_
        rotate_left 1
        · intro w9 hSw; obtain ⟨⟨⟨⟨k0, k1, k2⟩, k3, k4⟩, ⟨g0, g1, g2, g3⟩, g4, g5, g6, g7⟩, k8⟩ := hSw; go_simp; try with_reducible rfl
        change wpAnyH _ _ _ _ _ _ _ (Act.put _ (some 95) _) _
        simp only [Act.put, List.setIfInBounds_toArray, List.set_cons_zero, List.set_cons_succ]
        refine wpAnyH_done (by kernel_rfl) ?_ _
        go_wp2
        go_roundw
        case rel => exact ⟨rfl, j + 1, by omega, by simp, HO2.out, Hv6.out⟩
        case measure => simp [intOf]; omega
      · clear HOj hg
        refine wpAnyH_take (i := 10) (v := ?_) rfl (by kernel_rfl) (by kernel_rfl) (by kernel_rfl) (fun _ _ _ h => h) (Or.inl ⟨by rfl, ?_⟩) hHeld ?_
        rotate_left 1
        · intro w9 hSw; obtain ⟨⟨⟨⟨k0, k1, k2⟩, k3, k4⟩, ⟨g0, g1, g2, g3⟩, g4, g5, g6, g7⟩, k8⟩ := hSw; go_simp; try with_reducible rfl
        change wpAnyH _ _ _ _ _ _ _ (Act.put _ (some 95) _) _
        simp only [Act.put, List.setIfInBounds_toArray, List.set_cons_zero, List.set_cons_succ]
        refine wpAnyH_done (by kernel_rfl) ?_ _
        clear HXt HXo HSS2 HSS3 HNo HE HEz HFt HRr HRn1 HQ HWw HCj
        go_wp2_with fail
        refine (HAw.out _ Hv60.out).mono ?_
        rintro e wz ⟨rfl, hb⟩
        have HBz : Hid (Below w.heap.size w wz) := HBw.out _ (Hv60.out.trans (hb.mono Hv60.out.size))
        clear hb
        go_wp2
        go_ret
        exact ⟨rfl, HBz.out⟩
    · have hj' : j = l.length := by omega
      have dk : decide ((j : Int) < (l.length : Int)) = false := by simp; omega
      have HZ : Hid (fitsT o.t o.t.n l = 0) := HLess.out fun i h => HO.out i h (by omega)
      obtain ⟨q5, q6⟩ := HEz.out _ HB0.out
      obtain ⟨Wc, hWc⟩ : ∃ Wc, Wc = wr.setCell ⟨w.heap.size, 3, none⟩ (.string o.t.n) := ⟨_, rfl⟩
      have HBc : Hid (Below w.heap.size w Wc) := by rw [hWc]; exact (HBw.out _ HB0.out).setCell (Nat.le_refl _) _
      have hkeep : ∀ (g i : Nat), g ≠ w.heap.size ∨ i ≠ 3 → Wc.cell? ⟨g, i, none⟩ = wr.cell? ⟨g, i, none⟩ := fun g i h => by
        rw [hWc]
        refine World.cell?_setCell_other _ _ _ _ ?_
        simp only [ne_eq, Addr.mk.injEq, and_true, not_and]
        intro e1 e2
        omega
      have HEc : Hid (BxE w.heap.size a b c o.t.n (.slice au l.length cu) Wc ∧ w.heap.size < Wc.heap.size) := by
        refine ⟨⟨⟨(hkeep _ 0 (by omega)).trans q0, (hkeep _ 1 (by omega)).trans q1, (hkeep _ 2 (by omega)).trans q2⟩, ?_, (hkeep _ 4 (by omega)).trans q4⟩, ?_⟩
        · rw [hWc]; exact World.cell?_setCell_same _ _ _ q3
        · rw [hWc]; simpa using q5
      have hTr : IsTy Wc o.t o.vo o.va o.vc := by rw [hWc]; exact ty_far (HXo.out _ HB.out).2.1 HoN.out (Nat.lt_succ_self _) 3 _
      have hoB : BxT wf1.heap.size o.t o.vo o.va o.vc Wc := by
        have hne : ∀ i : Nat, wf1.heap.size ≠ w.heap.size ∨ i ≠ 3 := fun i => .inl (by have := HoG.out; omega)
        exact ⟨⟨(hkeep _ 0 (hne 0)).trans b0, (hkeep _ 1 (hne 1)).trans b1, (hkeep _ 2 (hne 2)).trans b2, (hkeep _ 3 (hne 3)).trans b3⟩, (hkeep _ 4 (hne 4)).trans b4, (hkeep _ 5 (hne 5)).trans b5, (hkeep _ 6 (hne 6)).trans b6, (hkeep _ 7 (hne 7)).trans b7⟩
      have hoz : wf1.heap.size < Wc.heap.size := by rw [hWc]; simpa using (HXo.out _ HB.out).2.2.1
      have HKc : Hid (∀ W, Below Wc.heap.size Wc W → (BxE w.heap.size a b c o.t.n (.slice au l.length cu) W ∧ BxT wf1.heap.size o.t o.vo o.va o.vc W) ∧ IsTy W o.t o.vo o.va o.vc ∧ Below w.heap.size w W) := fun W h => by
        obtain ⟨⟨⟨u0, u1, u2⟩, u3, u4⟩, uz⟩ := HEc.out
        obtain ⟨⟨v0, v1, v2, v3⟩, v4, v5, v6, v7⟩ := hoB
        exact ⟨⟨⟨⟨(h.cell (p := ⟨_, 0, none⟩) uz).trans u0, (h.cell (p := ⟨_, 1, none⟩) uz).trans u1, (h.cell (p := ⟨_, 2, none⟩) uz).trans u2⟩, (h.cell (p := ⟨_, 3, none⟩) uz).trans u3, (h.cell (p := ⟨_, 4, none⟩) uz).trans u4⟩, ⟨(h.cell (p := ⟨_, 0, none⟩) hoz).trans v0, (h.cell (p := ⟨_, 1, none⟩) hoz).trans v1, (h.cell (p := ⟨_, 2, none⟩) hoz).trans v2, (h.cell (p := ⟨_, 3, none⟩) hoz).trans v3⟩, (h.cell (p := ⟨_, 4, none⟩) hoz).trans v4, (h.cell (p := ⟨_, 5, none⟩) hoz).trans v5, (h.cell (p := ⟨_, 6, none⟩) hoz).trans v6, (h.cell (p := ⟨_, 7, none⟩) hoz).trans v7⟩, hTr.below h, HBc.out.trans (h.mono HBc.out.size)⟩
      have HFo : Hid (∀ W, Below Wc.heap.size Wc W → Calls Tryz.prog 29 #[ltV o, .agg (evA a b c o.t.n (.slice au l.length cu))] W fun e w' => e = .returned (.int .i64 0) ∧ Below W.heap.size W w') := fun W h => by
        have := HFt.out o o.t.n W (HKc.out W h).2.2 (HKc.out W h).2.1 HNo.out HNo.out.n
        rw [HZ.out] at this
        exact this
      clear hkeep hTr hoB hoz HXt HXo HSS2 HE HEz HFt HRr HRn HQ HWw HLess HO HEc HZ HAw
      go_wp2_with fail
      rw [← hWc]
      clear hWc q0 q1 q2 q3 q4 a0 a1 a2 a3 a4 a5 a6 a7 b0 b1 b2 b3 b4 b5 b6 b7 q5 q6
      refine (HAwW.out _ HBc.out).mono ?_
      rintro e w6 ⟨rfl, hb⟩
      have Hw6 : Hid (Below Wc.heap.size Wc w6) := hb
      clear hb
      obtain ⟨⟨⟨⟨q0, q1, q2⟩, q3, q4⟩, ⟨b0, b1, b2, b3⟩, b4, b5, b6, b7⟩, -, -⟩ := HKc.out _ Hw6.out
      go_wp2_with fail
      refine (HFo.out _ Hw6.out).mono ?_
      rintro e w7 ⟨rfl, hb⟩
      have HB7 : Hid (Below w.heap.size w w7) := (HKc.out _ Hw6.out).2.2.trans (hb.mono (HKc.out _ Hw6.out).2.2.size)
      clear hb q0 q1 q2 q3 q4 b0 b1 b2 b3 b4 b5 b6 b7
      go_wp2
      go_ret
      exact ⟨rfl, HB7.out⟩
end Go.Proofs.YtkcnkjaeidbjbaaGreatDoor
