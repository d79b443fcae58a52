/- ForestChains: its walk. -/
import Derived.Test.YticlejkeaagfjaaGreatDoorFoO
import Derived.Test.YticlejkeaagfjaaGreatDoorFoCh
import Derived.Test.YticlejkeaagfjaaGreatDoorZl
import Derived.Test.YticlejkeaagfjaaGreatDoorFoZ
namespace Go.Proofs.YticlejkeaagfjaaGreatDoor
open Go.RowKit Go.ChangeMaps

/-- The names of a forest's fields are short. -/
theorem nmr_of {t : Ty} (h : oneB t = true) : NmR t.own ∧ NmR t.all := by
  unfold oneB at h
  simp only [Bool.and_eq_true, decide_eq_true_eq] at h
  obtain ⟨-, -, -, -, h5, h6⟩ := h
  have key : ∀ l : List Fd, fewF l = true → NmR l := fun l h y hy => by
    unfold fewF at h
    rw [decide_eq_true_eq] at h
    obtain ⟨k, hk, rfl⟩ := List.mem_iff_getElem.1 hy
    have := (h k hk).2
    omega
  exact ⟨key _ h5, key _ h6⟩
theorem fewL_one {L : List LT} (h : fewL (tys L) = true) {t : Ty} (ht : t ∈ tys L) : oneB t = true := by
  unfold fewL at h
  rw [decide_eq_true_eq] at h
  obtain ⟨k, hk, rfl⟩ := List.mem_iff_getElem.1 ht
  exact (h k hk).2
theorem chk_all {t : Ty} (h : chkT t = true) : chkF t.all = true := by
  obtain ⟨-, -, -, -, hr⟩ := (chkT_iff t).1 h
  unfold chkR at hr
  simp only [Bool.and_eq_true] at hr
  exact hr.2.2.1
set_option maxRecDepth 100000 in
set_option maxHeartbeats 8000000 in
theorem forestChains_walk (v : Value) (L : List LT) (s0 s1 s2 : ByteArray) (w : World) (hL : IsTys w v L) (hl : L.length ≤ 140737488355328) (hi : ∀ x ∈ L, InT x.t) (hW : W3 w) :
    Calls Tryz.prog 4 #[v, .agg #[.string s0, .string s1, .string s2]] w fun e w' => e = .returned (.bool true) ∧ Below w.heap.size w w' := by
  obtain ⟨al, cl, rfl⟩ := hL.1.form
  obtain ⟨W0, hW0⟩ : ∃ W0, W0 = w.alloc (.cells #[.string s0, .string s1, .string s2] 44) := ⟨_, rfl⟩
  have hA : Below w.heap.size w W0 := by rw [hW0]; exact al_b w _
  have hn0 : W0.heap[w.heap.size]? = some (.cells #[.string s0, .string s1, .string s2] 44 (0, 0)) := by rw [hW0]; exact new_at w _
  have hz0 : w.heap.size < W0.heap.size := (Array.getElem?_eq_some_iff.1 hn0).1
  have HBw : Hid (∀ W, Below W0.heap.size W0 W → Below w.heap.size w W) := fun W h => hA.trans (h.mono hA.size)
  have HS : Hid (∀ W, Below W0.heap.size W0 W → (W.cell? ⟨w.heap.size, 0, none⟩ = some (.string s0) ∧ W.cell? ⟨w.heap.size, 1, none⟩ = some (.string s1) ∧ W.cell? ⟨w.heap.size, 2, none⟩ = some (.string s2)) ∧ w.heap.size < W.heap.size) := fun W h => by
    have e : ∀ j, W.cell? ⟨w.heap.size, j, none⟩ = (#[.string s0, .string s1, .string s2] : Array Value)[j]? := fun j => by rw [Lib.cell_of_heap ((h.block _ hz0).trans hn0)]
    exact ⟨⟨e 0, e 1, e 2⟩, Nat.lt_of_lt_of_le hz0 h.size⟩
  have HW : Hid (∀ W, Below W0.heap.size W0 W → W3 W) := fun W h => hW.below (HBw.out W h)
  have HAw : Hid (∀ W, Below W0.heap.size W0 W → Calls Tryz.prog 16 #[] W fun e w' => e = .returned (.bool true) ∧ Below W.heap.size W w') := fun W h => awake5_any W (HW.out W h)
  have HFw : Hid (∀ W, Below W0.heap.size W0 W → Calls Tryz.prog 17 #[.slice al L.length cl] W fun e w' => e = .returned (.bool (fewL (tys L))) ∧ Below W.heap.size W w') := fun W h => fewT_any _ L W (hL.below (HBw.out W h)) hl hi
  have HLs : Hid (∀ W, Below W0.heap.size W0 W → IsTys W (.slice al L.length cl) L) := fun W h => hL.below (HBw.out W h)
  have HW0 : Hid (Below W0.heap.size W0 W0) := Below.refl _ _
  clear hL hl hi hW hA hn0 hz0
  go_enter Tryz.func4, Tryz.ntmps4
  go_wp2_with fail
  rw [← hW0]
  clear hW0
  refine (HFw.out _ HW0.out).mono ?_
  rintro e w1 ⟨rfl, hb⟩
  have Hw1 : Hid (Below W0.heap.size W0 w1) := hb
  clear hb HFw
  cases hf : fewL (tys L)
  · clear hf HS HLs HW
    go_wp2_with fail
    refine (HAw.out _ Hw1.out).mono ?_
    rintro e wz ⟨rfl, hb⟩
    have HBz : Hid (Below w.heap.size w wz) := HBw.out _ (Hw1.out.trans (hb.mono Hw1.out.size))
    clear hb
    go_wp2
    go_ret
    exact ⟨rfl, HBz.out⟩
  obtain ⟨f1, f2, f3⟩ := fewL_ok hf
  obtain ⟨⟨q0, q1, q2⟩, q3⟩ := HS.out _ Hw1.out
  by_cases h0 : s0.size ≤ 200
  rotate_left
  · have d0 : decide ((200 : Int) < (s0.size : Int)) = true := by simp; omega
    clear hf HS HLs HW f1 f2 f3
    go_wp2_with fail
    refine (HAw.out _ Hw1.out).mono ?_
    rintro e wz ⟨rfl, hb⟩
    have HBz : Hid (Below w.heap.size w wz) := HBw.out _ (Hw1.out.trans (hb.mono Hw1.out.size))
    clear hb
    go_wp2
    go_ret
    exact ⟨rfl, HBz.out⟩
  have d0 : decide ((200 : Int) < (s0.size : Int)) = false := by simp; omega
  by_cases h1 : s1.size ≤ 200
  rotate_left
  · have d1 : decide ((200 : Int) < (s1.size : Int)) = true := by simp; omega
    clear hf HS HLs HW f1 f2 f3
    go_wp2_with fail
    refine (HAw.out _ Hw1.out).mono ?_
    rintro e wz ⟨rfl, hb⟩
    have HBz : Hid (Below w.heap.size w wz) := HBw.out _ (Hw1.out.trans (hb.mono Hw1.out.size))
    clear hb
    go_wp2
    go_ret
    exact ⟨rfl, HBz.out⟩
  have d1 : decide ((200 : Int) < (s1.size : Int)) = false := by simp; omega
  by_cases h2 : s2.size ≤ 200
  rotate_left
  · have d2 : decide ((200 : Int) < (s2.size : Int)) = true := by simp; omega
    clear hf HS HLs HW f1 f2 f3
    go_wp2_with fail
    refine (HAw.out _ Hw1.out).mono ?_
    rintro e wz ⟨rfl, hb⟩
    have HBz : Hid (Below w.heap.size w wz) := HBw.out _ (Hw1.out.trans (hb.mono Hw1.out.size))
    clear hb
    go_wp2
    go_ret
    exact ⟨rfl, HBz.out⟩
  have d2 : decide ((200 : Int) < (s2.size : Int)) = false := by simp; omega
  have HIs : Hid (Calls Tryz.prog 13 #[.slice al L.length cl] w1 fun e w' => e = .returned (.bool (isB (tys L))) ∧ Below w1.heap.size w1 w') := is_any _ L w1 (HLs.out _ Hw1.out) (by omega) f2 (HW.out _ Hw1.out)
  have HFi : Hid (∀ (s : ByteArray) W, s.size ≤ 200 → Below W0.heap.size W0 W → Calls Tryz.prog 14 #[.slice al L.length cl, .string s] W fun e w' => FnP L s W e w') := fun s W hs h => findT_any _ L s W (HLs.out W h) (by omega) (nmN f2) f3 (by omega) (HW.out W h).t
  have HOne : Hid (fewL (tys L) = true) := hf
  clear hf HLs
  go_wp2_with fail
  refine HIs.out.mono ?_
  rintro e w2 ⟨rfl, hb⟩
  have Hw2 : Hid (Below W0.heap.size W0 w2) := Hw1.out.trans (hb.mono Hw1.out.size)
  clear hb HIs q0 q1 q2 q3
  cases hib : isB (tys L)
  · clear hib HS HW f1 f2 f3 HFi HOne
    go_wp2_with fail
    refine (HAw.out _ Hw2.out).mono ?_
    rintro e wz ⟨rfl, hb⟩
    have HBz : Hid (Below w.heap.size w wz) := HBw.out _ (Hw2.out.trans (hb.mono Hw2.out.size))
    clear hb
    go_wp2
    go_ret
    exact ⟨rfl, HBz.out⟩
  have HIb : Hid (isB (tys L) = true) := hib
  clear hib
  obtain ⟨⟨q0, q1, q2⟩, q3⟩ := HS.out _ Hw2.out
  go_wp2_with fail
  refine (HFi.out s0 _ h0 Hw2.out).mono ?_
  rintro e wf0 ⟨a, rfl, hat, haI, -, hb⟩
  have Hwf0 : Hid (Below W0.heap.size W0 wf0) := Hw2.out.trans (hb.mono Hw2.out.size)
  have hRwf0 : Below w2.heap.size w2 wf0 := hb
  have HRwf0 : Hid (Below w2.heap.size w2 wf0) := hb
  obtain ⟨Wa, hWa⟩ : ∃ Wa, Wa = wf0.alloc (.cells (tyA a.t a.vo a.va a.vc) 32) := ⟨_, rfl⟩
  have hb2 : Below wf0.heap.size wf0 Wa := by rw [hWa]; exact al_b _ _
  have hn2 : Wa.heap[wf0.heap.size]? = some (.cells (tyA a.t a.vo a.va a.vc) 32 (0, 0)) := by rw [hWa]; exact new_at _ _
  have HWa : Hid (Below W0.heap.size W0 Wa) := Hwf0.out.trans (hb2.mono Hwf0.out.size)
  have HXa : Hid (∀ W, Below Wa.heap.size Wa W → BxT wf0.heap.size a.t a.vo a.va a.vc W ∧ IsTy W a.t a.vo a.va a.vc ∧ wf0.heap.size < W.heap.size) := fun W h => ⟨BxT.of ((h.block _ (Array.getElem?_eq_some_iff.1 hn2).1).trans hn2), (haI.below hb2).below h, Nat.lt_of_lt_of_le (Array.getElem?_eq_some_iff.1 hn2).1 h.size⟩
  have HTa : Hid (a.t = (parN (tys L) s0).getD zT) := hat
  clear hb hb2 hn2 hat haI hRwf0 q0 q1 q2 q3
  obtain ⟨⟨q0, q1, q2⟩, q3⟩ := HS.out _ Hwf0.out
  go_wp2_with fail
  rw [← hWa]
  clear hWa
  refine (HFi.out s1 _ h1 HWa.out).mono ?_
  rintro e wf1 ⟨b, rfl, hbt, hbI, -, hb⟩
  have Hwf1 : Hid (Below W0.heap.size W0 wf1) := HWa.out.trans (hb.mono HWa.out.size)
  have hRwf1 : Below Wa.heap.size Wa wf1 := hb
  have HRwf1 : Hid (Below Wa.heap.size Wa wf1) := hb
  obtain ⟨Wb, hWb⟩ : ∃ Wb, Wb = wf1.alloc (.cells (tyA b.t b.vo b.va b.vc) 32) := ⟨_, rfl⟩
  have hb2 : Below wf1.heap.size wf1 Wb := by rw [hWb]; exact al_b _ _
  have hn2 : Wb.heap[wf1.heap.size]? = some (.cells (tyA b.t b.vo b.va b.vc) 32 (0, 0)) := by rw [hWb]; exact new_at _ _
  have HWb : Hid (Below W0.heap.size W0 Wb) := Hwf1.out.trans (hb2.mono Hwf1.out.size)
  have HXb : Hid (∀ W, Below Wb.heap.size Wb W → BxT wf1.heap.size b.t b.vo b.va b.vc W ∧ IsTy W b.t b.vo b.va b.vc ∧ wf1.heap.size < W.heap.size) := fun W h => ⟨BxT.of ((h.block _ (Array.getElem?_eq_some_iff.1 hn2).1).trans hn2), (hbI.below hb2).below h, Nat.lt_of_lt_of_le (Array.getElem?_eq_some_iff.1 hn2).1 h.size⟩
  have HTb : Hid (b.t = (parN (tys L) s1).getD zT) := hbt
  have HBab : Hid (Below Wa.heap.size Wa Wb) := hRwf1.trans (hb2.mono hRwf1.size)
  clear hb hb2 hn2 hbt hbI hRwf1 q0 q1 q2 q3
  obtain ⟨⟨q0, q1, q2⟩, q3⟩ := HS.out _ Hwf1.out
  go_wp2_with fail
  rw [← hWb]
  clear hWb
  refine (HFi.out s2 _ h2 HWb.out).mono ?_
  rintro e wf2 ⟨c, rfl, hct, hcI, -, hb⟩
  have Hwf2 : Hid (Below W0.heap.size W0 wf2) := HWb.out.trans (hb.mono HWb.out.size)
  have hRwf2 : Below Wb.heap.size Wb wf2 := hb
  have HRwf2 : Hid (Below Wb.heap.size Wb wf2) := hb
  obtain ⟨Wc, hWc⟩ : ∃ Wc, Wc = wf2.alloc (.cells (tyA c.t c.vo c.va c.vc) 32) := ⟨_, rfl⟩
  have hb2 : Below wf2.heap.size wf2 Wc := by rw [hWc]; exact al_b _ _
  have hn2 : Wc.heap[wf2.heap.size]? = some (.cells (tyA c.t c.vo c.va c.vc) 32 (0, 0)) := by rw [hWc]; exact new_at _ _
  have HWc : Hid (Below W0.heap.size W0 Wc) := Hwf2.out.trans (hb2.mono Hwf2.out.size)
  have HXc : Hid (∀ W, Below Wc.heap.size Wc W → BxT wf2.heap.size c.t c.vo c.va c.vc W ∧ IsTy W c.t c.vo c.va c.vc ∧ wf2.heap.size < W.heap.size) := fun W h => ⟨BxT.of ((h.block _ (Array.getElem?_eq_some_iff.1 hn2).1).trans hn2), (hcI.below hb2).below h, Nat.lt_of_lt_of_le (Array.getElem?_eq_some_iff.1 hn2).1 h.size⟩
  have HTc : Hid (c.t = (parN (tys L) s2).getD zT) := hct
  have HBbc : Hid (Below Wb.heap.size Wb Wc) := hRwf2.trans (hb2.mono hRwf2.size)
  clear hb hb2 hn2 hct hcI hRwf2 q0 q1 q2 q3
  cases hs0 : (parN (tys L) s0).isSome
  · clear HS HW f1 f2 f3 HFi HOne HIb HXa HXb HXc HTa HTb HTc
    go_wp2_with fail
    rw [← hWc]
    clear hWc
    refine (HAw.out _ HWc.out).mono ?_
    rintro e wz ⟨rfl, hb⟩
    have HBz : Hid (Below w.heap.size w wz) := HBw.out _ (HWc.out.trans (hb.mono HWc.out.size))
    clear hb
    go_wp2
    go_ret
    exact ⟨rfl, HBz.out⟩
  cases hs1 : (parN (tys L) s1).isSome
  · clear HS HW f1 f2 f3 HFi HOne HIb HXa HXb HXc HTa HTb HTc
    go_wp2_with fail
    rw [← hWc]
    clear hWc
    refine (HAw.out _ HWc.out).mono ?_
    rintro e wz ⟨rfl, hb⟩
    have HBz : Hid (Below w.heap.size w wz) := HBw.out _ (HWc.out.trans (hb.mono HWc.out.size))
    clear hb
    go_wp2
    go_ret
    exact ⟨rfl, HBz.out⟩
  cases hs2 : (parN (tys L) s2).isSome
  · clear HS HW f1 f2 f3 HFi HOne HIb HXa HXb HXc HTa HTb HTc
    go_wp2_with fail
    rw [← hWc]
    clear hWc
    refine (HAw.out _ HWc.out).mono ?_
    rintro e wz ⟨rfl, hb⟩
    have HBz : Hid (Below w.heap.size w wz) := HBw.out _ (HWc.out.trans (hb.mono HWc.out.size))
    clear hb
    go_wp2
    go_ret
    exact ⟨rfl, HBz.out⟩
  obtain ⟨ta, hpa⟩ := Option.isSome_iff_exists.1 hs0
  obtain ⟨tb, hpb⟩ := Option.isSome_iff_exists.1 hs1
  obtain ⟨tc, hpc⟩ := Option.isSome_iff_exists.1 hs2
  have ea : a.t = ta := by rw [HTa.out, hpa]; rfl
  have eb : b.t = tb := by rw [HTb.out, hpb]; rfl
  have ec : c.t = tc := by rw [HTc.out, hpc]; rfl
  have ma : a.t ∈ tys L := by rw [ea]; exact (parN_some hpa).1
  have mb : b.t ∈ tys L := by rw [eb]; exact (parN_some hpb).1
  have mc : c.t ∈ tys L := by rw [ec]; exact (parN_some hpc).1
  have HM : Hid (a.t ∈ tys L ∧ b.t ∈ tys L ∧ c.t ∈ tys L) := ⟨ma, mb, mc⟩
  clear hpa hpb hpc ea eb ec ma mb mc HTa HTb HTc HFi HS h0 h1 h2 d0 d1 d2
  have HOk : Hid (∀ t ∈ tys L, NmT t ∧ SmT t ∧ oneB t = true ∧ chkT t = true) := fun t ht => by
    have h1 := fewL_one HOne.out ht
    obtain ⟨x, hx, rfl⟩ := List.mem_map.1 ht
    exact ⟨f2 x hx, f3 x hx, h1, ((isB_iff _).1 HIb.out).2.1 _ ht⟩
  have HBac : Hid (Below Wa.heap.size Wa Wc) := HBab.out.trans (HBbc.out.mono HBab.out.size)
  have HXX : Hid (∀ W, Below Wc.heap.size Wc W → (BxT wf0.heap.size a.t a.vo a.va a.vc W ∧ BxT wf1.heap.size b.t b.vo b.va b.vc W ∧ BxT wf2.heap.size c.t c.vo c.va c.vc W) ∧ (IsTy W a.t a.vo a.va a.vc ∧ IsTy W b.t b.vo b.va b.vc ∧ IsTy W c.t c.vo c.va c.vc) ∧ Below W0.heap.size W0 W) := fun W h => ⟨⟨(HXa.out W (HBac.out.trans (h.mono HBac.out.size))).1, (HXb.out W (HBbc.out.trans (h.mono HBbc.out.size))).1, (HXc.out W h).1⟩, ⟨(HXa.out W (HBac.out.trans (h.mono HBac.out.size))).2.1, (HXb.out W (HBbc.out.trans (h.mono HBbc.out.size))).2.1, (HXc.out W h).2.1⟩, HWc.out.trans (h.mono HWc.out.size)⟩
  have HOf : Hid (∀ (x : LT) (s : ByteArray) W, x.t ∈ tys L → s.size ≤ 1000000 → IsTy W x.t x.vo x.va x.vc → Below Wc.heap.size Wc W → Calls Tryz.prog 18 #[ltV x, .string s] W fun e w' => e = .returned (.bool (ofB x.t s)) ∧ Below W.heap.size W w') := fun x s W hx hs hI h => of_any x s W hI (HOk.out _ hx).1.lc (HOk.out _ hx).1.c hs (HW.out W (HXX.out W h).2.2).t
  obtain ⟨⟨⟨a0, a1, a2, a3⟩, a4, a5, a6, a7⟩, -, la⟩ := HXa.out wf2 (HBab.out.trans (HRwf2.out.mono HBab.out.size))
  obtain ⟨⟨⟨b0, b1, b2, b3⟩, b4, b5, b6, b7⟩, -, lb⟩ := HXb.out wf2 HRwf2.out
  have HCc : Hid (Below Wc.heap.size Wc Wc) := Below.refl _ _
  have eP := str0 a.t.p
  have eP2 := str0' a.t.p
  go_wp2_with fail
  rw [← hWc]
  clear hWc a0 a1 a2 a3 a4 a5 a6 a7 b0 b1 b2 b3 b4 b5 b6 b7 la lb
  refine (HOf.out a _ _ HM.out.1 (HOk.out _ HM.out.1).1.n (HXX.out _ HCc.out).2.1.1 HCc.out).mono ?_
  rintro e w3 ⟨rfl, hb⟩
  have H3 : Hid (Below Wc.heap.size Wc w3) := hb
  clear hb
  rw [of_self HIb.out HM.out.1]
  have HRf : Hid (∀ (x : LT) W, x.t ∈ tys L → IsTy W x.t x.vo x.va x.vc → Calls Tryz.prog 20 #[x.va] W fun e w' => ∃ ra rc, e = .returned (.slice ra x.t.all.length rc) ∧ IsRow w' 3 (.slice ra x.t.all.length rc) x.t.all.length (fCells x.t.all) ∧ Below W.heap.size W w') := fun x W hx hI => (refs_any _ x.t.all W hI.2.1 (HOk.out _ hx).1.la).mono fun e w' ⟨v1, h1, h2, h3⟩ => by
    obtain ⟨ra, rc, rfl⟩ := h2.form
    exact ⟨ra, rc, h1, h2, h3⟩
  have HWi : Hid (ofB a.t b.t.n = true → ∀ (v1 v2 : Value) W, IsRow W 3 v1 b.t.all.length (fCells b.t.all) → IsRow W 3 v2 a.t.all.length (fCells a.t.all) → Calls Tryz.prog 19 #[v1, v2] W fun e w' => e = .returned (.bool true) ∧ Below W.heap.size W w') := fun h v1 v2 W r1 r2 => by
    obtain ⟨i, -, -, hsub⟩ := of_chain HIb.out HM.out.1 HM.out.2.1 h
    exact refWithin_ok v1 v2 b.t.all a.t.all W r1 r2 (HOk.out _ HM.out.2.1).1.la (HOk.out _ HM.out.1).1.la (nmr_of (HOk.out _ HM.out.2.1).2.2.1).2 (nmr_of (HOk.out _ HM.out.1).2.2.1).2 fun f hf => getF_own (chk_all (HOk.out _ HM.out.1).2.2.2) (hsub f hf)
  have HSa : Hid (ofB a.t b.t.n = true → ofB b.t a.t.n = true → ∀ W, Below Wc.heap.size Wc W → Calls Tryz.prog 15 #[ltV a, ltV b] W fun e w' => e = .returned (.bool true) ∧ Below W.heap.size W w') := fun h1 h2 W h => by
    have e := of_anti HIb.out HM.out.1 HM.out.2.1 h1 h2
    have sa := (HOk.out _ HM.out.1).2.1
    have sb := (HOk.out _ HM.out.2.1).2.1
    have hh := sameT_any a b W (HXX.out W h).2.1.1 (HXX.out W h).2.1.2.1 ⟨by have := sa.1; omega, by have := sa.2.1; omega, by have := sa.2.2; omega⟩ ⟨by have := sb.1; omega, by have := sb.2.1; omega, by have := sb.2.2; omega⟩
    rw [(sameT_iff _ _).2 e] at hh
    exact hh
  have HTr : Hid (ofB a.t b.t.n = true → ofB b.t c.t.n = true → ofB a.t c.t.n = true) := of_trans HIb.out HM.out.1 HM.out.2.1
  have HAwc : Hid (∀ W, Below Wc.heap.size Wc W → Calls Tryz.prog 16 #[] W fun e w' => e = .returned (.bool true) ∧ Below W.heap.size W w') := fun W h => HAw.out W (HWc.out.trans (h.mono HWc.out.size))
  have HFin : Hid (∀ W, Below Wc.heap.size Wc W → Below w.heap.size w W) := fun W h => HBw.out W (HWc.out.trans (h.mono HWc.out.size))
  have HSS : Hid (∀ W, Below Wc.heap.size Wc W → BxT wf0.heap.size a.t a.vo a.va a.vc W ∧ BxT wf1.heap.size b.t b.vo b.va b.vc W) := fun W h => ⟨(HXX.out W h).1.1, (HXX.out W h).1.2.1⟩
  have HPar : Hid (a.t.p.size ≠ 0 → ofB a.t a.t.p = true) := of_par HIb.out HM.out.1
  have HSzs : Hid (a.t.n.size ≤ 1000000 ∧ a.t.p.size ≤ 1000000 ∧ b.t.n.size ≤ 1000000 ∧ c.t.n.size ≤ 1000000) := ⟨(HOk.out _ HM.out.1).1.n, (HOk.out _ HM.out.1).1.p, (HOk.out _ HM.out.2.1).1.n, (HOk.out _ HM.out.2.2).1.n⟩
  clear HAw HBw HW HWc HXa HXb HXc HBab HBbc HBac HOk HOne HIb f1 f2 f3 HCc
  by_cases hp0 : a.t.p.size = 0
  · rw [decide_eq_true hp0] at eP eP2
    clear hp0 HPar
    have Hw3 := H3
    obtain ⟨⟨⟨⟨a0, a1, a2, a3⟩, a4, a5, a6, a7⟩, ⟨⟨b0, b1, b2, b3⟩, b4, b5, b6, b7⟩, ⟨⟨c0, c1, c2, c3⟩, c4, c5, c6, c7⟩⟩, -, -⟩ := HXX.out w3 Hw3.out
    cases hB1 : ofB a.t b.t.n
    · have HB1 : Hid (ofB a.t b.t.n = false) := hB1
      clear hB1
      have HRd : Hid (Below Wc.heap.size Wc w3.drew) := Hw3.out.drew
      go_wp2_with fail
      refine wp_region_held_drew (S := fun w' => BxT wf0.heap.size a.t a.vo a.va a.vc w' ∧ BxT wf1.heap.size b.t b.vo b.va b.vc w') (by kernel_rfl) (HSS.out _ HRd.out) (fun hHeld => ?_)
      generalize w3.drew = wd at *
      refine wpAnyH_take (i := 0) (v := ?_) rfl (by kernel_rfl) (by kernel_rfl) (by kernel_rfl) (fun _ _ _ h => h) (Or.inl ⟨by rfl, ?_⟩) hHeld ?_
      rotate_left 1
      · intro w9 hSw; obtain ⟨⟨⟨g0, g1, g2, g3⟩, g4, g5, g6, g7⟩, ⟨k0, k1, k2, k3⟩, k4, k5, k6, k7⟩ := hSw; go_simp; try with_reducible rfl
      change wpAnyH _ _ _ _ _ _ _ (Act.put _ (some 87) _) _
      simp only [Act.put, List.setIfInBounds_toArray, List.set_cons_zero, List.set_cons_succ]
      refine wpAnyH_take (i := 1) (v := ?_) rfl (by kernel_rfl) (by kernel_rfl) (by kernel_rfl) (fun _ _ _ h => h) (Or.inl ⟨by rfl, ?_⟩) hHeld ?_
      rotate_left 1
      · intro w9 hSw; obtain ⟨⟨⟨g0, g1, g2, g3⟩, g4, g5, g6, g7⟩, ⟨k0, k1, k2, k3⟩, k4, k5, k6, k7⟩ := hSw; go_simp; try with_reducible rfl
      change wpAnyH _ _ _ _ _ _ _ (Act.put _ (some 88) _) _
      simp only [Act.put, List.setIfInBounds_toArray, List.set_cons_zero, List.set_cons_succ]
      refine wpAnyH_take (i := 2) (v := ?_) rfl (by kernel_rfl) (by kernel_rfl) (by kernel_rfl) (fun _ _ _ h => h) (Or.inl ⟨by rfl, ?_⟩) hHeld ?_
      rotate_left 1
      · intro w9 hSw; obtain ⟨⟨⟨g0, g1, g2, g3⟩, g4, g5, g6, g7⟩, ⟨k0, k1, k2, k3⟩, k4, k5, k6, k7⟩ := hSw; go_simp; try with_reducible rfl
      change wpAnyH _ _ _ _ _ _ _ (Act.put _ (some 89) _) _
      simp only [Act.put, List.setIfInBounds_toArray, List.set_cons_zero, List.set_cons_succ]
      refine wpAnyH_ready (rs := [3]) (by kernel_rfl) (by simp) ?_
      refine AllReadyH.cons rfl (fun K hK => ?_) AllReadyH.nil
      go_simp
      refine (HOf.out a _ _ HM.out.1 HSzs.out.2.2.1 (HXX.out _ HRd.out).2.1.1 HRd.out).mono ?_
      rintro e v4 ⟨rfl, hb⟩
      have Hv4 : Hid (Below Wc.heap.size Wc v4) := HRd.out.trans (hb.mono HRd.out.size)
      clear hb
      rw [HB1.out]
      go_simp
      refine hK.out _ _ (HSS.out _ Hv4.out) (fun hHeld => ?_)
      clear hK K
      refine wpAnyH_take (i := 4) (v := ?_) rfl (by kernel_rfl) (by kernel_rfl) (by kernel_rfl) (fun _ _ _ h => h) (Or.inl ⟨by rfl, ?_⟩) hHeld ?_
      rotate_left 1
      · intro w9 hSw; obtain ⟨⟨⟨g0, g1, g2, g3⟩, g4, g5, g6, g7⟩, ⟨k0, k1, k2, k3⟩, k4, k5, k6, k7⟩ := hSw; go_simp; try with_reducible rfl
      change wpAnyH _ _ _ _ _ _ _ (Act.put _ (some 91) _) _
      simp only [Act.put, List.setIfInBounds_toArray, List.set_cons_zero, List.set_cons_succ]
      refine wpAnyH_take (i := 5) (v := undef) rfl (by kernel_rfl) (by kernel_rfl) (by kernel_rfl) (fun _ _ _ h => h) (Or.inr ⟨by rfl, rfl⟩) hHeld ?_
      change wpAnyH _ _ _ _ _ _ _ (Act.put _ (some 92) _) _
      simp only [Act.put, List.setIfInBounds_toArray, List.set_cons_zero, List.set_cons_succ]
      refine wpAnyH_take (i := 6) (v := undef) rfl (by kernel_rfl) (by kernel_rfl) (by kernel_rfl) (fun _ _ _ h => h) (Or.inr ⟨by rfl, rfl⟩) hHeld ?_
      change wpAnyH _ _ _ _ _ _ _ (Act.put _ (some 93) _) _
      simp only [Act.put, List.setIfInBounds_toArray, List.set_cons_zero, List.set_cons_succ]
      refine wpAnyH_take (i := 7) (v := undef) rfl (by kernel_rfl) (by kernel_rfl) (by kernel_rfl) (fun _ _ _ h => h) (Or.inr ⟨by rfl, rfl⟩) hHeld ?_
      change wpAnyH _ _ _ _ _ _ _ (Act.put _ (some 94) _) _
      simp only [Act.put, List.setIfInBounds_toArray, List.set_cons_zero, List.set_cons_succ]
      refine wpAnyH_take (i := 8) (v := undef) rfl (by kernel_rfl) (by kernel_rfl) (by kernel_rfl) (fun _ _ _ h => h) (Or.inr ⟨by rfl, rfl⟩) hHeld ?_
      change wpAnyH _ _ _ _ _ _ _ (Act.put _ (some 95) _) _
      simp only [Act.put, List.setIfInBounds_toArray, List.set_cons_zero, List.set_cons_succ]
      refine wpAnyH_take (i := 9) (v := undef) rfl (by kernel_rfl) (by kernel_rfl) (by kernel_rfl) (fun _ _ _ h => h) (Or.inr ⟨by rfl, rfl⟩) hHeld ?_
      change wpAnyH _ _ _ _ _ _ _ (Act.put _ (some 96) _) _
      simp only [Act.put, List.setIfInBounds_toArray, List.set_cons_zero, List.set_cons_succ]
      refine wpAnyH_take (i := 10) (v := undef) rfl (by kernel_rfl) (by kernel_rfl) (by kernel_rfl) (fun _ _ _ h => h) (Or.inr ⟨by rfl, rfl⟩) hHeld ?_
      change wpAnyH _ _ _ _ _ _ _ (Act.put _ (some 97) _) _
      simp only [Act.put, List.setIfInBounds_toArray, List.set_cons_zero, List.set_cons_succ]
      refine wpAnyH_take (i := 11) (v := undef) rfl (by kernel_rfl) (by kernel_rfl) (by kernel_rfl) (fun _ _ _ h => h) (Or.inr ⟨by rfl, rfl⟩) hHeld ?_
      change wpAnyH _ _ _ _ _ _ _ (Act.put _ (some 98) _) _
      simp only [Act.put, List.setIfInBounds_toArray, List.set_cons_zero, List.set_cons_succ]
      refine wpAnyH_take (i := 12) (v := undef) rfl (by kernel_rfl) (by kernel_rfl) (by kernel_rfl) (fun _ _ _ h => h) (Or.inr ⟨by rfl, rfl⟩) hHeld ?_
      change wpAnyH _ _ _ _ _ _ _ (Act.put _ (some 99) _) _
      simp only [Act.put, List.setIfInBounds_toArray, List.set_cons_zero, List.set_cons_succ]
      refine wpAnyH_take (i := 13) (v := ?_) rfl (by kernel_rfl) (by kernel_rfl) (by kernel_rfl) (fun _ _ _ h => h) (Or.inl ⟨by rfl, ?_⟩) hHeld ?_
      rotate_left 1
      · intro w9 hSw; obtain ⟨⟨⟨g0, g1, g2, g3⟩, g4, g5, g6, g7⟩, ⟨k0, k1, k2, k3⟩, k4, k5, k6, k7⟩ := hSw; go_simp; try with_reducible rfl
      change wpAnyH _ _ _ _ _ _ _ (Act.put _ (some 100) _) _
      simp only [Act.put, List.setIfInBounds_toArray, List.set_cons_zero, List.set_cons_succ]
      refine wpAnyH_done (by kernel_rfl) ?_ _
      clear hHeld HRd
      obtain ⟨⟨⟨⟨a0, a1, a2, a3⟩, a4, a5, a6, a7⟩, ⟨⟨b0, b1, b2, b3⟩, b4, b5, b6, b7⟩, ⟨⟨c0, c1, c2, c3⟩, c4, c5, c6, c7⟩⟩, -, -⟩ := HXX.out v4 Hv4.out
      go_wp2_with fail
      refine (HOf.out a _ _ HM.out.1 HSzs.out.2.2.1 (HXX.out _ Hv4.out).2.1.1 Hv4.out).mono ?_
      rintro e u1 ⟨rfl, hb⟩
      have Hu1 : Hid (Below Wc.heap.size Wc u1) := Hv4.out.trans (hb.mono Hv4.out.size)
      clear hb
      clear a0 a1 a2 a3 a4 a5 a6 a7 b0 b1 b2 b3 b4 b5 b6 b7 c0 c1 c2 c3 c4 c5 c6 c7
      rw [HB1.out]
      obtain ⟨⟨⟨⟨a0, a1, a2, a3⟩, a4, a5, a6, a7⟩, ⟨⟨b0, b1, b2, b3⟩, b4, b5, b6, b7⟩, ⟨⟨c0, c1, c2, c3⟩, c4, c5, c6, c7⟩⟩, -, -⟩ := HXX.out u1 Hu1.out
      go_wp2_with fail
      refine (HAwc.out _ Hu1.out).mono ?_
      rintro e u2 ⟨rfl, hb⟩
      have Hu2 : Hid (Below Wc.heap.size Wc u2) := Hu1.out.trans (hb.mono Hu1.out.size)
      clear hb
      clear a0 a1 a2 a3 a4 a5 a6 a7 b0 b1 b2 b3 b4 b5 b6 b7 c0 c1 c2 c3 c4 c5 c6 c7
      obtain ⟨⟨⟨⟨a0, a1, a2, a3⟩, a4, a5, a6, a7⟩, ⟨⟨b0, b1, b2, b3⟩, b4, b5, b6, b7⟩, ⟨⟨c0, c1, c2, c3⟩, c4, c5, c6, c7⟩⟩, -, -⟩ := HXX.out u2 Hu2.out
      go_wp2_with fail
      refine (HOf.out a _ _ HM.out.1 HSzs.out.2.2.1 (HXX.out _ Hu2.out).2.1.1 Hu2.out).mono ?_
      rintro e u3 ⟨rfl, hb⟩
      have Hu3 : Hid (Below Wc.heap.size Wc u3) := Hu2.out.trans (hb.mono Hu2.out.size)
      clear hb
      clear a0 a1 a2 a3 a4 a5 a6 a7 b0 b1 b2 b3 b4 b5 b6 b7 c0 c1 c2 c3 c4 c5 c6 c7
      rw [HB1.out]
      have HBz : Hid (Below w.heap.size w u3) := HFin.out _ Hu3.out
      obtain ⟨⟨⟨⟨a0, a1, a2, a3⟩, a4, a5, a6, a7⟩, ⟨⟨b0, b1, b2, b3⟩, b4, b5, b6, b7⟩, ⟨⟨c0, c1, c2, c3⟩, c4, c5, c6, c7⟩⟩, -, -⟩ := HXX.out u3 Hu3.out
      go_wp2
      go_ret
      exact ⟨rfl, HBz.out⟩
    have HB1 : Hid (ofB a.t b.t.n = true) := hB1
    clear hB1
    have HRd : Hid (Below Wc.heap.size Wc w3.drew) := Hw3.out.drew
    go_wp2_with fail
    refine wp_region_held_drew (S := fun w' => BxT wf0.heap.size a.t a.vo a.va a.vc w' ∧ BxT wf1.heap.size b.t b.vo b.va b.vc w') (by kernel_rfl) (HSS.out _ HRd.out) (fun hHeld => ?_)
    generalize w3.drew = wd at *
    refine wpAnyH_take (i := 0) (v := ?_) rfl (by kernel_rfl) (by kernel_rfl) (by kernel_rfl) (fun _ _ _ h => h) (Or.inl ⟨by rfl, ?_⟩) hHeld ?_
    rotate_left 1
    · intro w9 hSw; obtain ⟨⟨⟨g0, g1, g2, g3⟩, g4, g5, g6, g7⟩, ⟨k0, k1, k2, k3⟩, k4, k5, k6, k7⟩ := hSw; go_simp; try with_reducible rfl
    change wpAnyH _ _ _ _ _ _ _ (Act.put _ (some 87) _) _
    simp only [Act.put, List.setIfInBounds_toArray, List.set_cons_zero, List.set_cons_succ]
    refine wpAnyH_take (i := 1) (v := ?_) rfl (by kernel_rfl) (by kernel_rfl) (by kernel_rfl) (fun _ _ _ h => h) (Or.inl ⟨by rfl, ?_⟩) hHeld ?_
    rotate_left 1
    · intro w9 hSw; obtain ⟨⟨⟨g0, g1, g2, g3⟩, g4, g5, g6, g7⟩, ⟨k0, k1, k2, k3⟩, k4, k5, k6, k7⟩ := hSw; go_simp; try with_reducible rfl
    change wpAnyH _ _ _ _ _ _ _ (Act.put _ (some 88) _) _
    simp only [Act.put, List.setIfInBounds_toArray, List.set_cons_zero, List.set_cons_succ]
    refine wpAnyH_take (i := 2) (v := ?_) rfl (by kernel_rfl) (by kernel_rfl) (by kernel_rfl) (fun _ _ _ h => h) (Or.inl ⟨by rfl, ?_⟩) hHeld ?_
    rotate_left 1
    · intro w9 hSw; obtain ⟨⟨⟨g0, g1, g2, g3⟩, g4, g5, g6, g7⟩, ⟨k0, k1, k2, k3⟩, k4, k5, k6, k7⟩ := hSw; go_simp; try with_reducible rfl
    change wpAnyH _ _ _ _ _ _ _ (Act.put _ (some 89) _) _
    simp only [Act.put, List.setIfInBounds_toArray, List.set_cons_zero, List.set_cons_succ]
    refine wpAnyH_ready (rs := [3]) (by kernel_rfl) (by simp) ?_
    refine AllReadyH.cons rfl (fun K hK => ?_) AllReadyH.nil
    go_simp
    refine (HOf.out a _ _ HM.out.1 HSzs.out.2.2.1 (HXX.out _ HRd.out).2.1.1 HRd.out).mono ?_
    rintro e v4 ⟨rfl, hb⟩
    have Hv4 : Hid (Below Wc.heap.size Wc v4) := HRd.out.trans (hb.mono HRd.out.size)
    clear hb
    rw [HB1.out]
    go_simp
    refine hK.out _ _ (HSS.out _ Hv4.out) (fun hHeld => ?_)
    clear hK K
    refine wpAnyH_take (i := 4) (v := ?_) rfl (by kernel_rfl) (by kernel_rfl) (by kernel_rfl) (fun _ _ _ h => h) (Or.inl ⟨by rfl, ?_⟩) hHeld ?_
    rotate_left 1
    · intro w9 hSw; obtain ⟨⟨⟨g0, g1, g2, g3⟩, g4, g5, g6, g7⟩, ⟨k0, k1, k2, k3⟩, k4, k5, k6, k7⟩ := hSw; go_simp; try with_reducible rfl
    change wpAnyH _ _ _ _ _ _ _ (Act.put _ (some 91) _) _
    simp only [Act.put, List.setIfInBounds_toArray, List.set_cons_zero, List.set_cons_succ]
    refine wpAnyH_take (i := 5) (v := ?_) rfl (by kernel_rfl) (by kernel_rfl) (by kernel_rfl) (fun _ _ _ h => h) (Or.inl ⟨by rfl, ?_⟩) hHeld ?_
    rotate_left 1
    · intro w9 hSw; obtain ⟨⟨⟨g0, g1, g2, g3⟩, g4, g5, g6, g7⟩, ⟨k0, k1, k2, k3⟩, k4, k5, k6, k7⟩ := hSw; go_simp; try with_reducible rfl
    change wpAnyH _ _ _ _ _ _ _ (Act.put _ (some 92) _) _
    simp only [Act.put, List.setIfInBounds_toArray, List.set_cons_zero, List.set_cons_succ]
    refine wpAnyH_take (i := 6) (v := ?_) rfl (by kernel_rfl) (by kernel_rfl) (by kernel_rfl) (fun _ _ _ h => h) (Or.inl ⟨by rfl, ?_⟩) hHeld ?_
    rotate_left 1
    · intro w9 hSw; obtain ⟨⟨⟨g0, g1, g2, g3⟩, g4, g5, g6, g7⟩, ⟨k0, k1, k2, k3⟩, k4, k5, k6, k7⟩ := hSw; go_simp; try with_reducible rfl
    change wpAnyH _ _ _ _ _ _ _ (Act.put _ (some 93) _) _
    simp only [Act.put, List.setIfInBounds_toArray, List.set_cons_zero, List.set_cons_succ]
    refine wpAnyH_take (i := 8) (v := ?_) rfl (by kernel_rfl) (by kernel_rfl) (by kernel_rfl) (fun _ _ _ h => h) (Or.inl ⟨by rfl, ?_⟩) hHeld ?_
    rotate_left 1
    · intro w9 hSw; obtain ⟨⟨⟨g0, g1, g2, g3⟩, g4, g5, g6, g7⟩, ⟨k0, k1, k2, k3⟩, k4, k5, k6, k7⟩ := hSw; go_simp; try with_reducible rfl
    change wpAnyH _ _ _ _ _ _ _ (Act.put _ (some 95) _) _
    simp only [Act.put, List.setIfInBounds_toArray, List.set_cons_zero, List.set_cons_succ]
    refine wpAnyH_take (i := 9) (v := ?_) rfl (by kernel_rfl) (by kernel_rfl) (by kernel_rfl) (fun _ _ _ h => h) (Or.inl ⟨by rfl, ?_⟩) hHeld ?_
    rotate_left 1
    · intro w9 hSw; obtain ⟨⟨⟨g0, g1, g2, g3⟩, g4, g5, g6, g7⟩, ⟨k0, k1, k2, k3⟩, k4, k5, k6, k7⟩ := hSw; go_simp; try with_reducible rfl
    change wpAnyH _ _ _ _ _ _ _ (Act.put _ (some 96) _) _
    simp only [Act.put, List.setIfInBounds_toArray, List.set_cons_zero, List.set_cons_succ]
    refine wpAnyH_ready (rs := [7]) (by kernel_rfl) (by simp) ?_
    refine AllReadyH.cons rfl (fun K hK => ?_) AllReadyH.nil
    go_simp
    refine (HRf.out b _ HM.out.2.1 (HXX.out _ Hv4.out).2.1.2.1).mono ?_
    rintro e v5 ⟨ra, rc, rfl, hr1, hb⟩
    have Hv5 : Hid (Below Wc.heap.size Wc v5) := Hv4.out.trans (hb.mono Hv4.out.size)
    clear hb
    go_simp
    refine hK.out _ _ (HSS.out _ Hv5.out) (fun hHeld => ?_)
    clear hK K
    refine wpAnyH_ready (rs := [10]) (by kernel_rfl) (by simp) ?_
    refine AllReadyH.cons rfl (fun K hK => ?_) AllReadyH.nil
    go_simp
    refine (HRf.out a _ HM.out.1 (HXX.out _ Hv5.out).2.1.1).mono ?_
    rintro e v6 ⟨rb, rd, rfl, hr2, hb⟩
    have Hv6 : Hid (Below Wc.heap.size Wc v6) := Hv5.out.trans (hb.mono Hv5.out.size)
    have hr1' := hr1.below hb
    clear hb
    go_simp
    refine hK.out _ _ (HSS.out _ Hv6.out) (fun hHeld => ?_)
    clear hK K
    refine wpAnyH_ready (rs := [11]) (by kernel_rfl) (by simp) ?_
    refine AllReadyH.cons rfl (fun K hK => ?_) AllReadyH.nil
    go_simp
    refine (HWi.out HB1.out _ _ _ hr1' hr2).mono ?_
    rintro e v7 ⟨rfl, hb⟩
    have Hv7 : Hid (Below Wc.heap.size Wc v7) := Hv6.out.trans (hb.mono Hv6.out.size)
    clear hb
    go_simp
    refine hK.out _ _ (HSS.out _ Hv7.out) (fun hHeld => ?_)
    clear hK K
    refine wpAnyH_take (i := 12) (v := ?_) rfl (by kernel_rfl) (by kernel_rfl) (by kernel_rfl) (fun _ _ _ h => h) (Or.inl ⟨by rfl, ?_⟩) hHeld ?_
    rotate_left 1
    · intro w9 hSw; obtain ⟨⟨⟨g0, g1, g2, g3⟩, g4, g5, g6, g7⟩, ⟨k0, k1, k2, k3⟩, k4, k5, k6, k7⟩ := hSw; go_simp; try with_reducible rfl
    change wpAnyH _ _ _ _ _ _ _ (Act.put _ (some 99) _) _
    simp only [Act.put, List.setIfInBounds_toArray, List.set_cons_zero, List.set_cons_succ]
    refine wpAnyH_take (i := 13) (v := ?_) rfl (by kernel_rfl) (by kernel_rfl) (by kernel_rfl) (fun _ _ _ h => h) (Or.inl ⟨by rfl, ?_⟩) hHeld ?_
    rotate_left 1
    · intro w9 hSw; obtain ⟨⟨⟨g0, g1, g2, g3⟩, g4, g5, g6, g7⟩, ⟨k0, k1, k2, k3⟩, k4, k5, k6, k7⟩ := hSw; go_simp; try with_reducible rfl
    change wpAnyH _ _ _ _ _ _ _ (Act.put _ (some 100) _) _
    simp only [Act.put, List.setIfInBounds_toArray, List.set_cons_zero, List.set_cons_succ]
    refine wpAnyH_done (by kernel_rfl) ?_ _
    clear hHeld HRd
    obtain ⟨⟨⟨⟨a0, a1, a2, a3⟩, a4, a5, a6, a7⟩, ⟨⟨b0, b1, b2, b3⟩, b4, b5, b6, b7⟩, ⟨⟨c0, c1, c2, c3⟩, c4, c5, c6, c7⟩⟩, -, -⟩ := HXX.out v7 Hv7.out
    go_wp2_with fail
    refine (HOf.out a _ _ HM.out.1 HSzs.out.2.2.1 (HXX.out _ Hv7.out).2.1.1 Hv7.out).mono ?_
    rintro e u1 ⟨rfl, hb⟩
    have Hu1 : Hid (Below Wc.heap.size Wc u1) := Hv7.out.trans (hb.mono Hv7.out.size)
    clear hb
    clear a0 a1 a2 a3 a4 a5 a6 a7 b0 b1 b2 b3 b4 b5 b6 b7 c0 c1 c2 c3 c4 c5 c6 c7
    rw [HB1.out]
    obtain ⟨⟨⟨⟨a0, a1, a2, a3⟩, a4, a5, a6, a7⟩, ⟨⟨b0, b1, b2, b3⟩, b4, b5, b6, b7⟩, ⟨⟨c0, c1, c2, c3⟩, c4, c5, c6, c7⟩⟩, -, -⟩ := HXX.out u1 Hu1.out
    go_wp2_with fail
    refine (HOf.out b _ _ HM.out.2.1 HSzs.out.2.2.2 (HXX.out _ Hu1.out).2.1.2.1 Hu1.out).mono ?_
    rintro e u2 ⟨rfl, hb⟩
    have Hu2 : Hid (Below Wc.heap.size Wc u2) := Hu1.out.trans (hb.mono Hu1.out.size)
    clear hb
    clear a0 a1 a2 a3 a4 a5 a6 a7 b0 b1 b2 b3 b4 b5 b6 b7 c0 c1 c2 c3 c4 c5 c6 c7
    cases hB2 : ofB b.t c.t.n
    · obtain ⟨⟨⟨⟨a0, a1, a2, a3⟩, a4, a5, a6, a7⟩, ⟨⟨b0, b1, b2, b3⟩, b4, b5, b6, b7⟩, ⟨⟨c0, c1, c2, c3⟩, c4, c5, c6, c7⟩⟩, -, -⟩ := HXX.out u2 Hu2.out
      go_wp2_with fail
      refine (HAwc.out _ Hu2.out).mono ?_
      rintro e u5 ⟨rfl, hb⟩
      have Hu5 : Hid (Below Wc.heap.size Wc u5) := Hu2.out.trans (hb.mono Hu2.out.size)
      clear hb
      clear a0 a1 a2 a3 a4 a5 a6 a7 b0 b1 b2 b3 b4 b5 b6 b7 c0 c1 c2 c3 c4 c5 c6 c7
      obtain ⟨⟨⟨⟨a0, a1, a2, a3⟩, a4, a5, a6, a7⟩, ⟨⟨b0, b1, b2, b3⟩, b4, b5, b6, b7⟩, ⟨⟨c0, c1, c2, c3⟩, c4, c5, c6, c7⟩⟩, -, -⟩ := HXX.out u5 Hu5.out
      go_wp2_with fail
      refine (HOf.out a _ _ HM.out.1 HSzs.out.2.2.1 (HXX.out _ Hu5.out).2.1.1 Hu5.out).mono ?_
      rintro e u6 ⟨rfl, hb⟩
      have Hu6 : Hid (Below Wc.heap.size Wc u6) := Hu5.out.trans (hb.mono Hu5.out.size)
      clear hb
      clear a0 a1 a2 a3 a4 a5 a6 a7 b0 b1 b2 b3 b4 b5 b6 b7 c0 c1 c2 c3 c4 c5 c6 c7
      rw [HB1.out]
      obtain ⟨⟨⟨⟨a0, a1, a2, a3⟩, a4, a5, a6, a7⟩, ⟨⟨b0, b1, b2, b3⟩, b4, b5, b6, b7⟩, ⟨⟨c0, c1, c2, c3⟩, c4, c5, c6, c7⟩⟩, -, -⟩ := HXX.out u6 Hu6.out
      go_wp2_with fail
      refine (HOf.out b _ _ HM.out.2.1 HSzs.out.1 (HXX.out _ Hu6.out).2.1.2.1 Hu6.out).mono ?_
      rintro e u7 ⟨rfl, hb⟩
      have Hu7 : Hid (Below Wc.heap.size Wc u7) := Hu6.out.trans (hb.mono Hu6.out.size)
      clear hb
      clear a0 a1 a2 a3 a4 a5 a6 a7 b0 b1 b2 b3 b4 b5 b6 b7 c0 c1 c2 c3 c4 c5 c6 c7
      cases hB4 : ofB b.t a.t.n
      · have HBz : Hid (Below w.heap.size w u7) := HFin.out _ Hu7.out
        obtain ⟨⟨⟨⟨a0, a1, a2, a3⟩, a4, a5, a6, a7⟩, ⟨⟨b0, b1, b2, b3⟩, b4, b5, b6, b7⟩, ⟨⟨c0, c1, c2, c3⟩, c4, c5, c6, c7⟩⟩, -, -⟩ := HXX.out u7 Hu7.out
        go_wp2
        go_ret
        exact ⟨rfl, HBz.out⟩
      obtain ⟨⟨⟨⟨a0, a1, a2, a3⟩, a4, a5, a6, a7⟩, ⟨⟨b0, b1, b2, b3⟩, b4, b5, b6, b7⟩, ⟨⟨c0, c1, c2, c3⟩, c4, c5, c6, c7⟩⟩, -, -⟩ := HXX.out u7 Hu7.out
      go_wp2_with fail
      refine (HSa.out HB1.out hB4 _ Hu7.out).mono ?_
      rintro e u8 ⟨rfl, hb⟩
      have Hu8 : Hid (Below Wc.heap.size Wc u8) := Hu7.out.trans (hb.mono Hu7.out.size)
      clear hb
      clear a0 a1 a2 a3 a4 a5 a6 a7 b0 b1 b2 b3 b4 b5 b6 b7 c0 c1 c2 c3 c4 c5 c6 c7
      have HBz : Hid (Below w.heap.size w u8) := HFin.out _ Hu8.out
      obtain ⟨⟨⟨⟨a0, a1, a2, a3⟩, a4, a5, a6, a7⟩, ⟨⟨b0, b1, b2, b3⟩, b4, b5, b6, b7⟩, ⟨⟨c0, c1, c2, c3⟩, c4, c5, c6, c7⟩⟩, -, -⟩ := HXX.out u8 Hu8.out
      go_wp2
      go_ret
      exact ⟨rfl, HBz.out⟩
    obtain ⟨⟨⟨⟨a0, a1, a2, a3⟩, a4, a5, a6, a7⟩, ⟨⟨b0, b1, b2, b3⟩, b4, b5, b6, b7⟩, ⟨⟨c0, c1, c2, c3⟩, c4, c5, c6, c7⟩⟩, -, -⟩ := HXX.out u2 Hu2.out
    go_wp2_with fail
    refine (HOf.out a _ _ HM.out.1 HSzs.out.2.2.2 (HXX.out _ Hu2.out).2.1.1 Hu2.out).mono ?_
    rintro e u3 ⟨rfl, hb⟩
    have Hu3 : Hid (Below Wc.heap.size Wc u3) := Hu2.out.trans (hb.mono Hu2.out.size)
    clear hb
    clear a0 a1 a2 a3 a4 a5 a6 a7 b0 b1 b2 b3 b4 b5 b6 b7 c0 c1 c2 c3 c4 c5 c6 c7
    rw [HTr.out HB1.out hB2]
    obtain ⟨⟨⟨⟨a0, a1, a2, a3⟩, a4, a5, a6, a7⟩, ⟨⟨b0, b1, b2, b3⟩, b4, b5, b6, b7⟩, ⟨⟨c0, c1, c2, c3⟩, c4, c5, c6, c7⟩⟩, -, -⟩ := HXX.out u3 Hu3.out
    go_wp2_with fail
    refine (HAwc.out _ Hu3.out).mono ?_
    rintro e u5 ⟨rfl, hb⟩
    have Hu5 : Hid (Below Wc.heap.size Wc u5) := Hu3.out.trans (hb.mono Hu3.out.size)
    clear hb
    clear a0 a1 a2 a3 a4 a5 a6 a7 b0 b1 b2 b3 b4 b5 b6 b7 c0 c1 c2 c3 c4 c5 c6 c7
    obtain ⟨⟨⟨⟨a0, a1, a2, a3⟩, a4, a5, a6, a7⟩, ⟨⟨b0, b1, b2, b3⟩, b4, b5, b6, b7⟩, ⟨⟨c0, c1, c2, c3⟩, c4, c5, c6, c7⟩⟩, -, -⟩ := HXX.out u5 Hu5.out
    go_wp2_with fail
    refine (HOf.out a _ _ HM.out.1 HSzs.out.2.2.1 (HXX.out _ Hu5.out).2.1.1 Hu5.out).mono ?_
    rintro e u6 ⟨rfl, hb⟩
    have Hu6 : Hid (Below Wc.heap.size Wc u6) := Hu5.out.trans (hb.mono Hu5.out.size)
    clear hb
    clear a0 a1 a2 a3 a4 a5 a6 a7 b0 b1 b2 b3 b4 b5 b6 b7 c0 c1 c2 c3 c4 c5 c6 c7
    rw [HB1.out]
    obtain ⟨⟨⟨⟨a0, a1, a2, a3⟩, a4, a5, a6, a7⟩, ⟨⟨b0, b1, b2, b3⟩, b4, b5, b6, b7⟩, ⟨⟨c0, c1, c2, c3⟩, c4, c5, c6, c7⟩⟩, -, -⟩ := HXX.out u6 Hu6.out
    go_wp2_with fail
    refine (HOf.out b _ _ HM.out.2.1 HSzs.out.1 (HXX.out _ Hu6.out).2.1.2.1 Hu6.out).mono ?_
    rintro e u7 ⟨rfl, hb⟩
    have Hu7 : Hid (Below Wc.heap.size Wc u7) := Hu6.out.trans (hb.mono Hu6.out.size)
    clear hb
    clear a0 a1 a2 a3 a4 a5 a6 a7 b0 b1 b2 b3 b4 b5 b6 b7 c0 c1 c2 c3 c4 c5 c6 c7
    cases hB4 : ofB b.t a.t.n
    · have HBz : Hid (Below w.heap.size w u7) := HFin.out _ Hu7.out
      obtain ⟨⟨⟨⟨a0, a1, a2, a3⟩, a4, a5, a6, a7⟩, ⟨⟨b0, b1, b2, b3⟩, b4, b5, b6, b7⟩, ⟨⟨c0, c1, c2, c3⟩, c4, c5, c6, c7⟩⟩, -, -⟩ := HXX.out u7 Hu7.out
      go_wp2
      go_ret
      exact ⟨rfl, HBz.out⟩
    obtain ⟨⟨⟨⟨a0, a1, a2, a3⟩, a4, a5, a6, a7⟩, ⟨⟨b0, b1, b2, b3⟩, b4, b5, b6, b7⟩, ⟨⟨c0, c1, c2, c3⟩, c4, c5, c6, c7⟩⟩, -, -⟩ := HXX.out u7 Hu7.out
    go_wp2_with fail
    refine (HSa.out HB1.out hB4 _ Hu7.out).mono ?_
    rintro e u8 ⟨rfl, hb⟩
    have Hu8 : Hid (Below Wc.heap.size Wc u8) := Hu7.out.trans (hb.mono Hu7.out.size)
    clear hb
    clear a0 a1 a2 a3 a4 a5 a6 a7 b0 b1 b2 b3 b4 b5 b6 b7 c0 c1 c2 c3 c4 c5 c6 c7
    have HBz : Hid (Below w.heap.size w u8) := HFin.out _ Hu8.out
    obtain ⟨⟨⟨⟨a0, a1, a2, a3⟩, a4, a5, a6, a7⟩, ⟨⟨b0, b1, b2, b3⟩, b4, b5, b6, b7⟩, ⟨⟨c0, c1, c2, c3⟩, c4, c5, c6, c7⟩⟩, -, -⟩ := HXX.out u8 Hu8.out
    go_wp2
    go_ret
    exact ⟨rfl, HBz.out⟩
  rw [decide_eq_false hp0] at eP eP2
  have Hw3 := H3
  obtain ⟨⟨⟨⟨a0, a1, a2, a3⟩, a4, a5, a6, a7⟩, ⟨⟨b0, b1, b2, b3⟩, b4, b5, b6, b7⟩, ⟨⟨c0, c1, c2, c3⟩, c4, c5, c6, c7⟩⟩, -, -⟩ := HXX.out w3 Hw3.out
  go_wp2_with fail
  refine (HOf.out a _ _ HM.out.1 HSzs.out.2.1 (HXX.out _ Hw3.out).2.1.1 Hw3.out).mono ?_
  rintro e w4 ⟨rfl, hb⟩
  have Hw4 : Hid (Below Wc.heap.size Wc w4) := Hw3.out.trans (hb.mono Hw3.out.size)
  clear hb
  clear a0 a1 a2 a3 a4 a5 a6 a7 b0 b1 b2 b3 b4 b5 b6 b7 c0 c1 c2 c3 c4 c5 c6 c7
  rw [HPar.out hp0]
  clear hp0 HPar
  obtain ⟨⟨⟨⟨a0, a1, a2, a3⟩, a4, a5, a6, a7⟩, ⟨⟨b0, b1, b2, b3⟩, b4, b5, b6, b7⟩, ⟨⟨c0, c1, c2, c3⟩, c4, c5, c6, c7⟩⟩, -, -⟩ := HXX.out w4 Hw4.out
  cases hB1 : ofB a.t b.t.n
  · have HB1 : Hid (ofB a.t b.t.n = false) := hB1
    clear hB1
    have HRd : Hid (Below Wc.heap.size Wc w4.drew) := Hw4.out.drew
    go_wp2_with fail
    refine wp_region_held_drew (S := fun w' => BxT wf0.heap.size a.t a.vo a.va a.vc w' ∧ BxT wf1.heap.size b.t b.vo b.va b.vc w') (by kernel_rfl) (HSS.out _ HRd.out) (fun hHeld => ?_)
    generalize w4.drew = wd at *
    refine wpAnyH_take (i := 0) (v := ?_) rfl (by kernel_rfl) (by kernel_rfl) (by kernel_rfl) (fun _ _ _ h => h) (Or.inl ⟨by rfl, ?_⟩) hHeld ?_
    rotate_left 1
    · intro w9 hSw; obtain ⟨⟨⟨g0, g1, g2, g3⟩, g4, g5, g6, g7⟩, ⟨k0, k1, k2, k3⟩, k4, k5, k6, k7⟩ := hSw; go_simp; try with_reducible rfl
    change wpAnyH _ _ _ _ _ _ _ (Act.put _ (some 87) _) _
    simp only [Act.put, List.setIfInBounds_toArray, List.set_cons_zero, List.set_cons_succ]
    refine wpAnyH_take (i := 1) (v := ?_) rfl (by kernel_rfl) (by kernel_rfl) (by kernel_rfl) (fun _ _ _ h => h) (Or.inl ⟨by rfl, ?_⟩) hHeld ?_
    rotate_left 1
    · intro w9 hSw; obtain ⟨⟨⟨g0, g1, g2, g3⟩, g4, g5, g6, g7⟩, ⟨k0, k1, k2, k3⟩, k4, k5, k6, k7⟩ := hSw; go_simp; try with_reducible rfl
    change wpAnyH _ _ _ _ _ _ _ (Act.put _ (some 88) _) _
    simp only [Act.put, List.setIfInBounds_toArray, List.set_cons_zero, List.set_cons_succ]
    refine wpAnyH_take (i := 2) (v := ?_) rfl (by kernel_rfl) (by kernel_rfl) (by kernel_rfl) (fun _ _ _ h => h) (Or.inl ⟨by rfl, ?_⟩) hHeld ?_
    rotate_left 1
    · intro w9 hSw; obtain ⟨⟨⟨g0, g1, g2, g3⟩, g4, g5, g6, g7⟩, ⟨k0, k1, k2, k3⟩, k4, k5, k6, k7⟩ := hSw; go_simp; try with_reducible rfl
    change wpAnyH _ _ _ _ _ _ _ (Act.put _ (some 89) _) _
    simp only [Act.put, List.setIfInBounds_toArray, List.set_cons_zero, List.set_cons_succ]
    refine wpAnyH_ready (rs := [3]) (by kernel_rfl) (by simp) ?_
    refine AllReadyH.cons rfl (fun K hK => ?_) AllReadyH.nil
    go_simp
    refine (HOf.out a _ _ HM.out.1 HSzs.out.2.2.1 (HXX.out _ HRd.out).2.1.1 HRd.out).mono ?_
    rintro e v4 ⟨rfl, hb⟩
    have Hv4 : Hid (Below Wc.heap.size Wc v4) := HRd.out.trans (hb.mono HRd.out.size)
    clear hb
    rw [HB1.out]
    go_simp
    refine hK.out _ _ (HSS.out _ Hv4.out) (fun hHeld => ?_)
    clear hK K
    refine wpAnyH_take (i := 4) (v := ?_) rfl (by kernel_rfl) (by kernel_rfl) (by kernel_rfl) (fun _ _ _ h => h) (Or.inl ⟨by rfl, ?_⟩) hHeld ?_
    rotate_left 1
    · intro w9 hSw; obtain ⟨⟨⟨g0, g1, g2, g3⟩, g4, g5, g6, g7⟩, ⟨k0, k1, k2, k3⟩, k4, k5, k6, k7⟩ := hSw; go_simp; try with_reducible rfl
    change wpAnyH _ _ _ _ _ _ _ (Act.put _ (some 91) _) _
    simp only [Act.put, List.setIfInBounds_toArray, List.set_cons_zero, List.set_cons_succ]
    refine wpAnyH_take (i := 5) (v := undef) rfl (by kernel_rfl) (by kernel_rfl) (by kernel_rfl) (fun _ _ _ h => h) (Or.inr ⟨by rfl, rfl⟩) hHeld ?_
    change wpAnyH _ _ _ _ _ _ _ (Act.put _ (some 92) _) _
    simp only [Act.put, List.setIfInBounds_toArray, List.set_cons_zero, List.set_cons_succ]
    refine wpAnyH_take (i := 6) (v := undef) rfl (by kernel_rfl) (by kernel_rfl) (by kernel_rfl) (fun _ _ _ h => h) (Or.inr ⟨by rfl, rfl⟩) hHeld ?_
    change wpAnyH _ _ _ _ _ _ _ (Act.put _ (some 93) _) _
    simp only [Act.put, List.setIfInBounds_toArray, List.set_cons_zero, List.set_cons_succ]
    refine wpAnyH_take (i := 7) (v := undef) rfl (by kernel_rfl) (by kernel_rfl) (by kernel_rfl) (fun _ _ _ h => h) (Or.inr ⟨by rfl, rfl⟩) hHeld ?_
    change wpAnyH _ _ _ _ _ _ _ (Act.put _ (some 94) _) _
    simp only [Act.put, List.setIfInBounds_toArray, List.set_cons_zero, List.set_cons_succ]
    refine wpAnyH_take (i := 8) (v := undef) rfl (by kernel_rfl) (by kernel_rfl) (by kernel_rfl) (fun _ _ _ h => h) (Or.inr ⟨by rfl, rfl⟩) hHeld ?_
    change wpAnyH _ _ _ _ _ _ _ (Act.put _ (some 95) _) _
    simp only [Act.put, List.setIfInBounds_toArray, List.set_cons_zero, List.set_cons_succ]
    refine wpAnyH_take (i := 9) (v := undef) rfl (by kernel_rfl) (by kernel_rfl) (by kernel_rfl) (fun _ _ _ h => h) (Or.inr ⟨by rfl, rfl⟩) hHeld ?_
    change wpAnyH _ _ _ _ _ _ _ (Act.put _ (some 96) _) _
    simp only [Act.put, List.setIfInBounds_toArray, List.set_cons_zero, List.set_cons_succ]
    refine wpAnyH_take (i := 10) (v := undef) rfl (by kernel_rfl) (by kernel_rfl) (by kernel_rfl) (fun _ _ _ h => h) (Or.inr ⟨by rfl, rfl⟩) hHeld ?_
    change wpAnyH _ _ _ _ _ _ _ (Act.put _ (some 97) _) _
    simp only [Act.put, List.setIfInBounds_toArray, List.set_cons_zero, List.set_cons_succ]
    refine wpAnyH_take (i := 11) (v := undef) rfl (by kernel_rfl) (by kernel_rfl) (by kernel_rfl) (fun _ _ _ h => h) (Or.inr ⟨by rfl, rfl⟩) hHeld ?_
    change wpAnyH _ _ _ _ _ _ _ (Act.put _ (some 98) _) _
    simp only [Act.put, List.setIfInBounds_toArray, List.set_cons_zero, List.set_cons_succ]
    refine wpAnyH_take (i := 12) (v := undef) rfl (by kernel_rfl) (by kernel_rfl) (by kernel_rfl) (fun _ _ _ h => h) (Or.inr ⟨by rfl, rfl⟩) hHeld ?_
    change wpAnyH _ _ _ _ _ _ _ (Act.put _ (some 99) _) _
    simp only [Act.put, List.setIfInBounds_toArray, List.set_cons_zero, List.set_cons_succ]
    refine wpAnyH_take (i := 13) (v := ?_) rfl (by kernel_rfl) (by kernel_rfl) (by kernel_rfl) (fun _ _ _ h => h) (Or.inl ⟨by rfl, ?_⟩) hHeld ?_
    rotate_left 1
    · intro w9 hSw; obtain ⟨⟨⟨g0, g1, g2, g3⟩, g4, g5, g6, g7⟩, ⟨k0, k1, k2, k3⟩, k4, k5, k6, k7⟩ := hSw; go_simp; try with_reducible rfl
    change wpAnyH _ _ _ _ _ _ _ (Act.put _ (some 100) _) _
    simp only [Act.put, List.setIfInBounds_toArray, List.set_cons_zero, List.set_cons_succ]
    refine wpAnyH_done (by kernel_rfl) ?_ _
    clear hHeld HRd
    obtain ⟨⟨⟨⟨a0, a1, a2, a3⟩, a4, a5, a6, a7⟩, ⟨⟨b0, b1, b2, b3⟩, b4, b5, b6, b7⟩, ⟨⟨c0, c1, c2, c3⟩, c4, c5, c6, c7⟩⟩, -, -⟩ := HXX.out v4 Hv4.out
    go_wp2_with fail
    refine (HOf.out a _ _ HM.out.1 HSzs.out.2.2.1 (HXX.out _ Hv4.out).2.1.1 Hv4.out).mono ?_
    rintro e u1 ⟨rfl, hb⟩
    have Hu1 : Hid (Below Wc.heap.size Wc u1) := Hv4.out.trans (hb.mono Hv4.out.size)
    clear hb
    clear a0 a1 a2 a3 a4 a5 a6 a7 b0 b1 b2 b3 b4 b5 b6 b7 c0 c1 c2 c3 c4 c5 c6 c7
    rw [HB1.out]
    obtain ⟨⟨⟨⟨a0, a1, a2, a3⟩, a4, a5, a6, a7⟩, ⟨⟨b0, b1, b2, b3⟩, b4, b5, b6, b7⟩, ⟨⟨c0, c1, c2, c3⟩, c4, c5, c6, c7⟩⟩, -, -⟩ := HXX.out u1 Hu1.out
    go_wp2_with fail
    refine (HAwc.out _ Hu1.out).mono ?_
    rintro e u2 ⟨rfl, hb⟩
    have Hu2 : Hid (Below Wc.heap.size Wc u2) := Hu1.out.trans (hb.mono Hu1.out.size)
    clear hb
    clear a0 a1 a2 a3 a4 a5 a6 a7 b0 b1 b2 b3 b4 b5 b6 b7 c0 c1 c2 c3 c4 c5 c6 c7
    obtain ⟨⟨⟨⟨a0, a1, a2, a3⟩, a4, a5, a6, a7⟩, ⟨⟨b0, b1, b2, b3⟩, b4, b5, b6, b7⟩, ⟨⟨c0, c1, c2, c3⟩, c4, c5, c6, c7⟩⟩, -, -⟩ := HXX.out u2 Hu2.out
    go_wp2_with fail
    refine (HOf.out a _ _ HM.out.1 HSzs.out.2.2.1 (HXX.out _ Hu2.out).2.1.1 Hu2.out).mono ?_
    rintro e u3 ⟨rfl, hb⟩
    have Hu3 : Hid (Below Wc.heap.size Wc u3) := Hu2.out.trans (hb.mono Hu2.out.size)
    clear hb
    clear a0 a1 a2 a3 a4 a5 a6 a7 b0 b1 b2 b3 b4 b5 b6 b7 c0 c1 c2 c3 c4 c5 c6 c7
    rw [HB1.out]
    have HBz : Hid (Below w.heap.size w u3) := HFin.out _ Hu3.out
    obtain ⟨⟨⟨⟨a0, a1, a2, a3⟩, a4, a5, a6, a7⟩, ⟨⟨b0, b1, b2, b3⟩, b4, b5, b6, b7⟩, ⟨⟨c0, c1, c2, c3⟩, c4, c5, c6, c7⟩⟩, -, -⟩ := HXX.out u3 Hu3.out
    go_wp2
    go_ret
    exact ⟨rfl, HBz.out⟩
  have HB1 : Hid (ofB a.t b.t.n = true) := hB1
  clear hB1
  have HRd : Hid (Below Wc.heap.size Wc w4.drew) := Hw4.out.drew
  go_wp2_with fail
  refine wp_region_held_drew (S := fun w' => BxT wf0.heap.size a.t a.vo a.va a.vc w' ∧ BxT wf1.heap.size b.t b.vo b.va b.vc w') (by kernel_rfl) (HSS.out _ HRd.out) (fun hHeld => ?_)
  generalize w4.drew = wd at *
  refine wpAnyH_take (i := 0) (v := ?_) rfl (by kernel_rfl) (by kernel_rfl) (by kernel_rfl) (fun _ _ _ h => h) (Or.inl ⟨by rfl, ?_⟩) hHeld ?_
  rotate_left 1
  · intro w9 hSw; obtain ⟨⟨⟨g0, g1, g2, g3⟩, g4, g5, g6, g7⟩, ⟨k0, k1, k2, k3⟩, k4, k5, k6, k7⟩ := hSw; go_simp; try with_reducible rfl
  change wpAnyH _ _ _ _ _ _ _ (Act.put _ (some 87) _) _
  simp only [Act.put, List.setIfInBounds_toArray, List.set_cons_zero, List.set_cons_succ]
  refine wpAnyH_take (i := 1) (v := ?_) rfl (by kernel_rfl) (by kernel_rfl) (by kernel_rfl) (fun _ _ _ h => h) (Or.inl ⟨by rfl, ?_⟩) hHeld ?_
  rotate_left 1
  · intro w9 hSw; obtain ⟨⟨⟨g0, g1, g2, g3⟩, g4, g5, g6, g7⟩, ⟨k0, k1, k2, k3⟩, k4, k5, k6, k7⟩ := hSw; go_simp; try with_reducible rfl
  change wpAnyH _ _ _ _ _ _ _ (Act.put _ (some 88) _) _
  simp only [Act.put, List.setIfInBounds_toArray, List.set_cons_zero, List.set_cons_succ]
  refine wpAnyH_take (i := 2) (v := ?_) rfl (by kernel_rfl) (by kernel_rfl) (by kernel_rfl) (fun _ _ _ h => h) (Or.inl ⟨by rfl, ?_⟩) hHeld ?_
  rotate_left 1
  · intro w9 hSw; obtain ⟨⟨⟨g0, g1, g2, g3⟩, g4, g5, g6, g7⟩, ⟨k0, k1, k2, k3⟩, k4, k5, k6, k7⟩ := hSw; go_simp; try with_reducible rfl
  change wpAnyH _ _ _ _ _ _ _ (Act.put _ (some 89) _) _
  simp only [Act.put, List.setIfInBounds_toArray, List.set_cons_zero, List.set_cons_succ]
  refine wpAnyH_ready (rs := [3]) (by kernel_rfl) (by simp) ?_
  refine AllReadyH.cons rfl (fun K hK => ?_) AllReadyH.nil
  go_simp
  refine (HOf.out a _ _ HM.out.1 HSzs.out.2.2.1 (HXX.out _ HRd.out).2.1.1 HRd.out).mono ?_
  rintro e v4 ⟨rfl, hb⟩
  have Hv4 : Hid (Below Wc.heap.size Wc v4) := HRd.out.trans (hb.mono HRd.out.size)
  clear hb
  rw [HB1.out]
  go_simp
  refine hK.out _ _ (HSS.out _ Hv4.out) (fun hHeld => ?_)
  clear hK K
  refine wpAnyH_take (i := 4) (v := ?_) rfl (by kernel_rfl) (by kernel_rfl) (by kernel_rfl) (fun _ _ _ h => h) (Or.inl ⟨by rfl, ?_⟩) hHeld ?_
  rotate_left 1
  · intro w9 hSw; obtain ⟨⟨⟨g0, g1, g2, g3⟩, g4, g5, g6, g7⟩, ⟨k0, k1, k2, k3⟩, k4, k5, k6, k7⟩ := hSw; go_simp; try with_reducible rfl
  change wpAnyH _ _ _ _ _ _ _ (Act.put _ (some 91) _) _
  simp only [Act.put, List.setIfInBounds_toArray, List.set_cons_zero, List.set_cons_succ]
  refine wpAnyH_take (i := 5) (v := ?_) rfl (by kernel_rfl) (by kernel_rfl) (by kernel_rfl) (fun _ _ _ h => h) (Or.inl ⟨by rfl, ?_⟩) hHeld ?_
  rotate_left 1
  · intro w9 hSw; obtain ⟨⟨⟨g0, g1, g2, g3⟩, g4, g5, g6, g7⟩, ⟨k0, k1, k2, k3⟩, k4, k5, k6, k7⟩ := hSw; go_simp; try with_reducible rfl
  change wpAnyH _ _ _ _ _ _ _ (Act.put _ (some 92) _) _
  simp only [Act.put, List.setIfInBounds_toArray, List.set_cons_zero, List.set_cons_succ]
  refine wpAnyH_take (i := 6) (v := ?_) rfl (by kernel_rfl) (by kernel_rfl) (by kernel_rfl) (fun _ _ _ h => h) (Or.inl ⟨by rfl, ?_⟩) hHeld ?_
  rotate_left 1
  · intro w9 hSw; obtain ⟨⟨⟨g0, g1, g2, g3⟩, g4, g5, g6, g7⟩, ⟨k0, k1, k2, k3⟩, k4, k5, k6, k7⟩ := hSw; go_simp; try with_reducible rfl
  change wpAnyH _ _ _ _ _ _ _ (Act.put _ (some 93) _) _
  simp only [Act.put, List.setIfInBounds_toArray, List.set_cons_zero, List.set_cons_succ]
  refine wpAnyH_take (i := 8) (v := ?_) rfl (by kernel_rfl) (by kernel_rfl) (by kernel_rfl) (fun _ _ _ h => h) (Or.inl ⟨by rfl, ?_⟩) hHeld ?_
  rotate_left 1
  · intro w9 hSw; obtain ⟨⟨⟨g0, g1, g2, g3⟩, g4, g5, g6, g7⟩, ⟨k0, k1, k2, k3⟩, k4, k5, k6, k7⟩ := hSw; go_simp; try with_reducible rfl
  change wpAnyH _ _ _ _ _ _ _ (Act.put _ (some 95) _) _
  simp only [Act.put, List.setIfInBounds_toArray, List.set_cons_zero, List.set_cons_succ]
  refine wpAnyH_take (i := 9) (v := ?_) rfl (by kernel_rfl) (by kernel_rfl) (by kernel_rfl) (fun _ _ _ h => h) (Or.inl ⟨by rfl, ?_⟩) hHeld ?_
  rotate_left 1
  · intro w9 hSw; obtain ⟨⟨⟨g0, g1, g2, g3⟩, g4, g5, g6, g7⟩, ⟨k0, k1, k2, k3⟩, k4, k5, k6, k7⟩ := hSw; go_simp; try with_reducible rfl
  change wpAnyH _ _ _ _ _ _ _ (Act.put _ (some 96) _) _
  simp only [Act.put, List.setIfInBounds_toArray, List.set_cons_zero, List.set_cons_succ]
  refine wpAnyH_ready (rs := [7]) (by kernel_rfl) (by simp) ?_
  refine AllReadyH.cons rfl (fun K hK => ?_) AllReadyH.nil
  go_simp
  refine (HRf.out b _ HM.out.2.1 (HXX.out _ Hv4.out).2.1.2.1).mono ?_
  rintro e v5 ⟨ra, rc, rfl, hr1, hb⟩
  have Hv5 : Hid (Below Wc.heap.size Wc v5) := Hv4.out.trans (hb.mono Hv4.out.size)
  clear hb
  go_simp
  refine hK.out _ _ (HSS.out _ Hv5.out) (fun hHeld => ?_)
  clear hK K
  refine wpAnyH_ready (rs := [10]) (by kernel_rfl) (by simp) ?_
  refine AllReadyH.cons rfl (fun K hK => ?_) AllReadyH.nil
  go_simp
  refine (HRf.out a _ HM.out.1 (HXX.out _ Hv5.out).2.1.1).mono ?_
  rintro e v6 ⟨rb, rd, rfl, hr2, hb⟩
  have Hv6 : Hid (Below Wc.heap.size Wc v6) := Hv5.out.trans (hb.mono Hv5.out.size)
  have hr1' := hr1.below hb
  clear hb
  go_simp
  refine hK.out _ _ (HSS.out _ Hv6.out) (fun hHeld => ?_)
  clear hK K
  refine wpAnyH_ready (rs := [11]) (by kernel_rfl) (by simp) ?_
  refine AllReadyH.cons rfl (fun K hK => ?_) AllReadyH.nil
  go_simp
  refine (HWi.out HB1.out _ _ _ hr1' hr2).mono ?_
  rintro e v7 ⟨rfl, hb⟩
  have Hv7 : Hid (Below Wc.heap.size Wc v7) := Hv6.out.trans (hb.mono Hv6.out.size)
  clear hb
  go_simp
  refine hK.out _ _ (HSS.out _ Hv7.out) (fun hHeld => ?_)
  clear hK K
  refine wpAnyH_take (i := 12) (v := ?_) rfl (by kernel_rfl) (by kernel_rfl) (by kernel_rfl) (fun _ _ _ h => h) (Or.inl ⟨by rfl, ?_⟩) hHeld ?_
  rotate_left 1
  · intro w9 hSw; obtain ⟨⟨⟨g0, g1, g2, g3⟩, g4, g5, g6, g7⟩, ⟨k0, k1, k2, k3⟩, k4, k5, k6, k7⟩ := hSw; go_simp; try with_reducible rfl
  change wpAnyH _ _ _ _ _ _ _ (Act.put _ (some 99) _) _
  simp only [Act.put, List.setIfInBounds_toArray, List.set_cons_zero, List.set_cons_succ]
  refine wpAnyH_take (i := 13) (v := ?_) rfl (by kernel_rfl) (by kernel_rfl) (by kernel_rfl) (fun _ _ _ h => h) (Or.inl ⟨by rfl, ?_⟩) hHeld ?_
  rotate_left 1
  · intro w9 hSw; obtain ⟨⟨⟨g0, g1, g2, g3⟩, g4, g5, g6, g7⟩, ⟨k0, k1, k2, k3⟩, k4, k5, k6, k7⟩ := hSw; go_simp; try with_reducible rfl
  change wpAnyH _ _ _ _ _ _ _ (Act.put _ (some 100) _) _
  simp only [Act.put, List.setIfInBounds_toArray, List.set_cons_zero, List.set_cons_succ]
  refine wpAnyH_done (by kernel_rfl) ?_ _
  clear hHeld HRd
  obtain ⟨⟨⟨⟨a0, a1, a2, a3⟩, a4, a5, a6, a7⟩, ⟨⟨b0, b1, b2, b3⟩, b4, b5, b6, b7⟩, ⟨⟨c0, c1, c2, c3⟩, c4, c5, c6, c7⟩⟩, -, -⟩ := HXX.out v7 Hv7.out
  go_wp2_with fail
  refine (HOf.out a _ _ HM.out.1 HSzs.out.2.2.1 (HXX.out _ Hv7.out).2.1.1 Hv7.out).mono ?_
  rintro e u1 ⟨rfl, hb⟩
  have Hu1 : Hid (Below Wc.heap.size Wc u1) := Hv7.out.trans (hb.mono Hv7.out.size)
  clear hb
  clear a0 a1 a2 a3 a4 a5 a6 a7 b0 b1 b2 b3 b4 b5 b6 b7 c0 c1 c2 c3 c4 c5 c6 c7
  rw [HB1.out]
  obtain ⟨⟨⟨⟨a0, a1, a2, a3⟩, a4, a5, a6, a7⟩, ⟨⟨b0, b1, b2, b3⟩, b4, b5, b6, b7⟩, ⟨⟨c0, c1, c2, c3⟩, c4, c5, c6, c7⟩⟩, -, -⟩ := HXX.out u1 Hu1.out
  go_wp2_with fail
  refine (HOf.out b _ _ HM.out.2.1 HSzs.out.2.2.2 (HXX.out _ Hu1.out).2.1.2.1 Hu1.out).mono ?_
  rintro e u2 ⟨rfl, hb⟩
  have Hu2 : Hid (Below Wc.heap.size Wc u2) := Hu1.out.trans (hb.mono Hu1.out.size)
  clear hb
  clear a0 a1 a2 a3 a4 a5 a6 a7 b0 b1 b2 b3 b4 b5 b6 b7 c0 c1 c2 c3 c4 c5 c6 c7
  cases hB2 : ofB b.t c.t.n
  · obtain ⟨⟨⟨⟨a0, a1, a2, a3⟩, a4, a5, a6, a7⟩, ⟨⟨b0, b1, b2, b3⟩, b4, b5, b6, b7⟩, ⟨⟨c0, c1, c2, c3⟩, c4, c5, c6, c7⟩⟩, -, -⟩ := HXX.out u2 Hu2.out
    go_wp2_with fail
    refine (HAwc.out _ Hu2.out).mono ?_
    rintro e u5 ⟨rfl, hb⟩
    have Hu5 : Hid (Below Wc.heap.size Wc u5) := Hu2.out.trans (hb.mono Hu2.out.size)
    clear hb
    clear a0 a1 a2 a3 a4 a5 a6 a7 b0 b1 b2 b3 b4 b5 b6 b7 c0 c1 c2 c3 c4 c5 c6 c7
    obtain ⟨⟨⟨⟨a0, a1, a2, a3⟩, a4, a5, a6, a7⟩, ⟨⟨b0, b1, b2, b3⟩, b4, b5, b6, b7⟩, ⟨⟨c0, c1, c2, c3⟩, c4, c5, c6, c7⟩⟩, -, -⟩ := HXX.out u5 Hu5.out
    go_wp2_with fail
    refine (HOf.out a _ _ HM.out.1 HSzs.out.2.2.1 (HXX.out _ Hu5.out).2.1.1 Hu5.out).mono ?_
    rintro e u6 ⟨rfl, hb⟩
    have Hu6 : Hid (Below Wc.heap.size Wc u6) := Hu5.out.trans (hb.mono Hu5.out.size)
    clear hb
    clear a0 a1 a2 a3 a4 a5 a6 a7 b0 b1 b2 b3 b4 b5 b6 b7 c0 c1 c2 c3 c4 c5 c6 c7
    rw [HB1.out]
    obtain ⟨⟨⟨⟨a0, a1, a2, a3⟩, a4, a5, a6, a7⟩, ⟨⟨b0, b1, b2, b3⟩, b4, b5, b6, b7⟩, ⟨⟨c0, c1, c2, c3⟩, c4, c5, c6, c7⟩⟩, -, -⟩ := HXX.out u6 Hu6.out
    go_wp2_with fail
    refine (HOf.out b _ _ HM.out.2.1 HSzs.out.1 (HXX.out _ Hu6.out).2.1.2.1 Hu6.out).mono ?_
    rintro e u7 ⟨rfl, hb⟩
    have Hu7 : Hid (Below Wc.heap.size Wc u7) := Hu6.out.trans (hb.mono Hu6.out.size)
    clear hb
    clear a0 a1 a2 a3 a4 a5 a6 a7 b0 b1 b2 b3 b4 b5 b6 b7 c0 c1 c2 c3 c4 c5 c6 c7
    cases hB4 : ofB b.t a.t.n
    · have HBz : Hid (Below w.heap.size w u7) := HFin.out _ Hu7.out
      obtain ⟨⟨⟨⟨a0, a1, a2, a3⟩, a4, a5, a6, a7⟩, ⟨⟨b0, b1, b2, b3⟩, b4, b5, b6, b7⟩, ⟨⟨c0, c1, c2, c3⟩, c4, c5, c6, c7⟩⟩, -, -⟩ := HXX.out u7 Hu7.out
      go_wp2
      go_ret
      exact ⟨rfl, HBz.out⟩
    obtain ⟨⟨⟨⟨a0, a1, a2, a3⟩, a4, a5, a6, a7⟩, ⟨⟨b0, b1, b2, b3⟩, b4, b5, b6, b7⟩, ⟨⟨c0, c1, c2, c3⟩, c4, c5, c6, c7⟩⟩, -, -⟩ := HXX.out u7 Hu7.out
    go_wp2_with fail
    refine (HSa.out HB1.out hB4 _ Hu7.out).mono ?_
    rintro e u8 ⟨rfl, hb⟩
    have Hu8 : Hid (Below Wc.heap.size Wc u8) := Hu7.out.trans (hb.mono Hu7.out.size)
    clear hb
    clear a0 a1 a2 a3 a4 a5 a6 a7 b0 b1 b2 b3 b4 b5 b6 b7 c0 c1 c2 c3 c4 c5 c6 c7
    have HBz : Hid (Below w.heap.size w u8) := HFin.out _ Hu8.out
    obtain ⟨⟨⟨⟨a0, a1, a2, a3⟩, a4, a5, a6, a7⟩, ⟨⟨b0, b1, b2, b3⟩, b4, b5, b6, b7⟩, ⟨⟨c0, c1, c2, c3⟩, c4, c5, c6, c7⟩⟩, -, -⟩ := HXX.out u8 Hu8.out
    go_wp2
    go_ret
    exact ⟨rfl, HBz.out⟩
  obtain ⟨⟨⟨⟨a0, a1, a2, a3⟩, a4, a5, a6, a7⟩, ⟨⟨b0, b1, b2, b3⟩, b4, b5, b6, b7⟩, ⟨⟨c0, c1, c2, c3⟩, c4, c5, c6, c7⟩⟩, -, -⟩ := HXX.out u2 Hu2.out
  go_wp2_with fail
  refine (HOf.out a _ _ HM.out.1 HSzs.out.2.2.2 (HXX.out _ Hu2.out).2.1.1 Hu2.out).mono ?_
  rintro e u3 ⟨rfl, hb⟩
  have Hu3 : Hid (Below Wc.heap.size Wc u3) := Hu2.out.trans (hb.mono Hu2.out.size)
  clear hb
  clear a0 a1 a2 a3 a4 a5 a6 a7 b0 b1 b2 b3 b4 b5 b6 b7 c0 c1 c2 c3 c4 c5 c6 c7
  rw [HTr.out HB1.out hB2]
  obtain ⟨⟨⟨⟨a0, a1, a2, a3⟩, a4, a5, a6, a7⟩, ⟨⟨b0, b1, b2, b3⟩, b4, b5, b6, b7⟩, ⟨⟨c0, c1, c2, c3⟩, c4, c5, c6, c7⟩⟩, -, -⟩ := HXX.out u3 Hu3.out
  go_wp2_with fail
  refine (HAwc.out _ Hu3.out).mono ?_
  rintro e u5 ⟨rfl, hb⟩
  have Hu5 : Hid (Below Wc.heap.size Wc u5) := Hu3.out.trans (hb.mono Hu3.out.size)
  clear hb
  clear a0 a1 a2 a3 a4 a5 a6 a7 b0 b1 b2 b3 b4 b5 b6 b7 c0 c1 c2 c3 c4 c5 c6 c7
  obtain ⟨⟨⟨⟨a0, a1, a2, a3⟩, a4, a5, a6, a7⟩, ⟨⟨b0, b1, b2, b3⟩, b4, b5, b6, b7⟩, ⟨⟨c0, c1, c2, c3⟩, c4, c5, c6, c7⟩⟩, -, -⟩ := HXX.out u5 Hu5.out
  go_wp2_with fail
  refine (HOf.out a _ _ HM.out.1 HSzs.out.2.2.1 (HXX.out _ Hu5.out).2.1.1 Hu5.out).mono ?_
  rintro e u6 ⟨rfl, hb⟩
  have Hu6 : Hid (Below Wc.heap.size Wc u6) := Hu5.out.trans (hb.mono Hu5.out.size)
  clear hb
  clear a0 a1 a2 a3 a4 a5 a6 a7 b0 b1 b2 b3 b4 b5 b6 b7 c0 c1 c2 c3 c4 c5 c6 c7
  rw [HB1.out]
  obtain ⟨⟨⟨⟨a0, a1, a2, a3⟩, a4, a5, a6, a7⟩, ⟨⟨b0, b1, b2, b3⟩, b4, b5, b6, b7⟩, ⟨⟨c0, c1, c2, c3⟩, c4, c5, c6, c7⟩⟩, -, -⟩ := HXX.out u6 Hu6.out
  go_wp2_with fail
  refine (HOf.out b _ _ HM.out.2.1 HSzs.out.1 (HXX.out _ Hu6.out).2.1.2.1 Hu6.out).mono ?_
  rintro e u7 ⟨rfl, hb⟩
  have Hu7 : Hid (Below Wc.heap.size Wc u7) := Hu6.out.trans (hb.mono Hu6.out.size)
  clear hb
  clear a0 a1 a2 a3 a4 a5 a6 a7 b0 b1 b2 b3 b4 b5 b6 b7 c0 c1 c2 c3 c4 c5 c6 c7
  cases hB4 : ofB b.t a.t.n
  · have HBz : Hid (Below w.heap.size w u7) := HFin.out _ Hu7.out
    obtain ⟨⟨⟨⟨a0, a1, a2, a3⟩, a4, a5, a6, a7⟩, ⟨⟨b0, b1, b2, b3⟩, b4, b5, b6, b7⟩, ⟨⟨c0, c1, c2, c3⟩, c4, c5, c6, c7⟩⟩, -, -⟩ := HXX.out u7 Hu7.out
    go_wp2
    go_ret
    exact ⟨rfl, HBz.out⟩
  obtain ⟨⟨⟨⟨a0, a1, a2, a3⟩, a4, a5, a6, a7⟩, ⟨⟨b0, b1, b2, b3⟩, b4, b5, b6, b7⟩, ⟨⟨c0, c1, c2, c3⟩, c4, c5, c6, c7⟩⟩, -, -⟩ := HXX.out u7 Hu7.out
  go_wp2_with fail
  refine (HSa.out HB1.out hB4 _ Hu7.out).mono ?_
  rintro e u8 ⟨rfl, hb⟩
  have Hu8 : Hid (Below Wc.heap.size Wc u8) := Hu7.out.trans (hb.mono Hu7.out.size)
  clear hb
  clear a0 a1 a2 a3 a4 a5 a6 a7 b0 b1 b2 b3 b4 b5 b6 b7 c0 c1 c2 c3 c4 c5 c6 c7
  have HBz : Hid (Below w.heap.size w u8) := HFin.out _ Hu8.out
  obtain ⟨⟨⟨⟨a0, a1, a2, a3⟩, a4, a5, a6, a7⟩, ⟨⟨b0, b1, b2, b3⟩, b4, b5, b6, b7⟩, ⟨⟨c0, c1, c2, c3⟩, c4, c5, c6, c7⟩⟩, -, -⟩ := HXX.out u8 Hu8.out
  go_wp2
  go_ret
  exact ⟨rfl, HBz.out⟩
end Go.Proofs.YticlejkeaagfjaaGreatDoor
