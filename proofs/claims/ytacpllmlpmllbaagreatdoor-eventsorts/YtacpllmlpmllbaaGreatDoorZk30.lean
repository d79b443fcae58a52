/- EventInherits: its walk, where the example's call answers true. -/
import Derived.Test.YtacpllmlpmllbaaGreatDoorZk18
import Derived.Test.YtacpllmlpmllbaaGreatDoorZk15
import Derived.Test.YtacpllmlpmllbaaGreatDoorZk14
import Derived.Test.YtacpllmlpmllbaaGreatDoorZk13
import Derived.Test.YtacpllmlpmllbaaGreatDoorZk19
import Derived.Test.YtacpllmlpmllbaaGreatDoorZk29
namespace Go.Proofs.YtacpllmlpmllbaaGreatDoor
open Go.RowKit Go.ChangeMaps

theorem fewA_shortV {l : List At} (h : fewA l = true) : l.length ≤ 41 ∧ NmA l := by
  have h' := of_decide_eq_true h
  have hx : ∀ x ∈ l, x.n.size ≤ 200 ∧ x.s.size ≤ 500 := fun x hx => by
    obtain ⟨k, hk, rfl⟩ := List.getElem_of_mem hx
    exact (h' k hk).2
  refine ⟨?_, fun x hx' => by have := hx x hx'; omega⟩
  rcases Nat.lt_or_ge 41 l.length with q | q
  · have := (h' 41 q).1; omega
  · exact q
theorem nmT_zT : NmT zT := ⟨by decide, by decide, fun s hs => by simp [zT] at hs, fun x hx => by simp [zT] at hx, fun x hx => by simp [zT] at hx, by decide, by decide, by decide⟩
theorem nmT_get {L : List LT} (h : NmL L) (hm : SmL L) (s : ByteArray) : NmT ((parN (tys L) s).getD zT) ∧ SmT ((parN (tys L) s).getD zT) := by
  cases hp : parN (tys L) s with
  | none => exact ⟨nmT_zT, by decide, by decide, by decide⟩
  | some o =>
    obtain ⟨z, hz, e⟩ := List.mem_map.1 (parN_some hp).1
    show NmT o ∧ SmT o
    rw [← e]
    exact ⟨h z hz, hm z hz⟩
theorem nmA_keep {f : List Fd} {l : List At} (h : NmA l) : NmA (keepL f l) := fun x hx => h x (keep_mem.1 hx).1
theorem fitsT_zero {t : Ty} {k : ByteArray} {l : List At} (h : fitsT t k l = 0) : fitsL t.all l = 0 := by
  unfold fitsT at h
  by_cases g1 : chkT t = true
  · rw [if_pos g1] at h
    by_cases g2 : sameL k.data.toList t.n.data.toList = true
    · rw [if_pos g2] at h; exact h
    · rw [if_neg g2] at h; cases h
  · rw [if_neg g1] at h; cases h
set_option maxRecDepth 100000 in
set_option maxHeartbeats 8000000 in
theorem eventInherits_core (v : Value) (L : List LT) (a b c : Int) (k : ByteArray) (u : Value) (l : List At) (s : ByteArray) (w : World) (hL : IsTys w v L) (hl : L.length ≤ 140737488355328) (hi : ∀ x ∈ L, InT x.t) (hq : IsRow w 4 u l.length (aCells l)) (hal : l.length ≤ 140737488355328) (hW : W3 w) (hAw : ∀ W, Below w.heap.size w W → Calls Tryz.prog 9 #[] W fun e w' => e = .returned (.bool true) ∧ Below W.heap.size W w') :
    Calls Tryz.prog 6 #[v, .agg (evA a b c k u), .string s] w fun e w' => e = .returned (.bool true) ∧ Below w.heap.size w w' := by
  obtain ⟨al, cl, rfl⟩ := hL.1.form
  obtain ⟨au, cu, rfl⟩ := hq.form
  obtain ⟨W0, hW0⟩ : ∃ W0, W0 = w.alloc (.cells (evA a b c k (.slice au l.length cu)) 26) := ⟨_, rfl⟩
  have hA : Below w.heap.size w W0 := by rw [hW0]; exact al_b w _
  have hn0 : W0.heap[w.heap.size]? = some (.cells (evA a b c k (.slice au l.length cu)) 26 (0, 0)) := by rw [hW0]; exact new_at w _
  have hz0 : w.heap.size < W0.heap.size := (Array.getElem?_eq_some_iff.1 hn0).1
  have HBw : Hid (∀ W, Below W0.heap.size W0 W → Below w.heap.size w W) := fun W h => hA.trans (h.mono hA.size)
  have HE : Hid (∀ W, Below W0.heap.size W0 W → BxV w.heap.size a b c k (.slice au l.length cu) W) := fun W h => BxV.of ((h.block _ hz0).trans hn0)
  have HW : Hid (∀ W, Below W0.heap.size W0 W → W3 W) := fun W h => hW.below (HBw.out W h)
  have HAw : Hid (∀ W, Below w.heap.size w W → Calls Tryz.prog 9 #[] W fun e w' => e = .returned (.bool true) ∧ Below W.heap.size W w') := hAw
  have HFw : Hid (∀ W, Below W0.heap.size W0 W → Calls Tryz.prog 35 #[.slice al L.length cl] W fun e w' => e = .returned (.bool (fewL (tys L))) ∧ Below W.heap.size W w') := fun W h => fewT_any _ L W (hL.below (HBw.out W h)) hl hi
  have HFe : Hid (∀ W, Below W0.heap.size W0 W → Calls Tryz.prog 8 #[.agg (evA a b c k (.slice au l.length cu))] W fun e w' => e = .returned (.bool (fewE k l)) ∧ Below W.heap.size W w') := fun W h => fewE_any a b c k _ l W (hq.below (HBw.out W h)) hal
  have HLs : Hid (∀ W, Below W0.heap.size W0 W → IsTys W (.slice al L.length cl) L) := fun W h => hL.below (HBw.out W h)
  have HQ : Hid (∀ W, Below w.heap.size w W → IsRow W 4 (.slice au l.length cu) l.length (aCells l)) := fun W h => hq.below h
  have HW0 : Hid (Below W0.heap.size W0 W0) := Below.refl _ _
  clear hL hl hi hW hA hn0 hz0 hq hal hAw
  go_enter Tryz.func6, Tryz.ntmps6
  go_wp2_with fail
  rw [← hW0]
  clear hW0
  refine (HFw.out _ HW0.out).mono ?_
  rintro e w1 ⟨rfl, hb⟩
  have Hw1 : Hid (Below W0.heap.size W0 w1) := hb
  clear hb HFw
  cases hf : fewL (tys L)
  · clear hf HE HLs HW HFe HQ
    go_wp2_with fail
    refine (HAw.out _ (HBw.out _ Hw1.out)).mono ?_
    rintro e wz ⟨rfl, hb⟩
    have HBz : Hid (Below w.heap.size w wz) := (HBw.out _ Hw1.out).trans (hb.mono (HBw.out _ Hw1.out).size)
    clear hb
    go_wp2
    go_ret
    exact ⟨rfl, HBz.out⟩
  obtain ⟨f1, f2, f3⟩ := fewL_ok hf
  obtain ⟨⟨q0, q1, q2⟩, q3, q4⟩ := HE.out _ Hw1.out
  go_wp2_with fail
  refine (HFe.out _ Hw1.out).mono ?_
  rintro e w2 ⟨rfl, hb⟩
  have Hw2 : Hid (Below W0.heap.size W0 w2) := Hw1.out.trans (hb.mono Hw1.out.size)
  clear hb HFe q0 q1 q2 q3 q4 hf
  cases hfe : fewE k l
  · clear hfe HE HLs HW HQ f1 f2 f3
    go_wp2_with fail
    refine (HAw.out _ (HBw.out _ Hw2.out)).mono ?_
    rintro e wz ⟨rfl, hb⟩
    have HBz : Hid (Below w.heap.size w wz) := (HBw.out _ Hw2.out).trans (hb.mono (HBw.out _ Hw2.out).size)
    clear hb
    go_wp2
    go_ret
    exact ⟨rfl, HBz.out⟩
  by_cases h1 : s.size ≤ 200
  rotate_left
  · have d1 : decide ((200 : Int) < (s.size : Int)) = true := by simp; omega
    clear hfe HE HLs HW f1 f2 f3 HQ
    go_wp2_with fail
    refine (HAw.out _ (HBw.out _ Hw2.out)).mono ?_
    rintro e wz ⟨rfl, hb⟩
    have HBz : Hid (Below w.heap.size w wz) := (HBw.out _ Hw2.out).trans (hb.mono (HBw.out _ Hw2.out).size)
    clear hb
    go_wp2
    go_ret
    exact ⟨rfl, HBz.out⟩
  have d1 : decide ((200 : Int) < (s.size : Int)) = false := by simp; omega
  unfold fewE at hfe
  rw [Bool.and_eq_true, decide_eq_true_eq] at hfe
  obtain ⟨h0, hfa⟩ := hfe
  obtain ⟨e1, e2⟩ := fewA_shortV hfa
  have HIs : Hid (Calls Tryz.prog 36 #[.slice al L.length cl] w2 fun e w' => e = .returned (.bool (isB (tys L))) ∧ Below w2.heap.size w2 w') := is_any _ L w2 (HLs.out _ Hw2.out) (by omega) f2 (HW.out _ Hw2.out)
  have HFi : Hid (∀ (s : ByteArray) W, s.size ≤ 200 → Below W0.heap.size W0 W → Calls Tryz.prog 37 #[.slice al L.length cl, .string s] W fun e w' => FnP L s W e w') := fun s W hs h => findT_any _ L s W (HLs.out W h) (by omega) (nmN f2) f3 (by omega) (HW.out W h).t
  have HFt : Hid (∀ (o : LT) (k : ByteArray) (x : Option Addr) (y : Nat) (m : List At) W, W3 W → IsTy W o.t o.vo o.va o.vc → NmT o.t → k.size ≤ 1000000 → IsRow W 4 (.slice x m.length y) m.length (aCells m) → m.length ≤ 1000 → NmA m → Calls Tryz.prog 39 #[ltV o, .agg (evA a b c k (.slice x m.length y))] W fun e w' => e = .returned (.int .i64 (fitsT o.t k m)) ∧ Below W.heap.size W w') := fun o k x y m W hw hI no hk hr hml hmn => fitsT_any o a b c k _ m W hI no hk hr (by omega) hmn hw
  have HOf : Hid (∀ (o : LT) W, W3 W → IsTy W o.t o.vo o.va o.vc → NmT o.t → Calls Tryz.prog 38 #[ltV o, .string s] W fun e w' => e = .returned (.bool (ofB o.t s)) ∧ Below W.heap.size W w') := fun o W hw hI no => of_any o s W hI no.lc no.c (by omega) hw.t
  have HKp : Hid (∀ (o : LT) W, W3 W → IsRow W 4 (.slice au l.length cu) l.length (aCells l) → IsTy W o.t o.vo o.va o.vc → NmT o.t → SmT o.t → Calls Tryz.prog 29 #[.agg (evA a b c k (.slice au l.length cu)), o.va] W fun e w' => KpP a b c k (keepL o.t.all l) W e w') := fun o W hw hr hI no sm => keep_any a b c k _ _ l o.t.all W hr hI.2.1 (by omega) sm.2.1 e2 no.a hw.t
  have HNm : Hid (∀ s, NmT ((parN (tys L) s).getD zT) ∧ SmT ((parN (tys L) s).getD zT)) := fun s => nmT_get f2 f3 s
  have HLn : Hid (l.length ≤ 41 ∧ NmA l) := ⟨e1, e2⟩
  clear hfa f1 f2 f3 HLs e1 e2
  go_wp2_with fail
  refine HIs.out.mono ?_
  rintro e w3 ⟨rfl, hb⟩
  have Hw3 : Hid (Below W0.heap.size W0 w3) := Hw2.out.trans (hb.mono Hw2.out.size)
  clear hb HIs
  cases hib : isB (tys L)
  · clear hib HE HW HQ HFi HFt HOf HKp HNm HLn
    go_wp2_with fail
    refine (HAw.out _ (HBw.out _ Hw3.out)).mono ?_
    rintro e wz ⟨rfl, hb⟩
    have HBz : Hid (Below w.heap.size w wz) := (HBw.out _ Hw3.out).trans (hb.mono (HBw.out _ Hw3.out).size)
    clear hb
    go_wp2
    go_ret
    exact ⟨rfl, HBz.out⟩
  obtain ⟨⟨q0, q1, q2⟩, q3, q4⟩ := HE.out _ Hw3.out
  go_wp2_with fail
  refine (HFi.out k _ h0 Hw3.out).mono ?_
  rintro e wf0 ⟨t, rfl, htt, htI, -, hb⟩
  have Hwf0 : Hid (Below W0.heap.size W0 wf0) := Hw3.out.trans (hb.mono Hw3.out.size)
  obtain ⟨Wa, hWa⟩ : ∃ Wa, Wa = wf0.alloc (.cells (tyA t.t t.vo t.va t.vc) 67) := ⟨_, rfl⟩
  have hb2 : Below wf0.heap.size wf0 Wa := by rw [hWa]; exact al_b _ _
  have hn2 : Wa.heap[wf0.heap.size]? = some (.cells (tyA t.t t.vo t.va t.vc) 67 (0, 0)) := by rw [hWa]; exact new_at _ _
  have HWa : Hid (Below W0.heap.size W0 Wa) := Hwf0.out.trans (hb2.mono Hwf0.out.size)
  have HXt : Hid (∀ W, Below Wa.heap.size Wa W → BxT wf0.heap.size t.t t.vo t.va t.vc W ∧ IsTy W t.t t.vo t.va t.vc ∧ Below W0.heap.size W0 W) := fun W h => ⟨BxT.of ((h.block _ (Array.getElem?_eq_some_iff.1 hn2).1).trans hn2), (htI.below hb2).below h, HWa.out.trans (h.mono HWa.out.size)⟩
  have HNt : Hid (NmT t.t) := by show NmT t.t; rw [htt]; exact (HNm.out k).1
  have HTt : Hid (t.t = (parN (tys L) k).getD zT) := htt
  clear hb hb2 hn2 htt htI q0 q1 q2 q3 q4
  go_wp2_with fail
  rw [← hWa]
  clear hWa
  refine (HFi.out s _ h1 HWa.out).mono ?_
  rintro e wf1 ⟨o, rfl, hot, hoI, -, hb⟩
  have Hwf1 : Hid (Below Wa.heap.size Wa wf1) := hb
  obtain ⟨Wb, hWb⟩ : ∃ Wb, Wb = wf1.alloc (.cells (tyA o.t o.vo o.va o.vc) 67) := ⟨_, rfl⟩
  have hb2 : Below wf1.heap.size wf1 Wb := by rw [hWb]; exact al_b _ _
  have hn2 : Wb.heap[wf1.heap.size]? = some (.cells (tyA o.t o.vo o.va o.vc) 67 (0, 0)) := by rw [hWb]; exact new_at _ _
  have HWb : Hid (Below Wa.heap.size Wa Wb) := Hwf1.out.trans (hb2.mono Hwf1.out.size)
  have HXX : Hid (∀ W, Below Wb.heap.size Wb W → (BxV w.heap.size a b c k (.slice au l.length cu) W ∧ BxT wf0.heap.size t.t t.vo t.va t.vc W ∧ BxT wf1.heap.size o.t o.vo o.va o.vc W) ∧ (IsTy W t.t t.vo t.va t.vc ∧ IsTy W o.t o.vo o.va o.vc) ∧ Below W0.heap.size W0 W ∧ W3 W ∧ IsRow W 4 (.slice au l.length cu) l.length (aCells l)) := fun W h => by
    have h1 := HWb.out.trans (h.mono HWb.out.size)
    have h2 := (HXt.out W h1).2.2
    exact ⟨⟨HE.out W h2, (HXt.out W h1).1, BxT.of ((h.block _ (Array.getElem?_eq_some_iff.1 hn2).1).trans hn2)⟩, ⟨(HXt.out W h1).2.1, (hoI.below hb2).below h⟩, h2, HW.out W h2, HQ.out W (HBw.out W h2)⟩
  have HNo : Hid (NmT o.t ∧ SmT o.t) := by show NmT o.t ∧ SmT o.t; rw [hot]; exact HNm.out s
  have HTo : Hid (o.t = (parN (tys L) s).getD zT) := hot
  have HCb : Hid (Below Wb.heap.size Wb Wb) := Below.refl _ _
  have HWb0 : Hid (Below W0.heap.size W0 Wb) := (HXX.out _ HCb.out).2.2.1
  clear hb hb2 hn2 hot hoI HFi HNm
  cases hs0 : (parN (tys L) k).isSome
  · clear HXt HXX HNt HTt HNo HTo HE HW HQ HFt HOf HKp HLn hib
    go_wp2_with fail
    rw [← hWb]
    clear hWb
    refine (HAw.out _ (HBw.out _ HWb0.out)).mono ?_
    rintro e wz ⟨rfl, hb⟩
    have HBz : Hid (Below w.heap.size w wz) := (HBw.out _ HWb0.out).trans (hb.mono (HBw.out _ HWb0.out).size)
    clear hb
    go_wp2
    go_ret
    exact ⟨rfl, HBz.out⟩
  cases hs1 : (parN (tys L) s).isSome
  · clear HXt HXX HNt HTt HNo HTo HE HW HQ HFt HOf HKp HLn hib hs0
    go_wp2_with fail
    rw [← hWb]
    clear hWb
    refine (HAw.out _ (HBw.out _ HWb0.out)).mono ?_
    rintro e wz ⟨rfl, hb⟩
    have HBz : Hid (Below w.heap.size w wz) := (HBw.out _ HWb0.out).trans (hb.mono (HBw.out _ HWb0.out).size)
    clear hb
    go_wp2
    go_ret
    exact ⟨rfl, HBz.out⟩
  obtain ⟨tt, hpt⟩ := Option.isSome_iff_exists.1 hs0
  obtain ⟨oo, hpo⟩ := Option.isSome_iff_exists.1 hs1
  have et : t.t = tt := by rw [HTt.out, hpt]; rfl
  have eo : o.t = oo := by rw [HTo.out, hpo]; rfl
  rw [← et] at hpt
  rw [← eo] at hpo
  have HIn : Hid (ofB t.t s = true → fitsT t.t k l = 0 → fitsT o.t o.t.n (keepL o.t.all l) = 0) := fun g1 g2 => by
    obtain ⟨c1, c2⟩ := event_inherits hib hpt hpo g1 (fitsT_zero g2)
    unfold fitsT
    rw [if_pos c1, if_pos (by simp [sameL])]
    exact c2
  have HKl : Hid ((keepL o.t.all l).length ≤ l.length ∧ NmA (keepL o.t.all l)) := ⟨keep_len _ _, nmA_keep HLn.out.2⟩
  clear hs0 hs1 hpt hpo et eo HTt HTo hib HXt
  obtain ⟨⟨⟨⟨q0, q1, q2⟩, q3, q4⟩, ⟨⟨a0, a1, a2, a3⟩, a4, a5, a6, a7⟩, ⟨⟨b0, b1, b2, b3⟩, b4, b5, b6, b7⟩⟩, -, -⟩ := HXX.out _ HCb.out
  rw [hWb] at a0 a1 a2 a3 a4 a5 a6 a7
  go_wp2_with fail
  rw [← hWb]
  clear hWb
  refine (HOf.out t _ (HXX.out _ HCb.out).2.2.2.1 (HXX.out _ HCb.out).2.1.1 HNt.out).mono ?_
  rintro e w4 ⟨rfl, hb⟩
  have Hw4 : Hid (Below Wb.heap.size Wb w4) := hb
  have Hw40 : Hid (Below W0.heap.size W0 w4) := (HXX.out _ hb).2.2.1
  clear hb q0 q1 q2 q3 q4 a0 a1 a2 a3 a4 a5 a6 a7 b0 b1 b2 b3 b4 b5 b6 b7
  cases hof : ofB t.t s
  · clear hof HXX HNt HNo HE HW HQ HFt HOf HKp HLn HIn HKl
    go_wp2_with fail
    refine (HAw.out _ (HBw.out _ Hw40.out)).mono ?_
    rintro e wz ⟨rfl, hb⟩
    have HBz : Hid (Below w.heap.size w wz) := (HBw.out _ Hw40.out).trans (hb.mono (HBw.out _ Hw40.out).size)
    clear hb
    go_wp2
    go_ret
    exact ⟨rfl, HBz.out⟩
  have HIn2 : Hid (fitsT t.t k l = 0 → fitsT o.t o.t.n (keepL o.t.all l) = 0) := HIn.out hof
  have HFt4 : Hid (Calls Tryz.prog 39 #[ltV t, .agg (evA a b c k (.slice au l.length cu))] w4 fun e w' => e = .returned (.int .i64 (fitsT t.t k l)) ∧ Below w4.heap.size w4 w') := HFt.out t k au cu l w4 (HXX.out _ Hw4.out).2.2.2.1 (HXX.out _ Hw4.out).2.1.1 HNt.out (by omega) (HXX.out _ Hw4.out).2.2.2.2 (by have := HLn.out.1; omega) HLn.out.2
  clear hof HIn HOf
  obtain ⟨⟨⟨⟨q0, q1, q2⟩, q3, q4⟩, ⟨⟨a0, a1, a2, a3⟩, a4, a5, a6, a7⟩, ⟨⟨b0, b1, b2, b3⟩, b4, b5, b6, b7⟩⟩, -, -⟩ := HXX.out _ Hw4.out
  generalize fitsT t.t k l = F at *
  go_wp2_with fail
  refine HFt4.out.mono ?_
  rintro e w5 ⟨rfl, hb⟩
  have Hw5 : Hid (Below Wb.heap.size Wb w5) := Hw4.out.trans (hb.mono Hw4.out.size)
  have Hw50 : Hid (Below W0.heap.size W0 w5) := (HXX.out _ Hw5.out).2.2.1
  clear hb HFt4 q0 q1 q2 q3 q4 a0 a1 a2 a3 a4 a5 a6 a7 b0 b1 b2 b3 b4 b5 b6 b7
  by_cases hF : F = 0
  rotate_left
  · have dF : (F == 0) = false := by simp [hF]
    have dF' : (F != 0) = true := by simp [hF]
    clear hF HXX HNt HNo HE HW HQ HFt HKp HLn HIn2 HKl
    go_wp2_with fail
    refine (HAw.out _ (HBw.out _ Hw50.out)).mono ?_
    rintro e wz ⟨rfl, hb⟩
    have HBz : Hid (Below w.heap.size w wz) := (HBw.out _ Hw50.out).trans (hb.mono (HBw.out _ Hw50.out).size)
    clear hb
    go_wp2
    go_ret
    exact ⟨rfl, HBz.out⟩
  subst hF
  have HZ : Hid (fitsT o.t o.t.n (keepL o.t.all l) = 0) := HIn2.out rfl
  have HKp5 : Hid (Calls Tryz.prog 29 #[.agg (evA a b c k (.slice au l.length cu)), o.va] w5 fun e w' => KpP a b c k (keepL o.t.all l) w5 e w') := HKp.out o w5 (HXX.out _ Hw5.out).2.2.2.1 (HXX.out _ Hw5.out).2.2.2.2 (HXX.out _ Hw5.out).2.1.2 HNo.out.1 HNo.out.2
  clear HIn2 HKp
  generalize keepL o.t.all l = K at *
  obtain ⟨⟨⟨⟨q0, q1, q2⟩, q3, q4⟩, -, ⟨⟨b0, b1, b2, b3⟩, b4, b5, b6, b7⟩⟩, -, -⟩ := HXX.out _ Hw5.out
  go_wp2_with fail
  refine HKp5.out.mono ?_
  rintro e w6 ⟨x6, y6, rfl, hr6, hN6, hb⟩
  have Hw6 : Hid (Below Wb.heap.size Wb w6) := Hw5.out.trans (hb.mono Hw5.out.size)
  obtain ⟨Wy, hWy⟩ : ∃ Wy, Wy = w6.alloc (.cells (evA a b c k (.slice x6 K.length y6)) 26) := ⟨_, rfl⟩
  have hb2 : Below w6.heap.size w6 Wy := by rw [hWy]; exact al_b _ _
  have hn2 : Wy.heap[w6.heap.size]? = some (.cells (evA a b c k (.slice x6 K.length y6)) 26 (0, 0)) := by rw [hWy]; exact new_at _ _
  obtain ⟨Wz, hWz⟩ : ∃ Wz, Wz = w6.alloc (.cells (evA a b c o.t.n (.slice x6 K.length y6)) 26) := ⟨_, rfl⟩
  have hbz : Below w6.heap.size w6 Wz := by rw [hWz]; exact al_b _ _
  have hnz : Wz.heap[w6.heap.size]? = some (.cells (evA a b c o.t.n (.slice x6 K.length y6)) 26 (0, 0)) := by rw [hWz]; exact new_at _ _
  have HWy : Hid (Below Wb.heap.size Wb Wy) := Hw6.out.trans (hb2.mono Hw6.out.size)
  have HWz : Hid (Below Wb.heap.size Wb Wz) := Hw6.out.trans (hbz.mono Hw6.out.size)
  have HYf : Hid ((∀ j, Wy.frozen? ⟨w6.heap.size, j, none⟩ = false) ∧ w6.heap.size < Wy.heap.size ∧ BxV w6.heap.size a b c k (.slice x6 K.length y6) Wy) := ⟨fun j => Lib.frozen_of_heap hn2 j, (Array.getElem?_eq_some_iff.1 hn2).1, BxV.of hn2⟩
  have HEz : Hid (BxV w6.heap.size a b c o.t.n (.slice x6 K.length y6) Wz ∧ w6.heap.size < Wz.heap.size ∧ IsRow Wz 4 (.slice x6 K.length y6) K.length (aCells K)) := ⟨BxV.of hnz, (Array.getElem?_eq_some_iff.1 hnz).1, hr6.below hbz⟩
  clear hb hb2 hn2 hbz hnz hr6 hN6 HKp5 q0 q1 q2 q3 q4 b0 b1 b2 b3 b4 b5 b6 b7
  have HEk : Hid (∀ W, Below Wz.heap.size Wz W → (BxV w6.heap.size a b c o.t.n (.slice x6 K.length y6) W ∧ IsRow W 4 (.slice x6 K.length y6) K.length (aCells K)) ∧ Below Wb.heap.size Wb W) := fun W h => by
    obtain ⟨⟨⟨p0, p1, p2⟩, p3, p4⟩, hlt, hr⟩ := HEz.out
    exact ⟨⟨⟨⟨(h.cell (p := ⟨_, 0, none⟩) hlt).trans p0, (h.cell (p := ⟨_, 1, none⟩) hlt).trans p1, (h.cell (p := ⟨_, 2, none⟩) hlt).trans p2⟩, (h.cell (p := ⟨_, 3, none⟩) hlt).trans p3, (h.cell (p := ⟨_, 4, none⟩) hlt).trans p4⟩, hr.below h⟩, HWz.out.trans (h.mono HWz.out.size)⟩
  obtain ⟨⟨⟨⟨q0, q1, q2⟩, q3, q4⟩, -, ⟨⟨b0, b1, b2, b3⟩, b4, b5, b6, b7⟩⟩, -, -⟩ := HXX.out _ HWy.out
  obtain ⟨fz, hlt, ⟨p0, p1, p2⟩, p3, p4⟩ := HYf.out
  rw [hWy] at b0 b1 b2 b3 b4 b5 b6 b7 fz hlt p0 p1 p2 p3 p4
  go_wp2_with fail
  rw [← hWz]
  clear hWy hWz q0 q1 q2 q3 q4 b0 b1 b2 b3 b4 b5 b6 b7 fz hlt p0 p1 p2 p3 p4 HYf
  refine (HAw.out _ (HBw.out _ (HXX.out _ HWz.out).2.2.1)).mono ?_
  rintro e w7 ⟨rfl, hb⟩
  have Hw7 : Hid (Below Wz.heap.size Wz w7) := hb
  clear hb
  have HFt7 : Hid (Calls Tryz.prog 39 #[ltV o, .agg (evA a b c o.t.n (.slice x6 K.length y6))] w7 fun e w' => e = .returned (.int .i64 0) ∧ Below w7.heap.size w7 w') := by
    have h7 := (HEk.out _ Hw7.out)
    have h8 := HXX.out _ h7.2
    have := HFt.out o o.t.n x6 y6 K w7 h8.2.2.2.1 h8.2.1.2 HNo.out.1 HNo.out.1.n h7.1.2 (by have := HKl.out.1; have := HLn.out.1; omega) HKl.out.2
    rw [HZ.out] at this
    exact this
  obtain ⟨⟨⟨⟨p0, p1, p2⟩, p3, p4⟩, -⟩, h7b⟩ := HEk.out _ Hw7.out
  obtain ⟨⟨-, -, ⟨⟨b0, b1, b2, b3⟩, b4, b5, b6, b7⟩⟩, -, -⟩ := HXX.out _ h7b
  clear h7b
  go_wp2_with fail
  refine HFt7.out.mono ?_
  rintro e w8 ⟨rfl, hb⟩
  have Hw8 : Hid (Below Wz.heap.size Wz w8) := Hw7.out.trans (hb.mono Hw7.out.size)
  clear hb p0 p1 p2 p3 p4 b0 b1 b2 b3 b4 b5 b6 b7 HFt7
  obtain ⟨⟨⟨⟨p0, p1, p2⟩, p3, p4⟩, -⟩, h8b⟩ := HEk.out _ Hw8.out
  obtain ⟨⟨⟨⟨q0, q1, q2⟩, q3, q4⟩, -, -⟩, -, h80, -, -⟩ := HXX.out _ h8b
  have HB8 : Hid (Below w.heap.size w w8) := HBw.out _ h80
  have dl : decide ((K.length : Int) ≤ (l.length : Int)) = true := decide_eq_true (by have := HKl.out.1; omega)
  have dl' : decide (K.length ≤ l.length) = true := decide_eq_true HKl.out.1
  clear h8b h80 HXX HEk HEz HWz HWy HFt HNo HNt HE HW HQ HLn HKl HZ HAw
  go_wp2
  go_ret
  exact ⟨rfl, HB8.out⟩
end Go.Proofs.YtacpllmlpmllbaaGreatDoor
/- EventOrder: its walk, where the example's call answers true. -/
namespace Go.Proofs.YtacpllmlpmllbaaGreatDoor
open Go.RowKit Go.ChangeMaps

/-- Three identities' blocks. -/
def Tri (g : Nat) (a b c a' b' c' x y z : Int) (w : World) : Prop := (w.cell? ⟨g, 0, none⟩ = some (.int .i64 a) ∧ w.cell? ⟨g, 1, none⟩ = some (.int .i64 b) ∧ w.cell? ⟨g, 2, none⟩ = some (.int .i64 c)) ∧ (w.cell? ⟨g + 1, 0, none⟩ = some (.int .i64 a') ∧ w.cell? ⟨g + 1, 1, none⟩ = some (.int .i64 b') ∧ w.cell? ⟨g + 1, 2, none⟩ = some (.int .i64 c')) ∧ w.cell? ⟨g + 2, 0, none⟩ = some (.int .i64 x) ∧ w.cell? ⟨g + 2, 1, none⟩ = some (.int .i64 y) ∧ w.cell? ⟨g + 2, 2, none⟩ = some (.int .i64 z)
theorem Tri.below {g : Nat} {a b c a' b' c' x y z : Int} {w w' : World} (h : Tri g a b c a' b' c' x y z w) (hb : Below w.heap.size w w') (hg : g + 2 < w.heap.size) : Tri g a b c a' b' c' x y z w' := by
  obtain ⟨⟨p0, p1, p2⟩, ⟨q0, q1, q2⟩, r0, r1, r2⟩ := h
  have e : ∀ (i j : Nat) (hi : i < w.heap.size), w'.cell? ⟨i, j, none⟩ = w.cell? ⟨i, j, none⟩ := fun i j hi => hb.cell (p := ⟨i, j, none⟩) hi
  exact ⟨⟨(e _ 0 (by omega)).trans p0, (e _ 1 (by omega)).trans p1, (e _ 2 (by omega)).trans p2⟩, ⟨(e _ 0 (by omega)).trans q0, (e _ 1 (by omega)).trans q1, (e _ 2 (by omega)).trans q2⟩, (e _ 0 (by omega)).trans r0, (e _ 1 (by omega)).trans r1, (e _ 2 (by omega)).trans r2⟩
set_option maxRecDepth 100000 in
set_option maxHeartbeats 8000000 in
theorem eventOrder_core (a b c a' b' c' x y z : Int) (w : World) (hT : UT w) (hAw : ∀ W, Below w.heap.size w W → Calls Tryz.prog 9 #[] W fun e w' => e = .returned (.bool true) ∧ Below W.heap.size W w') :
    Calls Tryz.prog 7 #[idV a b c, idV a' b' c', idV x y z] w fun e w' => e = .returned (.bool true) ∧ Below w.heap.size w w' := by
  obtain ⟨W0, hW0⟩ : ∃ W0, W0 = ((w.alloc (.cells #[.int .i64 a, .int .i64 b, .int .i64 c] 23)).alloc (.cells #[.int .i64 a', .int .i64 b', .int .i64 c'] 23)).alloc (.cells #[.int .i64 x, .int .i64 y, .int .i64 z] 23) := ⟨_, rfl⟩
  have hA : Below w.heap.size w W0 := by rw [hW0]; exact ((al_b w _).trans ((al_b _ _).mono (by simp))).trans ((al_b _ _).mono (by simp; omega))
  have hz : W0.heap.size = w.heap.size + 3 := by rw [hW0]; simp
  have hn0 : W0.heap[w.heap.size]? = some (.cells #[.int .i64 a, .int .i64 b, .int .i64 c] 23 (0, 0)) := by
    rw [hW0]
    show (((w.heap.push _).push _).push _)[w.heap.size]? = _
    rw [Array.getElem?_push, if_neg (by simp; omega), Array.getElem?_push, if_neg (by simp), Array.getElem?_push, if_pos rfl]
  have hn1 : W0.heap[w.heap.size + 1]? = some (.cells #[.int .i64 a', .int .i64 b', .int .i64 c'] 23 (0, 0)) := by
    rw [hW0]
    show (((w.heap.push _).push _).push _)[w.heap.size + 1]? = _
    rw [Array.getElem?_push, if_neg (by simp), Array.getElem?_push, if_pos (by simp)]
  have hn2 : W0.heap[w.heap.size + 2]? = some (.cells #[.int .i64 x, .int .i64 y, .int .i64 z] 23 (0, 0)) := by
    rw [hW0]
    show (((w.heap.push _).push _).push _)[w.heap.size + 2]? = _
    rw [Array.getElem?_push, if_pos (by simp)]
  have h0 : Tri w.heap.size a b c a' b' c' x y z W0 := by
    have e0 : ∀ j, W0.cell? ⟨w.heap.size, j, none⟩ = (#[.int .i64 a, .int .i64 b, .int .i64 c] : Array Value)[j]? := fun j => by rw [Lib.cell_of_heap hn0]
    have e1 : ∀ j, W0.cell? ⟨w.heap.size + 1, j, none⟩ = (#[.int .i64 a', .int .i64 b', .int .i64 c'] : Array Value)[j]? := fun j => by rw [Lib.cell_of_heap hn1]
    have e2 : ∀ j, W0.cell? ⟨w.heap.size + 2, j, none⟩ = (#[.int .i64 x, .int .i64 y, .int .i64 z] : Array Value)[j]? := fun j => by rw [Lib.cell_of_heap hn2]
    exact ⟨⟨e0 0, e0 1, e0 2⟩, ⟨e1 0, e1 1, e1 2⟩, e2 0, e2 1, e2 2⟩
  have HX : Hid (∀ W, Below W0.heap.size W0 W → Tri w.heap.size a b c a' b' c' x y z W) := fun W h => h0.below h (by omega)
  have HBw0 : Hid (∀ W, Below W0.heap.size W0 W → Below w.heap.size w W) := fun W h => hA.trans (h.mono hA.size)
  have HOr : Hid (∀ (a b c a' b' c' : Int) W, Calls Tryz.prog 40 #[idV a b c, idV a' b' c'] W fun e w' => e = .returned (.int .i64 (ordV a b c a' b' c')) ∧ Below W.heap.size W w') := fun a b c a' b' c' W => order_any a b c a' b' c' W
  have HT : Hid (∀ W, Below w.heap.size w W → UT W) := fun W h => Utf8Tabs_below hT h
  have HAw : Hid (∀ W, Below w.heap.size w W → Calls Tryz.prog 9 #[] W fun e w' => e = .returned (.bool true) ∧ Below W.heap.size W w') := hAw
  have Hz : Hid (W0.heap.size = w.heap.size + 3) := hz
  clear hA hn0 hn1 hn2 h0 hT hAw hz
  go_enter Tryz.func7, Tryz.ntmps7
  go_wp2_with fail
  rw [← hW0]
  clear hW0
  refine wp_region_quiet (C := fun w' => Below W0.heap.size W0 w') (by kernel_rfl) (by kernel_rfl) ((Below.refl _ _).drew) ?_
  dsimp only
  repeat (first
    | go_big_quiet_skip
    | (go_big_quiet_want
       apply Exists.intro
       refine ⟨fun W' hW' => ?_, ?_⟩
       · have hw : Below W0.heap.size W0 W' := hW'
         obtain ⟨⟨g0, g1, g2⟩, ⟨k0, k1, k2⟩, m0, m1, m2⟩ := HX.out W' hw
         go_simp
         first
           | done
           | rfl
           | (go_at_call 40; (with_reducible refine Calls.mono (HOr.out _ _ _ _ _ _ W') ?_); rintro e w'' ⟨rfl, hb⟩; exact ⟨rfl, hw.trans (hb.mono hw.size)⟩)
       go_big_quiet_on
       try simp only [Act.put, List.setIfInBounds_toArray, List.set_cons_zero, List.set_cons_succ]))
  refine wpQuiet_nil ?_
  intro w2 hqw2
  have Hw2 : Hid (Below W0.heap.size W0 w2) := hqw2
  clear hqw2
  obtain ⟨Wb, hWb⟩ : ∃ Wb, Wb = (w2.alloc (.cells (evA a b c ⟨#[116]⟩ (.slice none 0 0)) 26)).alloc (.cells (evA a' b' c' ⟨#[84]⟩ (.slice none 0 0)) 26) := ⟨_, rfl⟩
  have HWa : Hid (Below W0.heap.size W0 (w2.alloc (.cells (evA a b c ⟨#[116]⟩ (.slice none 0 0)) 26))) := Hw2.out.trans ((al_b w2 _).mono Hw2.out.size)
  have hb1 : Below w2.heap.size w2 Wb := by rw [hWb]; exact (al_b w2 _).trans ((al_b _ _).mono (by simp))
  have hsb : Wb.heap.size = w2.heap.size + 2 := by rw [hWb]; simp
  have ha3 : Wb.heap[w2.heap.size]? = some (.cells (evA a b c ⟨#[116]⟩ (.slice none 0 0)) 26 (0, 0)) := by
    rw [hWb]
    show ((w2.heap.push _).push _)[w2.heap.size]? = _
    rw [Array.getElem?_push, if_neg (by simp), Array.getElem?_push, if_pos rfl]
  have hb2 : Wb.heap[w2.heap.size + 1]? = some (.cells (evA a' b' c' ⟨#[84]⟩ (.slice none 0 0)) 26 (0, 0)) := by
    rw [hWb]
    show ((w2.heap.push _).push _)[w2.heap.size + 1]? = _
    rw [Array.getElem?_push, if_pos (by simp)]
  have HWb : Hid (Below W0.heap.size W0 Wb) := Hw2.out.trans (hb1.mono Hw2.out.size)
  have HI : Hid (∀ W, Below Wb.heap.size Wb W → (W.cell? ⟨w.heap.size, 0, none⟩ = some (.int .i64 a) ∧ W.cell? ⟨w.heap.size, 1, none⟩ = some (.int .i64 b) ∧ W.cell? ⟨w.heap.size, 2, none⟩ = some (.int .i64 c)) ∧ (W.cell? ⟨w.heap.size + 1, 0, none⟩ = some (.int .i64 a') ∧ W.cell? ⟨w.heap.size + 1, 1, none⟩ = some (.int .i64 b') ∧ W.cell? ⟨w.heap.size + 1, 2, none⟩ = some (.int .i64 c')) ∧ BxV w2.heap.size a b c ⟨#[116]⟩ (.slice none 0 0) W ∧ BxV (w2.heap.size + 1) a' b' c' ⟨#[84]⟩ (.slice none 0 0) W) := fun W h => by
    have h1 := HX.out W (HWb.out.trans (h.mono HWb.out.size))
    exact ⟨h1.1, h1.2.1, BxV.of ((h.block _ (by omega)).trans ha3), BxV.of ((h.block _ (by omega)).trans hb2)⟩
  have HBw : Hid (∀ W, Below Wb.heap.size Wb W → Below w.heap.size w W) := fun W h => HBw0.out W (HWb.out.trans (h.mono HWb.out.size))
  have HSn : Hid (∀ W, Calls Tryz.prog 13 #[.agg (evA a b c ⟨#[116]⟩ (.slice none 0 0)), .agg (evA a' b' c' ⟨#[84]⟩ (.slice none 0 0))] W fun e w' => e = .returned (.bool false) ∧ Below W.heap.size W w') := fun W => evSame_no a b c a' b' c' W
  have HSy : Hid (∀ W, Calls Tryz.prog 13 #[.agg (evA a b c ⟨#[116]⟩ (.slice none 0 0)), .agg (evA a b c ⟨#[116]⟩ (.slice none 0 0))] W fun e w' => e = .returned (.bool true) ∧ Below W.heap.size W w') := fun W => evSame_self a b c ⟨#[116]⟩ W
  have HAl : Hid (∀ W, Below Wb.heap.size Wb W → Calls Tryz.prog 15 #[.agg (evA a b c ⟨#[116]⟩ (.slice none 0 0)), .agg (evA a' b' c' ⟨#[84]⟩ (.slice none 0 0))] W fun e w' => e = .returned (.bool true) ∧ Below W.heap.size W w') := fun W h => evAlike_yes a b c a' b' c' W (HT.out W (HBw.out W h))
  obtain ⟨⟨g0, g1, g2⟩, ⟨k0, k1, k2⟩, -⟩ := HX.out w2 Hw2.out
  obtain ⟨-, ⟨j0, j1, j2⟩, -⟩ := HX.out _ HWa.out
  obtain ⟨-, -, ⟨⟨p0, p1, p2⟩, p3, p4⟩, ⟨⟨r0, r1, r2⟩, r3, r4⟩⟩ := HI.out Wb (Below.refl _ _)
  rw [hWb] at p0 p1 p2 p3 p4 r0 r1 r2 r3 r4
  clear ha3 hb1 hb2 hsb
  go_wp2_with fail
  rw [← hWb]
  clear hWb g0 g1 g2 k0 k1 k2 j0 j1 j2
  refine (HSn.out _).mono ?_
  rintro e w5 ⟨rfl, hb⟩
  have Hw5 : Hid (Below Wb.heap.size Wb w5) := hb
  clear hb p0 p1 p2 p3 p4 r0 r1 r2 r3 r4
  obtain ⟨-, -, ⟨⟨p0, p1, p2⟩, p3, p4⟩, ⟨⟨r0, r1, r2⟩, r3, r4⟩⟩ := HI.out w5 Hw5.out
  go_wp2_with fail
  refine (HAl.out _ Hw5.out).mono ?_
  rintro e w6 ⟨rfl, hb⟩
  have Hw6 : Hid (Below Wb.heap.size Wb w6) := Hw5.out.trans (hb.mono Hw5.out.size)
  clear hb p0 p1 p2 p3 p4 r0 r1 r2 r3 r4
  obtain ⟨-, -, ⟨⟨p0, p1, p2⟩, p3, p4⟩, ⟨⟨r0, r1, r2⟩, r3, r4⟩⟩ := HI.out w6 Hw6.out
  go_wp2_with fail
  refine (HSy.out _).mono ?_
  rintro e w7 ⟨rfl, hb⟩
  have Hw7 : Hid (Below Wb.heap.size Wb w7) := Hw6.out.trans (hb.mono Hw6.out.size)
  clear hb p0 p1 p2 p3 p4 r0 r1 r2 r3 r4 HSn HSy HAl
  go_wp2_with fail
  refine (HAw.out _ (HBw.out _ Hw7.out)).mono ?_
  rintro e w8 ⟨rfl, hb⟩
  have Hw8 : Hid (Below Wb.heap.size Wb w8) := Hw7.out.trans (hb.mono Hw7.out.size)
  clear hb HAw HX HBw0 HWa HWb Hw2 Hw5 Hw6 Hw7 HT Hz
  obtain ⟨⟨p0, p1, p2⟩, ⟨r0, r1, r2⟩, -, -⟩ := HI.out w8 Hw8.out
  have Hba : Hid (ordV a b c a' b' c' = - ordV a' b' c' a b c) := ordV_anti _ _ _ _ _ _
  have Htr : Hid (0 ≤ ordV a b c a' b' c' ∨ 0 ≤ ordV a' b' c' x y z ∨ ordV a b c x y z < 0) := ordV_trans _ _ _ _ _ _ _ _ _
  have Hsm : Hid (ordV a b c a' b' c' = 0 → ordV a' b' c' x y z = ordV a b c x y z) := ordV_same _ _ _ _ _ _ _ _ _
  have Hze : Hid (ordV a b c a' b' c' = 0 ↔ a = a' ∧ b = b' ∧ c = c') := ordV_zero _ _ _ _ _ _
  have Hc1 : Hid (ordV a b c a' b' c' = -1 ∨ ordV a b c a' b' c' = 0 ∨ ordV a b c a' b' c' = 1) := by
    rcases ordV_cases a b c a' b' c' with ⟨-, e⟩ | ⟨-, e⟩ | ⟨-, e⟩
    · exact .inl e
    · exact .inr (.inl e)
    · exact .inr (.inr e)
  have Hge : Hid (ordV a' b' c' a b c = - ordV a b c a' b' c') := by have := Hba.out; show _ = _; omega
  have HBa : Hid (∀ W, Calls Tryz.prog 40 #[idV a' b' c', idV a b c] W fun e w' => e = .returned (.int .i64 (ordV a' b' c' a b c)) ∧ Below W.heap.size W w') := fun W => HOr.out a' b' c' a b c W
  clear HOr Hba
  generalize ordV a b c a' b' c' = AB at *
  generalize ordV a' b' c' x y z = BC at *
  generalize ordV a b c x y z = AC at *
  generalize ordV a' b' c' a b c = BA at *
  rcases Hc1.out with e | e | e
  all_goals clear Hc1
  · subst e
    have eb : BA = 1 := by have := Hge.out; omega
    subst eb
    have hne : ¬ (a = a' ∧ b = b' ∧ c = c') := fun h => absurd (Hze.out.2 h) (by decide)
    clear Hze Hge Hsm
    by_cases ha : a = a'
    · subst ha
      by_cases hb : b = b'
      · subst hb
        have hc : c ≠ c' := fun h => hne ⟨rfl, rfl, h⟩
        clear hne
        by_cases hbc : 0 ≤ BC
        · clear Htr
          go_wp2_with fail
          refine (HBa.out _).mono ?_
          rintro e w9 ⟨rfl, hb⟩
          have Hw9 : Hid (Below Wb.heap.size Wb w9) := Hw8.out.trans (hb.mono Hw8.out.size)
          clear hb
          obtain ⟨⟨p0, p1, p2⟩, ⟨r0, r1, r2⟩, -, -⟩ := HI.out w9 Hw9.out
          have HBz : Hid (Below w.heap.size w w9) := HBw.out _ Hw9.out
          go_wp2
          go_ret
          exact ⟨by first | rfl | simp | (simp; omega), HBz.out⟩
        · have hac : AC < 0 := by rcases Htr.out with h | h | h <;> omega
          clear Htr
          go_wp2_with fail
          refine (HBa.out _).mono ?_
          rintro e w9 ⟨rfl, hb⟩
          have Hw9 : Hid (Below Wb.heap.size Wb w9) := Hw8.out.trans (hb.mono Hw8.out.size)
          clear hb
          obtain ⟨⟨p0, p1, p2⟩, ⟨r0, r1, r2⟩, -, -⟩ := HI.out w9 Hw9.out
          have HBz : Hid (Below w.heap.size w w9) := HBw.out _ Hw9.out
          go_wp2
          go_ret
          exact ⟨by first | rfl | simp | (simp; omega), HBz.out⟩
      · clear hne
        by_cases hbc : 0 ≤ BC
        · clear Htr
          go_wp2_with fail
          refine (HBa.out _).mono ?_
          rintro e w9 ⟨rfl, hb⟩
          have Hw9 : Hid (Below Wb.heap.size Wb w9) := Hw8.out.trans (hb.mono Hw8.out.size)
          clear hb
          obtain ⟨⟨p0, p1, p2⟩, ⟨r0, r1, r2⟩, -, -⟩ := HI.out w9 Hw9.out
          have HBz : Hid (Below w.heap.size w w9) := HBw.out _ Hw9.out
          go_wp2
          go_ret
          exact ⟨by first | rfl | simp | (simp; omega), HBz.out⟩
        · have hac : AC < 0 := by rcases Htr.out with h | h | h <;> omega
          clear Htr
          go_wp2_with fail
          refine (HBa.out _).mono ?_
          rintro e w9 ⟨rfl, hb⟩
          have Hw9 : Hid (Below Wb.heap.size Wb w9) := Hw8.out.trans (hb.mono Hw8.out.size)
          clear hb
          obtain ⟨⟨p0, p1, p2⟩, ⟨r0, r1, r2⟩, -, -⟩ := HI.out w9 Hw9.out
          have HBz : Hid (Below w.heap.size w w9) := HBw.out _ Hw9.out
          go_wp2
          go_ret
          exact ⟨by first | rfl | simp | (simp; omega), HBz.out⟩
    · clear hne
      by_cases hbc : 0 ≤ BC
      · clear Htr
        go_wp2_with fail
        refine (HBa.out _).mono ?_
        rintro e w9 ⟨rfl, hb⟩
        have Hw9 : Hid (Below Wb.heap.size Wb w9) := Hw8.out.trans (hb.mono Hw8.out.size)
        clear hb
        obtain ⟨⟨p0, p1, p2⟩, ⟨r0, r1, r2⟩, -, -⟩ := HI.out w9 Hw9.out
        have HBz : Hid (Below w.heap.size w w9) := HBw.out _ Hw9.out
        go_wp2
        go_ret
        exact ⟨by first | rfl | simp | (simp; omega), HBz.out⟩
      · have hac : AC < 0 := by rcases Htr.out with h | h | h <;> omega
        clear Htr
        go_wp2_with fail
        refine (HBa.out _).mono ?_
        rintro e w9 ⟨rfl, hb⟩
        have Hw9 : Hid (Below Wb.heap.size Wb w9) := Hw8.out.trans (hb.mono Hw8.out.size)
        clear hb
        obtain ⟨⟨p0, p1, p2⟩, ⟨r0, r1, r2⟩, -, -⟩ := HI.out w9 Hw9.out
        have HBz : Hid (Below w.heap.size w w9) := HBw.out _ Hw9.out
        go_wp2
        go_ret
        exact ⟨by first | rfl | simp | (simp; omega), HBz.out⟩
  · subst e
    have eb : BA = 0 := by have := Hge.out; omega
    subst eb
    obtain ⟨ea, eb, ec⟩ := Hze.out.1 rfl
    subst ea eb ec
    have es : BC = AC := Hsm.out rfl
    subst es
    clear Hze Hge Hsm Htr
    go_wp2_with fail
    refine (HBa.out _).mono ?_
    rintro e w9 ⟨rfl, hb⟩
    have Hw9 : Hid (Below Wb.heap.size Wb w9) := Hw8.out.trans (hb.mono Hw8.out.size)
    clear hb
    obtain ⟨⟨p0, p1, p2⟩, ⟨r0, r1, r2⟩, -, -⟩ := HI.out w9 Hw9.out
    have HBz : Hid (Below w.heap.size w w9) := HBw.out _ Hw9.out
    go_wp2
    go_ret
    exact ⟨by first | rfl | simp | (simp; omega), HBz.out⟩
  · subst e
    have eb : BA = -1 := by have := Hge.out; omega
    subst eb
    have hne : ¬ (a = a' ∧ b = b' ∧ c = c') := fun h => absurd (Hze.out.2 h) (by decide)
    clear Hze Hge Hsm
    by_cases ha : a = a'
    · subst ha
      by_cases hb : b = b'
      · subst hb
        have hc : c ≠ c' := fun h => hne ⟨rfl, rfl, h⟩
        clear hne
        clear Htr
        go_wp2_with fail
        refine (HBa.out _).mono ?_
        rintro e w9 ⟨rfl, hb⟩
        have Hw9 : Hid (Below Wb.heap.size Wb w9) := Hw8.out.trans (hb.mono Hw8.out.size)
        clear hb
        obtain ⟨⟨p0, p1, p2⟩, ⟨r0, r1, r2⟩, -, -⟩ := HI.out w9 Hw9.out
        have HBz : Hid (Below w.heap.size w w9) := HBw.out _ Hw9.out
        go_wp2
        go_ret
        exact ⟨by first | rfl | simp | (simp; omega), HBz.out⟩
      · clear hne
        clear Htr
        go_wp2_with fail
        refine (HBa.out _).mono ?_
        rintro e w9 ⟨rfl, hb⟩
        have Hw9 : Hid (Below Wb.heap.size Wb w9) := Hw8.out.trans (hb.mono Hw8.out.size)
        clear hb
        obtain ⟨⟨p0, p1, p2⟩, ⟨r0, r1, r2⟩, -, -⟩ := HI.out w9 Hw9.out
        have HBz : Hid (Below w.heap.size w w9) := HBw.out _ Hw9.out
        go_wp2
        go_ret
        exact ⟨by first | rfl | simp | (simp; omega), HBz.out⟩
    · clear hne
      clear Htr
      go_wp2_with fail
      refine (HBa.out _).mono ?_
      rintro e w9 ⟨rfl, hb⟩
      have Hw9 : Hid (Below Wb.heap.size Wb w9) := Hw8.out.trans (hb.mono Hw8.out.size)
      clear hb
      obtain ⟨⟨p0, p1, p2⟩, ⟨r0, r1, r2⟩, -, -⟩ := HI.out w9 Hw9.out
      have HBz : Hid (Below w.heap.size w w9) := HBw.out _ Hw9.out
      go_wp2
      go_ret
      exact ⟨by first | rfl | simp | (simp; omega), HBz.out⟩
end Go.Proofs.YtacpllmlpmllbaaGreatDoor
/- EventInherits, EventOrder: their walks. -/
namespace Go.Proofs.YtacpllmlpmllbaaGreatDoor
open Go.RowKit

theorem eventInherits_walk (v : Value) (L : List LT) (a b c : Int) (k : ByteArray) (u : Value) (l : List At) (s : ByteArray) (w : World) (hL : IsTys w v L) (hl : L.length ≤ 140737488355328) (hi : ∀ x ∈ L, InT x.t) (hq : IsRow w 4 u l.length (aCells l)) (hal : l.length ≤ 140737488355328) (hW : W6 w) :
    Calls Tryz.prog 6 #[v, .agg (evA a b c k u), .string s] w fun e w' => e = .returned (.bool true) ∧ Below w.heap.size w w' :=
  eventInherits_core v L a b c k u l s w hL hl hi hq hal hW.w3 (fun W h => awake6_any W (hW.below h))
theorem eventOrder_walk (a b c a' b' c' x y z : Int) (w : World) (hW : W6 w) :
    Calls Tryz.prog 7 #[idV a b c, idV a' b' c', idV x y z] w fun e w' => e = .returned (.bool true) ∧ Below w.heap.size w w' :=
  eventOrder_core a b c a' b' c' x y z w hW.t (fun W h => awake6_any W (hW.below h))
end Go.Proofs.YtacpllmlpmllbaaGreatDoor
