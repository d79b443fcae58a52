/- FilterChecks: the law's walk. -/
import Derived.Test.YtbekpemidpngaaaGreatDoorZk32
import Derived.Test.YtbekpemidpngaaaGreatDoorZk33
import Derived.Test.YtbekpemidpngaaaGreatDoorZk25
namespace Go.Proofs.YtbekpemidpngaaaGreatDoor
open Go.RowKit Go.ChangeMaps

theorem fewF_nm {l : List Fd} (h : fewF l = true) : l.length ≤ 41 ∧ ∀ x ∈ l, x.n.size ≤ 200 := by
  have h1 := of_decide_eq_true h
  refine ⟨?_, fun x hx => ?_⟩
  · by_cases hl : l.length ≤ 41
    · exact hl
    · have := (h1 41 (by omega)).1
      omega
  · obtain ⟨i, hi, rfl⟩ := List.mem_iff_getElem.1 hx
    exact (h1 i hi).2
set_option maxRecDepth 100000 in
set_option maxHeartbeats 8000000 in
theorem filterChecks_walk (u1 : Value) (F : List PR) (u2 : Value) (G : List PR) (u3 : Value) (l : List Fd) (w : World) (hf : IsFl w u1 F) (hfl : F.length ≤ 140737488355328) (hfL : ∀ x ∈ F, x.y.l.length ≤ 140737488355328) (hg : IsFl w u2 G) (hgl : G.length ≤ 140737488355328) (hgL : ∀ x ∈ G, x.y.l.length ≤ 140737488355328) (ha : IsRow w 3 u3 l.length (fCells l)) (hal : l.length ≤ 140737488355328) (hW : W8 w) :
    Calls Tryz.prog 3 #[u1, u2, u3] w fun e w' => e = .returned (.bool true) ∧ Below w.heap.size w w' := by
  obtain ⟨a1, k1, rfl⟩ := hf.1.form
  obtain ⟨a2, k2, rfl⟩ := hg.1.form
  obtain ⟨a3, k3, rfl⟩ := ha.form
  obtain ⟨D, hD⟩ : ∃ D, F.map (·.y) = D := ⟨_, rfl⟩
  obtain ⟨E, hE⟩ : ∃ E, G.map (·.y) = E := ⟨_, rfl⟩
  have hDl : D.length = F.length := by rw [← hD, List.length_map]
  have hEl : E.length = G.length := by rw [← hE, List.length_map]
  have HFew1 : Hid (∀ W, Below w.heap.size w W → Calls Tryz.prog 7 #[.slice a1 F.length k1] W fun e w' => e = .returned (.bool (few8 D)) ∧ w' = W) := fun W hb => by rw [← hD]; exact few8_any _ F W (hf.below hb) hfl hfL
  have HFew2 : Hid (∀ W, Below w.heap.size w W → Calls Tryz.prog 7 #[.slice a2 G.length k2] W fun e w' => e = .returned (.bool (few8 E)) ∧ w' = W) := fun W hb => by rw [← hE]; exact few8_any _ G W (hg.below hb) hgl hgL
  have HFew3 : Hid (∀ W, Below w.heap.size w W → Calls Tryz.prog 8 #[.slice a3 l.length k3] W fun e w' => e = .returned (.bool (fewF l)) ∧ w' = W) := fun W hb => fewF_any _ l W (ha.below hb) hal
  have HAw : Hid (∀ W, Below w.heap.size w W → Calls Tryz.prog 9 #[] W fun e w' => e = .returned (.bool true) ∧ Below w.heap.size w w') := fun W hb => (awake8_any W (hW.below hb)).mono (by rintro e w' ⟨rfl, h⟩; exact ⟨rfl, hb.trans (h.mono hb.size)⟩)
  have HF : Hid (∀ W, Below w.heap.size w W → IsFl W (.slice a1 F.length k1) F) := fun W hb => hf.below hb
  have HG : Hid (∀ W, Below w.heap.size w W → IsFl W (.slice a2 G.length k2) G) := fun W hb => hg.below hb
  have HA : Hid (∀ W, Below w.heap.size w W → IsRow W 3 (.slice a3 l.length k3) l.length (fCells l)) := fun W hb => ha.below hb
  have HW : Hid (∀ W, Below w.heap.size w W → W8 W) := fun W hb => hW.below hb
  obtain ⟨X1, hX1⟩ : ∃ X, Hid (few8 D = X) := ⟨_, rfl⟩
  obtain ⟨X2, hX2⟩ : ∃ X, Hid (few8 E = X) := ⟨_, rfl⟩
  obtain ⟨X3, hX3⟩ : ∃ X, Hid (fewF l = X) := ⟨_, rfl⟩
  rw [hX1.out] at HFew1
  rw [hX2.out] at HFew2
  rw [hX3.out] at HFew3
  have HDl : Hid (D.length = F.length) := hDl
  have HEl : Hid (E.length = G.length) := hEl
  have HD : Hid (F.map (·.y) = D) := hD
  have HE : Hid (G.map (·.y) = E) := hE
  clear hf hg ha hW hDl hEl hD hE hfL hgL
  go_enter Tryz.func3, Tryz.ntmps3
  go_wp2_with fail
  refine (HFew1.out _ (Below.refl _ _)).mono ?_
  rintro e w ⟨rfl, rfl⟩
  clear HFew1
  cases X1 with
  | false =>
    go_wp2_with fail
    refine (HAw.out _ (Below.refl _ _)).mono ?_
    rintro e w9 ⟨rfl, hb⟩
    have HB9 : Hid (Below w.heap.size w w9) := hb
    clear hb
    go_wp2
    go_ret
    exact ⟨rfl, HB9.out⟩
  | true =>
  go_wp2_with fail
  refine (HFew2.out _ (Below.refl _ _)).mono ?_
  rintro e w ⟨rfl, rfl⟩
  clear HFew2
  cases X2 with
  | false =>
    go_wp2_with fail
    refine (HAw.out _ (Below.refl _ _)).mono ?_
    rintro e w9 ⟨rfl, hb⟩
    have HB9 : Hid (Below w.heap.size w w9) := hb
    clear hb
    go_wp2
    go_ret
    exact ⟨rfl, HB9.out⟩
  | true =>
  go_wp2_with fail
  refine (HFew3.out _ (Below.refl _ _)).mono ?_
  rintro e w ⟨rfl, rfl⟩
  clear HFew3
  cases X3 with
  | false =>
    go_wp2_with fail
    refine (HAw.out _ (Below.refl _ _)).mono ?_
    rintro e w9 ⟨rfl, hb⟩
    have HB9 : Hid (Below w.heap.size w w9) := hb
    clear hb
    go_wp2
    go_ret
    exact ⟨rfl, HB9.out⟩
  | true =>
  have hd1 := few8_nm hX1.out
  have hd2 := few8_nm hX2.out
  have hd3 := fewF_nm hX3.out
  have hL1 : F.length ≤ 21 := by rw [← HDl.out]; exact hd1.1
  have hL2 : G.length ≤ 21 := by rw [← HEl.out]; exact hd2.1
  have hL3 : l.length ≤ 41 := hd3.1
  have nD : ∀ y ∈ D, NmP y := hd1.2
  have nE : ∀ y ∈ E, NmP y := hd2.2
  have nF : NmF l := fun x hx => Nat.le_trans (hd3.2 x hx) (by decide)
  have nR : NmR l := fun x hx => Nat.le_trans (hd3.2 x hx) (by decide)
  have lD : ∀ y ∈ D, y.l.length ≤ 1000000 := fun y hy => (nD y hy).2.1
  have lE : ∀ y ∈ E, y.l.length ≤ 1000000 := fun y hy => (nE y hy).2.1
  have HCk : Hid (∀ W, Below w.heap.size w W → Calls Tryz.prog 10 #[.slice a1 F.length k1] W fun e w' => e = .returned (.bool (chkFl D)) ∧ Below W.heap.size W w') := fun W hb => checkP_any _ F D W (HF.out W hb) HD.out (by omega) nD (HW.out W hb).f.u
  have HRf : Hid (∀ W, Below w.heap.size w W → Calls Tryz.prog 12 #[.slice a1 F.length k1] W fun e w' => R8P D W e w') := fun W hb => refs8_any _ F D W (HF.out W hb) HD.out (by omega) lD
  have HRg : Hid (∀ W, Below w.heap.size w W → Calls Tryz.prog 12 #[.slice a2 G.length k2] W fun e w' => R8P E W e w') := fun W hb => refs8_any _ G E W (HG.out W hb) HE.out (by omega) lE
  have HRl : Hid (∀ W, Below w.heap.size w W → Calls Tryz.prog 15 #[.slice a3 l.length k3] W fun e w' => RfPost l W e w') := fun W hb => refs_any _ l W (HA.out W hb) (by omega)
  have hlen : ∀ H : List PR, H.map (·.y) = D → H.length = F.length := fun H h => by rw [← HDl.out, ← h, List.length_map]
  have hlen2 : ∀ H : List PR, H.map (·.y) = E → H.length = G.length := fun H h => by rw [← HEl.out, ← h, List.length_map]
  have HC8 : Hid (∀ W v H, IsFl W v H → H.map (·.y) = D → Calls Tryz.prog 11 #[v] W fun e w' => e = .returned (.bool (chkFl D)) ∧ Below W.heap.size W w') := fun W v H h1 h2 => check8_any v H D W h1 h2 (by have := hlen H h2; omega) nD
  have HFt : Hid (∀ W, Below w.heap.size w W → Calls Tryz.prog 13 #[.slice a3 l.length k3, .slice a1 F.length k1] W fun e w' => e = .returned (.int .i64 (fitsX l D)) ∧ Below W.heap.size W w') := fun W hb => fitsP_any _ l _ F D W (HA.out W hb) (by omega) (HF.out W hb) HD.out (by omega) nD nF (HW.out W hb).f.u (HW.out W hb).m
  have HF8 : Hid (∀ W u v H, IsRow W 3 u l.length (fCells l) → IsFl W v H → H.map (·.y) = D → Calls Tryz.prog 14 #[u, v] W fun e w' => e = .returned (.int .i64 (fitsX l D)) ∧ Below W.heap.size W w') := fun W u v H h0 h1 h2 => fits8_any u l v H D W h0 (by omega) h1 h2 (by have := hlen H h2; omega) nD nR
  have HSm : Hid (∀ W, Below w.heap.size w W → Calls Tryz.prog 16 #[.slice a1 F.length k1, .slice a2 G.length k2] W fun e w' => e = .returned (.bool (samD D E)) ∧ Below W.heap.size W w') := fun W hb => sameX_any _ _ F G D E W (HF.out W hb) (HG.out W hb) HD.out HE.out (by omega) (by omega) lD lE
  have HS8 : Hid (∀ W u v H K, IsFl W u H → H.map (·.y) = D → IsFl W v K → K.map (·.y) = E → Calls Tryz.prog 17 #[u, v] W fun e w' => e = .returned (.bool (samD D E)) ∧ Below W.heap.size W w') := fun W u v H K h1 h2 h3 h4 => refSame8_any u v H K D E W h1 h3 h2 h4 (by have := hlen H h2; omega) (by have := hlen2 K h4; omega) lD lE
  generalize chkFl D = P at *
  generalize fitsX l D = Z at *
  generalize samD D E = S at *
  clear hd1 hd2 hd3 hX1 hX2 hX3 hfl hgl hal nD nE nF nR lD lE hlen hlen2 HF HG HA HW HD HE HDl HEl hL1 hL2 hL3
  go_wp2_with fail
  refine (HAw.out _ (Below.refl _ _)).mono ?_
  rintro e w1 ⟨rfl, hb⟩
  have B1 : Hid (Below w.heap.size w w1) := hb
  clear hb HAw
  go_wp2_with fail
  refine (HCk.out _ B1.out).mono ?_
  rintro e w2 ⟨rfl, hb⟩
  have D2 : Hid (Below w1.heap.size w1 w2) := hb
  have B2 : Hid (Below w.heap.size w w2) := bT B1.out hb
  clear hb HCk
  go_wp2_with fail
  refine (HRf.out _ B2.out).mono ?_
  rintro e w3 ⟨x3, y3, H3, rfl, hi, hm, hb⟩
  have D3 : Hid (Below w2.heap.size w2 w3) := hb
  have B3 : Hid (Below w.heap.size w w3) := bT B2.out hb
  have hi3 : Hid (IsFl w3 (.slice x3 H3.length y3) H3) := hi
  have hm3 : Hid (H3.map (·.y) = D) := hm
  clear hb hi hm
  go_wp2_with fail
  refine (HC8.out _ _ _ hi3.out hm3.out).mono ?_
  rintro e w4 ⟨rfl, hb⟩
  have D4 : Hid (Below w3.heap.size w3 w4) := hb
  have B4 : Hid (Below w.heap.size w w4) := bT B3.out hb
  clear hb HC8 hi3 hm3
  cases P <;> (
    go_wp2_with fail
    refine (HFt.out _ B4.out).mono ?_
    rintro e w5 ⟨rfl, hb⟩
    have D5 : Hid (Below w4.heap.size w4 w5) := hb
    have B5 : Hid (Below w.heap.size w w5) := bT B4.out hb
    clear hb 
    go_wp2_with fail
    refine (HRl.out _ B5.out).mono ?_
    rintro e w6 ⟨v6, rfl, hq, hb⟩
    have D6 : Hid (Below w5.heap.size w5 w6) := hb
    have B6 : Hid (Below w.heap.size w w6) := bT B5.out hb
    obtain ⟨x6, y6, rfl⟩ := hq.form
    have hr6 : Hid (∀ W, Below w6.heap.size w6 W → IsRow W 3 (.slice x6 l.length y6) l.length (fCells l)) := fun W h => hq.below h
    clear hb hq
    go_wp2_with fail
    refine (HRf.out _ B6.out).mono ?_
    rintro e w7 ⟨x7, y7, H7, rfl, hi, hm, hb⟩
    have D7 : Hid (Below w6.heap.size w6 w7) := hb
    have B7 : Hid (Below w.heap.size w w7) := bT B6.out hb
    have hi7 : Hid (IsFl w7 (.slice x7 H7.length y7) H7) := hi
    have hm7 : Hid (H7.map (·.y) = D) := hm
    clear hb hi hm
    go_wp2_with fail
    refine (HF8.out _ _ _ _ (hr6.out _ D7.out) hi7.out hm7.out).mono ?_
    rintro e w8 ⟨rfl, hb⟩
    have D8 : Hid (Below w7.heap.size w7 w8) := hb
    have B8 : Hid (Below w.heap.size w w8) := bT B7.out hb
    clear hb hr6 hi7 hm7
    go_wp2_with fail
    refine (HSm.out _ B8.out).mono ?_
    rintro e w9 ⟨rfl, hb⟩
    have D9 : Hid (Below w8.heap.size w8 w9) := hb
    have B9 : Hid (Below w.heap.size w w9) := bT B8.out hb
    clear hb 
    go_wp2_with fail
    refine (HRf.out _ B9.out).mono ?_
    rintro e w10 ⟨x10, y10, H10, rfl, hi, hm, hb⟩
    have D10 : Hid (Below w9.heap.size w9 w10) := hb
    have B10 : Hid (Below w.heap.size w w10) := bT B9.out hb
    have hi10 : Hid (∀ W, Below w10.heap.size w10 W → IsFl W (.slice x10 H10.length y10) H10) := fun W h => hi.below h
    have hm10 : Hid (H10.map (·.y) = D) := hm
    clear hb hi hm
    go_wp2_with fail
    refine (HRg.out _ B10.out).mono ?_
    rintro e w11 ⟨x11, y11, H11, rfl, hi, hm, hb⟩
    have D11 : Hid (Below w10.heap.size w10 w11) := hb
    have B11 : Hid (Below w.heap.size w w11) := bT B10.out hb
    have hi11 : Hid (IsFl w11 (.slice x11 H11.length y11) H11) := hi
    have hm11 : Hid (H11.map (·.y) = E) := hm
    clear hb hi hm
    go_wp2_with fail
    refine (HS8.out _ _ _ _ _ (hi10.out _ D11.out) hm10.out hi11.out hm11.out).mono ?_
    rintro e w12 ⟨rfl, hb⟩
    have D12 : Hid (Below w11.heap.size w11 w12) := hb
    have B12 : Hid (Below w.heap.size w w12) := bT B11.out hb
    clear hb hi10 hm10 hi11 hm11
    cases S <;> (
      go_wp2
      go_ret
      exact ⟨by first | rfl | simp, B12.out⟩))
end Go.Proofs.YtbekpemidpngaaaGreatDoor
