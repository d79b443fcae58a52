/- law08's Few: a walk. -/
import Derived.Test.YtbekpemidpngaaaGreatDoorZk16
import Derived.Test.YtbekpemidpngaaaGreatDoorZk25
import Derived.Test.YtbekpemidpngaaaGreatDoorZk26
import Derived.Lib.AppendZeros
import Derived.Maps.AppendAt
import Derived.Test.YtbekpemidpngaaaGreatDoorZk33
import Derived.Test.YtbekpemidpngaaaGreatDoorZk32
namespace Go.Proofs.YtbekpemidpngaaaGreatDoor
open Go.RowKit

/-- Is a predicate not more than statements go through? -/
def okP (y : Pd) : Bool := decide (y.n.size ≤ 200) && (decide (y.l.length ≤ 30) && y.l.all fun x => decide (x.s.size ≤ 500))
/-- Is a filter not more than statements go through? -/
def few8 (D : List Pd) : Bool := decide (D.length ≤ 21) && D.all okP
theorem few8_len {F : List PR} (h : 21 < F.length) : few8 (F.map (·.y)) = false := by
  unfold few8
  rw [List.length_map, decide_eq_false (by omega), Bool.false_and]
theorem few8_no {F : List PR} {i : Nat} (hi : i < F.length) (h : okP F[i].y = false) : few8 (F.map (·.y)) = false := by
  unfold few8
  rw [Bool.and_eq_false_iff]
  right
  rw [List.all_eq_false]
  exact ⟨F[i].y, List.mem_map.2 ⟨F[i], List.getElem_mem hi, rfl⟩, by rw [h]; decide⟩
theorem few8_yes {F : List PR} (h21 : F.length ≤ 21) (h : ∀ i (hi : i < F.length), okP F[i].y = true) : few8 (F.map (·.y)) = true := by
  unfold few8
  rw [List.length_map, decide_eq_true h21, Bool.true_and, List.all_eq_true]
  intro y hy
  obtain ⟨x, hx, rfl⟩ := List.mem_map.1 hy
  obtain ⟨i, hi, rfl⟩ := List.mem_iff_getElem.1 hx
  exact h i hi
set_option maxRecDepth 100000 in
set_option maxHeartbeats 4000000 in
theorem few8_any (v : Value) (F : List PR) (w : World) (hr : IsFl w v F) (hl : F.length ≤ 140737488355328) (hL : ∀ x ∈ F, x.y.l.length ≤ 140737488355328) :
    Calls Tryz.prog 7 #[v] w fun e w' => e = .returned (.bool (few8 (F.map (·.y)))) ∧ w' = w := by
  obtain ⟨a0, c0, rfl⟩ := hr.1.form
  have HR : Hid (IsRow w 3 (.slice a0 F.length c0) F.length (pCells F)) := hr.1
  have HE : Hid (∀ i (hi : i < F.length), IsRow w 3 F[i].v F[i].y.l.length (itCells F[i].y.l) ∧ F[i].y.l.length ≤ 140737488355328) := fun i hi => ⟨hr.2 _ (List.getElem_mem hi), hL _ (List.getElem_mem hi)⟩
  have HLen : Hid (21 < F.length → few8 (F.map (·.y)) = false) := few8_len
  have HNo : Hid (∀ i (hi : i < F.length), okP F[i].y = false → few8 (F.map (·.y)) = false) := fun i hi h => few8_no hi h
  have HYes : Hid (F.length ≤ 21 → (∀ i (hi : i < F.length), okP F[i].y = true) → few8 (F.map (·.y)) = true) := few8_yes
  generalize few8 (F.map (·.y)) = Z at *
  clear hr hL
  go_enter Tryz.func7, Tryz.ntmps7
  go_wp2_with fail
  go_loopw [3, 4] (fun i _ wr => wr = w ∧ ∃ j : Nat, j ≤ F.length ∧ j ≤ 21 ∧ i = .int .i64 (j : Int) ∧ Hid (∀ k (h : k < F.length), k < j → okP F[k].y = true)) (fun i _ _ => F.length - (intOf i).toNat)
  case atStart => exact ⟨rfl, 0, by omega, by omega, rfl, fun k h hj => absurd hj (Nat.not_lt_zero _)⟩
  case round =>
    obtain ⟨rfl, j, hj, hj21, rfl, HO⟩ := hrel
    by_cases hlk : j < F.length
    · have dj : decide ((j : Int) < (F.length : Int)) = true := by simp; omega
      by_cases h20 : 20 < j
      · have d20 : decide ((20 : Int) < (j : Int)) = true := by simp; omega
        have HZ : Hid (Z = false) := HLen.out (by omega)
        clear HO HE HR HLen HNo HYes
        go_wp2
        go_ret
        exact ⟨by rw [HZ.out]; rfl, rfl⟩
      have d20 : decide ((20 : Int) < (j : Int)) = false := by simp; omega
      obtain ⟨b0, o0, rfl, hlt, c0', c1, c2⟩ := p_at HR.out j hlk
      obtain ⟨he, hel⟩ := HE.out j hlk
      have q1 : (0 : Int) ≤ (j : Int) := by omega
      have q2 : (j : Int) < (F.length : Int) := by omega
      have HNj : Hid (okP F[j].y = false → Z = false) := fun h => HNo.out j hlk h
      have HOn : Hid (okP F[j].y = true → ∀ k (h : k < F.length), k < j + 1 → okP F[k].y = true) := fun hs k h hk => by
        by_cases e : k = j
        · subst e; exact hs
        · exact HO.out k h (by omega)
      clear HO HE HNo
      generalize F[j]'hlk = x at *
      obtain ⟨⟨n, o, l⟩, a, c⟩ := x
      dsimp only [PR.v] at *
      have hok : okP ⟨n, o, l⟩ = (decide (n.size ≤ 200) && (decide (l.length ≤ 30) && l.all fun x => decide (x.s.size ≤ 500))) := rfl
      by_cases hn : 200 < n.size
      · have dn : decide ((200 : Int) < (n.size : Int)) = true := by simp; omega
        have HZ : Hid (Z = false) := HNj.out (by rw [hok, decide_eq_false (by omega), Bool.false_and])
        clear HNj HOn hok HLen HYes he
        go_wp2
        go_ret
        exact ⟨by rw [HZ.out]; rfl, rfl⟩
      have dn : decide ((200 : Int) < (n.size : Int)) = false := by simp; omega
      by_cases h30 : 30 < l.length
      · have d30 : decide ((30 : Int) < (l.length : Int)) = true := by simp; omega
        have HZ : Hid (Z = false) := HNj.out (by rw [hok, decide_eq_false (show ¬ l.length ≤ 30 by omega), Bool.false_and, Bool.and_false])
        clear HNj HOn hok HLen HYes he
        go_wp2
        go_ret
        exact ⟨by rw [HZ.out]; rfl, rfl⟩
      have d30 : decide ((30 : Int) < (l.length : Int)) = false := by simp; omega
      have HAl : Hid ((∀ k (h : k < l.length), l[k].s.size ≤ 500) → ∀ k (h : k < F.length), k < j + 1 → okP F[k].y = true) := fun hh => HOn.out (by
        rw [hok, decide_eq_true (by omega), decide_eq_true (by omega), Bool.true_and, Bool.true_and, List.all_eq_true]
        intro x hx
        obtain ⟨i, hi, rfl⟩ := List.mem_iff_getElem.1 hx
        exact decide_eq_true (hh i hi))
      have HBad : Hid (∀ k (h : k < l.length), 500 < l[k].s.size → Z = false) := fun k h hh => HNj.out (by
        rw [hok, Bool.and_eq_false_iff]
        right
        rw [Bool.and_eq_false_iff]
        right
        rw [List.all_eq_false]
        exact ⟨l[k], List.getElem_mem h, by rw [decide_eq_false (by omega)]; decide⟩)
      have HIt : Hid (IsRow wr 3 (.slice a l.length c) l.length (itCells l)) := he
      have HC : Hid (wr.cell? ⟨b0, o0 + j * 3 + 2, none⟩ = some (.slice a l.length c)) := c2
      clear HNj HOn hok he
      go_wp2_with fail
      obtain ⟨w0, hw0⟩ : ∃ w0, w0 = wr := ⟨_, rfl⟩
      rw [← hw0] at HC HIt HR
      clear c0' c1 c2 hlt
      rw [← hw0]
      have HW0 : Hid (w0 = wr) := hw0
      clear hw0
      go_loopw [4] (fun i wq => wq = w0 ∧ ∃ m : Nat, m ≤ l.length ∧ i = .int .i64 (m : Int) ∧ Hid (∀ k (h : k < l.length), k < m → l[k].s.size ≤ 500)) (fun i _ => l.length - (intOf i).toNat)
      case atStart => exact ⟨rfl, 0, by omega, rfl, fun k h hj => absurd hj (Nat.not_lt_zero _)⟩
      case round =>
        obtain ⟨rfl, m, hm, rfl, HM⟩ := hrel
        have c2 := HC.out
        by_cases hlm : m < l.length
        · have dm : decide ((m : Int) < (l.length : Int)) = true := by simp; omega
          obtain ⟨b1, o1, rfl, hlt1, e0, e1, e2⟩ := items_at HIt.out m hlm
          have r1 : (0 : Int) ≤ (m : Int) := by omega
          have r2 : (m : Int) < (l.length : Int) := by omega
          have HMn : Hid (l[m].s.size ≤ 500 → ∀ k (h : k < l.length), k < m + 1 → l[k].s.size ≤ 500) := fun hs k h hk => by
            by_cases e : k = m
            · subst e; exact hs
            · exact HM.out k h (by omega)
          have HBm : Hid (500 < l[m].s.size → Z = false) := HBad.out m hlm
          clear HM HBad HAl
          generalize l[m]'hlm = y at *
          obtain ⟨yk, yn, ys⟩ := y
          dsimp only at *
          by_cases h5 : 500 < ys.size
          · have d5 : decide ((500 : Int) < (ys.size : Int)) = true := by simp; omega
            have HZ : Hid (Z = false) := HBm.out h5
            clear HMn HBm HLen HYes
            go_wp2
            go_ret
            exact ⟨by rw [HZ.out]; rfl, HW0.out⟩
          · have d5 : decide ((500 : Int) < (ys.size : Int)) = false := by simp; omega
            have HM2 : Hid (∀ k (h : k < l.length), k < m + 1 → l[k].s.size ≤ 500) := HMn.out (by omega)
            clear HMn HBm
            go_wp2
            go_roundw
            case rel => exact ⟨by trivial, m + 1, by omega, by simp, HM2.out⟩
            case measure => simp [intOf]; omega
        · have dm : decide ((m : Int) < (l.length : Int)) = false := by simp; omega
          have HO2 : Hid (∀ k (h : k < F.length), k < j + 1 → okP F[k].y = true) := HAl.out fun k h => HM.out k h (by omega)
          clear HM HAl HBad
          go_wp2
          go_roundw
          case rel => exact ⟨HW0.out, j + 1, by omega, by omega, by simp, HO2.out⟩
          case measure => simp [intOf]; omega
    · have dj : decide ((j : Int) < (F.length : Int)) = false := by simp; omega
      have HZ : Hid (Z = true) := HYes.out (by omega) fun i hi => HO.out i hi (by omega)
      clear HO HE HNo HYes HR HLen
      go_wp2
      go_ret
      exact ⟨by rw [HZ.out]; rfl, rfl⟩
end Go.Proofs.YtbekpemidpngaaaGreatDoor
/- FilterBoth: a row of predicates behind another, the mathematics, the law's walk. -/
namespace Go.Proofs.YtbekpemidpngaaaGreatDoor
open Go.RowKit Go.ChangeMaps

theorem few8_nm {D : List Pd} (h : few8 D = true) : D.length ≤ 21 ∧ ∀ y ∈ D, NmP y := by
  unfold few8 at h
  rw [Bool.and_eq_true, decide_eq_true_eq, List.all_eq_true] at h
  refine ⟨h.1, fun y hy => ?_⟩
  have h1 := h.2 y hy
  unfold okP at h1
  rw [Bool.and_eq_true, Bool.and_eq_true, decide_eq_true_eq, decide_eq_true_eq, List.all_eq_true] at h1
  exact ⟨by omega, by omega, fun x hx => by have := of_decide_eq_true (h1.2.2 x hx); omega⟩
theorem fewA_nm {A : List At} (h : fewA A = true) : A.length ≤ 41 ∧ NmA A := by
  have h1 := of_decide_eq_true h
  refine ⟨?_, ?_⟩
  · by_cases hl : A.length ≤ 41
    · exact hl
    · have := (h1 41 (by omega)).1
      omega
  · intro x hx
    obtain ⟨i, hi, rfl⟩ := List.mem_iff_getElem.1 hx
    have := h1 i hi
    obtain ⟨q1, q2, q3⟩ := this
    exact ⟨by omega, by omega⟩
end Go.Proofs.YtbekpemidpngaaaGreatDoor
/- FilterLets: the law's walk. -/
namespace Go.Proofs.YtbekpemidpngaaaGreatDoor
open Go.RowKit Go.ChangeMaps

theorem fewA_ra {A : List At} (h : fewA A = true) : NmRA A := by
  have h1 := of_decide_eq_true h
  intro x hx
  obtain ⟨i, hi, rfl⟩ := List.mem_iff_getElem.1 hx
  have := h1 i hi
  obtain ⟨q1, q2, q3⟩ := this
  exact ⟨by omega, by omega⟩
theorem few_l {D : List Pd} (h : few8 D = true) : ∀ y ∈ D, y.l.length ≤ 1000000 := fun y hy => ((few8_nm h).2 y hy).2.1
set_option maxRecDepth 100000 in
set_option maxHeartbeats 4000000 in
theorem filterLets_walk (u1 : Value) (F : List PR) (u3 : Value) (A : List At) (w : World) (hf : IsFl w u1 F) (hfl : F.length ≤ 140737488355328) (hfL : ∀ x ∈ F, x.y.l.length ≤ 140737488355328) (ha : IsRow w 4 u3 A.length (aCells A)) (hal : A.length ≤ 140737488355328) (hW : W8 w) :
    Calls Tryz.prog 4 #[u1, u3] w fun e w' => e = .returned (.bool true) ∧ Below w.heap.size w w' := by
  obtain ⟨a1, k1, rfl⟩ := hf.1.form
  obtain ⟨a3, k3, rfl⟩ := ha.form
  obtain ⟨D, hD⟩ : ∃ D, F.map (·.y) = D := ⟨_, rfl⟩
  have hDl : D.length = F.length := by rw [← hD, List.length_map]
  have HFew1 : Hid (∀ W, Below w.heap.size w W → Calls Tryz.prog 7 #[.slice a1 F.length k1] W fun e w' => e = .returned (.bool (few8 D)) ∧ w' = W) := fun W hb => by rw [← hD]; exact few8_any _ F W (hf.below hb) hfl hfL
  have HFewA : Hid (∀ W, Below w.heap.size w W → Calls Tryz.prog 18 #[.slice a3 A.length k3] W fun e w' => e = .returned (.bool (fewA A)) ∧ w' = W) := fun W hb => fewA_any _ A W (ha.below hb) hal
  have HAw : Hid (∀ W, Below w.heap.size w W → Calls Tryz.prog 9 #[] W fun e w' => e = .returned (.bool true) ∧ Below w.heap.size w w') := fun W hb => (awake8_any W (hW.below hb)).mono (by rintro e w' ⟨rfl, h⟩; exact ⟨rfl, hb.trans (h.mono hb.size)⟩)
  have HF : Hid (∀ W, Below w.heap.size w W → IsFl W (.slice a1 F.length k1) F) := fun W hb => hf.below hb
  have HA : Hid (∀ W, Below w.heap.size w W → IsRow W 4 (.slice a3 A.length k3) A.length (aCells A)) := fun W hb => ha.below hb
  have HW : Hid (∀ W, Below w.heap.size w W → W8 W) := fun W hb => hW.below hb
  obtain ⟨X1, hX1⟩ : ∃ X, Hid (few8 D = X) := ⟨_, rfl⟩
  obtain ⟨X2, hX2⟩ : ∃ X, Hid (fewA A = X) := ⟨_, rfl⟩
  rw [hX1.out] at HFew1
  rw [hX2.out] at HFewA
  have HDl : Hid (D.length = F.length) := hDl
  have HD : Hid (F.map (·.y) = D) := hD
  clear hf ha hW hDl hD hfL
  go_enter Tryz.func4, Tryz.ntmps4
  go_wp2_with fail
  refine (HFew1.out _ (Below.refl _ _)).mono ?_
  rintro e w ⟨rfl, rfl⟩
  clear HFew1
  cases X1 with
  | false =>
    go_wp2_with fail
    refine (HAw.out _ (Below.refl _ _)).mono ?_
    rintro e w9 ⟨rfl, hb⟩
    have HB9 : Hid (Below w.heap.size w w9) := hb
    clear hb
    go_wp2
    go_ret
    exact ⟨rfl, HB9.out⟩
  | true =>
  go_wp2_with fail
  refine (HFewA.out _ (Below.refl _ _)).mono ?_
  rintro e w ⟨rfl, rfl⟩
  clear HFewA
  cases X2 with
  | false =>
    go_wp2_with fail
    refine (HAw.out _ (Below.refl _ _)).mono ?_
    rintro e w9 ⟨rfl, hb⟩
    have HB9 : Hid (Below w.heap.size w w9) := hb
    clear hb
    go_wp2
    go_ret
    exact ⟨rfl, HB9.out⟩
  | true =>
  have hd1 := few8_nm hX1.out
  have hd2 := fewA_nm hX2.out
  have HN1 : Hid (∀ y ∈ D, NmP y) := hd1.2
  have HN2 : Hid (NmA A) := hd2.2
  have HN3 : Hid (NmRA A) := fewA_ra hX2.out
  have HLl : Hid (∀ y ∈ D, y.l.length ≤ 1000000) := few_l hX1.out
  have hL1 : F.length ≤ 21 := by rw [← HDl.out]; exact hd1.1
  have hL2 : A.length ≤ 41 := hd2.1
  clear hd1 hd2 hX1 hX2 hfl hal
  have HRf : Hid (Calls Tryz.prog 12 #[.slice a1 F.length k1] w fun e w' => R8P D w e w') := refs8_any _ F D w (HF.out w (Below.refl _ _)) HD.out (by omega) HLl.out
  have HRa : Hid (∀ W, Below w.heap.size w W → Calls Tryz.prog 19 #[.slice a3 A.length k3] W fun e w' => RaPost A W e w') := fun W hb => attrsR_any _ A W (HA.out W hb) (by omega)
  go_wp2_with fail
  refine HRf.out.mono ?_
  rintro e w1 ⟨ra, rc, G, rfl, hG, hGD, hb⟩
  have B1 : Hid (Below w.heap.size w w1) := hb
  have HG : Hid (∀ W, Below w1.heap.size w1 W → IsFl W (.slice ra G.length rc) G) := fun W h => hG.below h
  have HGD : Hid (G.map (·.y) = D) := hGD
  have HGl : Hid (G.length = F.length) := by show _ = _; rw [← HDl.out, ← hGD, List.length_map]
  clear hb hG hGD HRf
  go_wp2_with fail
  refine (HRa.out _ B1.out).mono ?_
  rintro e w2 ⟨vb, rfl, hq, hb⟩
  obtain ⟨ba, bc, rfl⟩ := hq.form
  have B2 : Hid (Below w1.heap.size w1 w2) := hb
  have HBr : Hid (∀ W, Below w2.heap.size w2 W → IsRow W 4 (.slice ba A.length bc) A.length (aCells A)) := fun W h => hq.below h
  have Bw2 : Hid (Below w.heap.size w w2) := bT B1.out hb
  clear hb hq HRa
  have hGl := HGl.out
  have HH1 : Hid (∀ i (hi : i < F.length) W, Below w2.heap.size w2 W → Calls Tryz.prog 20 #[prV F[i], .slice a3 A.length k3] W fun e w' => e = .returned (.bool (mayP F[i].y && (chkA A && holdsB F[i].y A))) ∧ Below W.heap.size W w') := fun i hi W h => by
    have hb : Below w.heap.size w W := bT Bw2.out h
    have hmem : F[i].y ∈ D := by rw [← HD.out]; exact List.mem_map.2 ⟨F[i], List.getElem_mem hi, rfl⟩
    exact holdsX_any F[i] _ A W ((HF.out W hb).2 _ (List.getElem_mem hi)) (HN1.out _ hmem) (HA.out W hb) (by omega) HN2.out (HW.out W hb).f.u (HW.out W hb).m
  have HEq : Hid (∀ i (hi : i < F.length) (hj : i < G.length), G[i].y = F[i].y) := fun i hi hj => by
    have e : (G.map (·.y))[i]'(by rw [List.length_map]; exact hj) = (F.map (·.y))[i]'(by rw [List.length_map]; exact hi) := by
      simp only [HGD.out, HD.out]
    simpa using e
  have HH2 : Hid (∀ i (hi : i < F.length) (hj : i < G.length) W, Below w2.heap.size w2 W → Calls Tryz.prog 21 #[prV G[i], .slice ba A.length bc] W fun e w' => e = .returned (.bool (mayP F[i].y && (chkA A && holdsB F[i].y A))) ∧ Below W.heap.size W w') := fun i hi hj W h => by
    have h1 : Below w1.heap.size w1 W := bT B2.out h
    have hmem : G[i].y ∈ D := by rw [← HGD.out]; exact List.mem_map.2 ⟨G[i], List.getElem_mem hj, rfl⟩
    rw [← HEq.out i hi hj]
    exact holds8_any G[i] _ A W ((HG.out W h1).2 _ (List.getElem_mem hj)) (HN1.out _ hmem) (HBr.out W h) (by omega) HN3.out
  have HL1 : Hid (∀ W, Below w2.heap.size w2 W → Calls Tryz.prog 22 #[.slice a1 F.length k1, .slice a3 A.length k3] W fun e w' => e = .returned (.bool (letsB D A)) ∧ Below w2.heap.size w2 w') := fun W h => by
    have hb : Below w.heap.size w W := bT Bw2.out h
    have h0 := lets_any _ F D _ A W (HF.out W hb) HD.out (by omega) HN1.out (HA.out W hb) (by omega) HN2.out (HW.out W hb).f.u (HW.out W hb).m
    exact h0.mono (by rintro e w' ⟨rfl, hc⟩; exact ⟨rfl, bT h hc⟩)
  have HL2 : Hid (∀ W, Below w2.heap.size w2 W → Calls Tryz.prog 23 #[.slice ra G.length rc, .slice ba A.length bc] W fun e w' => e = .returned (.bool (letsB D A)) ∧ Below w2.heap.size w2 w') := fun W h => by
    have h1 : Below w1.heap.size w1 W := bT B2.out h
    have h0 := lets8_any _ G D _ A W (HG.out W h1) HGD.out (by omega) HN1.out (HBr.out W h) (by omega) HN3.out
    exact h0.mono (by rintro e w' ⟨rfl, hc⟩; exact ⟨rfl, bT h hc⟩)
  have HP1 : Hid (∀ i (hi : i < F.length), ∃ b off, a1 = some ⟨b, off, none⟩ ∧ ∀ W, Below w2.heap.size w2 W → W.cell? ⟨b, off + i * 3, none⟩ = some (.string F[i].y.n) ∧ W.cell? ⟨b, off + i * 3 + 1, none⟩ = some (.int .i64 F[i].y.o) ∧ W.cell? ⟨b, off + i * 3 + 2, none⟩ = some F[i].v) := fun i hi => by
    obtain ⟨b, off, h1, hlt, p0, p1, p2⟩ := p_at (HF.out w2 Bw2.out).1 i hi
    exact ⟨b, off, h1, fun W hb => ⟨(hb.cell (p := ⟨b, _, none⟩) hlt).trans p0, (hb.cell (p := ⟨b, _, none⟩) hlt).trans p1, (hb.cell (p := ⟨b, _, none⟩) hlt).trans p2⟩⟩
  have HP2 : Hid (∀ i (hi : i < G.length), ∃ b off, ra = some ⟨b, off, none⟩ ∧ ∀ W, Below w2.heap.size w2 W → W.cell? ⟨b, off + i * 3, none⟩ = some (.string G[i].y.n) ∧ W.cell? ⟨b, off + i * 3 + 1, none⟩ = some (.int .i64 G[i].y.o) ∧ W.cell? ⟨b, off + i * 3 + 2, none⟩ = some G[i].v) := fun i hi => by
    obtain ⟨b, off, h1, hlt, p0, p1, p2⟩ := p_at (HG.out w2 B2.out).1 i hi
    exact ⟨b, off, h1, fun W hb => ⟨(hb.cell (p := ⟨b, _, none⟩) hlt).trans p0, (hb.cell (p := ⟨b, _, none⟩) hlt).trans p1, (hb.cell (p := ⟨b, _, none⟩) hlt).trans p2⟩⟩
  have HAw9 : Hid (∀ W, Below w2.heap.size w2 W → Calls Tryz.prog 9 #[] W fun e w' => e = .returned (.bool true) ∧ Below w2.heap.size w2 w') := fun W h => (awake8_any W (HW.out W (bT Bw2.out h))).mono (by rintro e w' ⟨rfl, hc⟩; exact ⟨rfl, bT h hc⟩)
  generalize letsB D A = LB at *
  clear HF HA HW HD HDl HN1 HN2 HN3 HLl HG HGD HBr B1 B2 HEq
  rw [hGl] at *
  go_wp2_with fail
  go_loopw [7] (fun i wr => ∃ j : Nat, j ≤ F.length ∧ i = .int .i64 (j : Int) ∧ Hid (Below w2.heap.size w2 wr)) (fun i _ => F.length - (intOf i).toNat)
  case atStart => exact ⟨0, Nat.zero_le _, rfl, Below.refl _ _⟩
  case round =>
    obtain ⟨j, hj, rfl, HB⟩ := hrel
    by_cases hlk : j < F.length
    · have dj : decide ((j : Int) < (F.length : Int)) = true := by simp; omega
      have hlg : j < G.length := by have := HGl.out; omega
      have q1 : (0 : Int) ≤ (j : Int) := by omega
      have q2 : (j : Int) < (F.length : Int) := by omega
      have HC1 := HH1.out j hlk
      have HC2 := HH2.out j hlk hlg
      obtain ⟨b, off, rfl, hp⟩ := HP1.out j hlk
      obtain ⟨b', off', rfl, hp'⟩ := HP2.out j hlg
      clear HH1 HH2 HP1 HP2 HL1 HL2
      generalize (mayP F[j].y && (chkA A && holdsB F[j].y A)) = BB at *
      generalize F[j]'hlk = x at *
      generalize G[j]'hlg = y at *
      obtain ⟨⟨n, o, l⟩, a, c⟩ := x
      obtain ⟨⟨n', o', l'⟩, a', c'⟩ := y
      dsimp only [prV, PR.v] at *
      have HCa : Hid (∀ W, Below w2.heap.size w2 W → Calls Tryz.prog 20 #[.agg #[.string n, .int .i64 o, .slice a l.length c], .slice a3 A.length k3] W fun e w' => e = .returned (.bool BB) ∧ Below W.heap.size W w') := HC1
      have HCb : Hid (∀ W, Below w2.heap.size w2 W → Calls Tryz.prog 21 #[.agg #[.string n', .int .i64 o', .slice a' l'.length c'], .slice ba A.length bc] W fun e w' => e = .returned (.bool BB) ∧ Below W.heap.size W w') := HC2
      have HPa : Hid (∀ W, Below w2.heap.size w2 W → W.cell? ⟨b, off + j * 3, none⟩ = some (.string n) ∧ W.cell? ⟨b, off + j * 3 + 1, none⟩ = some (.int .i64 o) ∧ W.cell? ⟨b, off + j * 3 + 2, none⟩ = some (.slice a l.length c)) := hp
      have HPb : Hid (∀ W, Below w2.heap.size w2 W → W.cell? ⟨b', off' + j * 3, none⟩ = some (.string n') ∧ W.cell? ⟨b', off' + j * 3 + 1, none⟩ = some (.int .i64 o') ∧ W.cell? ⟨b', off' + j * 3 + 2, none⟩ = some (.slice a' l'.length c')) := hp'
      clear HC1 HC2 hp hp'
      cases BB <;> (
        go_wp2_with fail
        refine wp_region_quiet (C := fun w' => Below wr.heap.size wr w') (by kernel_rfl) (by kernel_rfl) ((Below.refl _ _).drew) ?_
        dsimp only
        repeat (first
          | go_big_quiet_skip
          | (go_big_quiet_want
             apply Exists.intro
             refine ⟨fun W' hW' => ?_, ?_⟩
             · have hw : Below wr.heap.size wr W' := hW'
               obtain ⟨g0, g1, g2⟩ := HPa.out W' (bT HB.out hw)
               obtain ⟨m0, m1, m2⟩ := HPb.out W' (bT HB.out hw)
               go_simp
               first
                 | done
                 | rfl
                 | (go_at_call 20; (with_reducible refine Calls.mono (HCa.out W' (bT HB.out hw)) ?_); rintro e w'' ⟨rfl, hb⟩; exact ⟨rfl, hw.trans (hb.mono hw.size)⟩)
                 | (go_at_call 21; (with_reducible refine Calls.mono (HCb.out W' (bT HB.out hw)) ?_); rintro e w'' ⟨rfl, hb⟩; exact ⟨rfl, hw.trans (hb.mono hw.size)⟩)
             go_big_quiet_on
             try simp only [Act.put, List.setIfInBounds_toArray, List.set_cons_zero, List.set_cons_succ]))
        refine wpQuiet_nil ?_
        intro w5 hq5
        have HB5 : Hid (Below w2.heap.size w2 w5) := bT HB.out hq5
        clear hq5
        go_wp2
        go_roundw
        case rel => exact ⟨j + 1, by omega, by simp, HB5.out⟩
        case measure => simp [intOf]; omega)
    · have hnl := hlk
      have dj : decide ((j : Int) < (F.length : Int)) = false := by simp; omega
      clear HH1 HH2 HP1 HP2
      have HAw3 : Hid (Calls Tryz.prog 9 #[] wr fun e w' => e = .returned (.bool true) ∧ Below w2.heap.size w2 w') := HAw9.out wr HB.out
      go_wp2_with fail
      refine HAw3.out.mono ?_
      rintro e w6 ⟨rfl, hb⟩
      have B6 : Hid (Below w2.heap.size w2 w6) := hb
      clear hb
      go_wp2_with fail
      refine (HL1.out _ B6.out).mono ?_
      rintro e w7 ⟨rfl, hb⟩
      have B7 : Hid (Below w2.heap.size w2 w7) := hb
      clear hb
      go_wp2_with fail
      refine (HL2.out _ B7.out).mono ?_
      rintro e w8 ⟨rfl, hb⟩
      have B8 : Hid (Below w.heap.size w w8) := bT Bw2.out hb
      clear hb
      cases LB <;> (
        go_wp2
        go_ret
        exact ⟨rfl, B8.out⟩)
end Go.Proofs.YtbekpemidpngaaaGreatDoor
