/- The law's same: plain, and its walk. -/
import Derived.Test.YthbhgblgacoklaaHZn
import Derived.Test.YthbhgblgacoklaaHHp
namespace Go.Proofs.Ythbhgblgacoklaa
open Go.RowKit

abbrev toI (x : Nat × Nat) : Int × Int := ((x.1 : Int), (x.2 : Int))
theorem h2_is : ∀ l : List (Nat × Nat), h2Cells l = h2V (l.map toI)
  | [] => rfl
  | x :: l => by
    have ih := h2_is l
    unfold h2Cells h2V at *
    rw [List.map_cons, List.flatMap_cons, List.flatMap_cons, ih]
    rfl
theorem plc_none {L : List Pk} {f t : Int} (hk : ∀ p ∈ L, chkP p = true) (hh : hopB f t = false) : ∀ k, k ≤ L.length → plc L f t k = []
  | 0, _ => rfl
  | k + 1, hkl => by
    have hkk : k < L.length := by omega
    rw [plc_no hkk, plc_none hk hh k (by omega)]
    rintro ⟨e1, e2⟩
    have := chk_hop (hk _ (List.getElem_mem hkk))
    rw [e1, e2, hh] at this
    cases this
/-- A hop has packets that can be taken, for the one and the other. -/
theorem Rel.hp {R : Nat → List Pk} {A : Nat → Bool} {L : List Pk} {B : List (Int × Int)} (h : Rel R A L B) {a b : Nat} (ha : a < 16) (hb : b < 16) (ha0 : 1 ≤ a) (hb0 : 1 ≤ b) : (0 < (R (a * 16 + b)).length ∧ A (a * 16 + b) = false) ↔ hpB L B a b = true := by
  cases hh : hopB (a : Int) (b : Int) with
  | true =>
    have e1 := (plc_bag hh h.ck L.length (Nat.le_refl _)).1
    rw [List.take_length, ← h.rw _ (rix_lt hh).1] at e1
    have e2 := h.ap _ _ hh
    rw [rix_nat] at e1 e2
    unfold hpB
    rw [e1, e2]
    simp
  | false =>
    have e1 := plc_none h.ck hh L.length (Nat.le_refl _)
    have e2 : hpB L B a b = false := by unfold hpB; rw [e1]; simp
    rw [e2]
    have e3 : R (a * 16 + b) = [] := by
      rcases Classical.em (R (a * 16 + b) = []) with e | e
      · exact e
      · have := h.wf (a * 16 + b) (by omega) e
        rw [show (a * 16 + b) / 16 = a by omega, show (a * 16 + b) % 16 = b by omega, hh] at this
        cases this
    rw [e3]; simp
theorem Rel.z {R : Nat → List Pk} {A : Nat → Bool} {L : List Pk} {B : List (Int × Int)} (h : Rel R A L B) {a b : Nat} (ha : a < 16) (hb : b < 16) (h0 : a = 0 ∨ b = 0) : R (a * 16 + b) = [] := by
  rcases Classical.em (R (a * 16 + b) = []) with e | e
  · exact e
  · have := h.wf (a * 16 + b) (by omega) e
    rw [show (a * 16 + b) / 16 = a by omega, show (a * 16 + b) % 16 = b by omega] at this
    simp only [hopB, nodeB, Bool.and_eq_true, decide_eq_true_eq] at this
    omega
theorem hopsN_no {R : Nat → List Pk} {A : Nat → Bool} {n : Nat} (h : ¬ (0 < (R n).length ∧ A n = false)) : hopsN R A (n + 1) = hopsN R A n := by
  show (if 0 < (R n).length ∧ A n = false then _ else _) = _
  rw [if_neg h]
theorem hopsN_yes {R : Nat → List Pk} {A : Nat → Bool} {n : Nat} (h : 0 < (R n).length ∧ A n = false) : hopsN R A (n + 1) = hopsN R A n ++ [(n / 16, n % 16)] := by
  show (if 0 < (R n).length ∧ A n = false then _ else _) = _
  rw [if_pos h]
theorem Rel.hrow {R : Nat → List Pk} {A : Nat → Bool} {L : List Pk} {B : List (Int × Int)} (h : Rel R A L B) {a : Nat} (ha : a < 16) : ∀ b, b ≤ 16 → (hopsN R A (a * 16 + b)).map toI = (hopsN R A (a * 16)).map toI ++ (if a = 0 then [] else hpRow L B a b)
  | 0, _ => by simp [hpRow]
  | b + 1, hb => by
    have ih := h.hrow ha b (by omega)
    rw [show a * 16 + (b + 1) = (a * 16 + b) + 1 by omega]
    by_cases h0 : a = 0 ∨ b = 0
    · have e := h.z ha (by omega) h0
      rw [hopsN_no (by rw [e]; simp), ih]
      rcases h0 with h0 | h0
      · rw [if_pos h0, if_pos h0]
      · subst h0; rfl
    · rw [if_neg (by omega)] at ih ⊢
      have e := h.hp ha (b := b) (by omega) (by omega) (by omega)
      by_cases hc : 0 < (R (a * 16 + b)).length ∧ A (a * 16 + b) = false
      · rw [hopsN_yes hc, List.map_append, ih, hpRow_yes (by omega) (e.1 hc), List.append_assoc, show (a * 16 + b) / 16 = a by omega, show (a * 16 + b) % 16 = b by omega]
        rfl
      · have e2 : hpB L B a b = false := by
          cases hq : hpB L B a b with
          | false => rfl
          | true => exact absurd (e.2 hq) hc
        rw [hopsN_no hc, ih, hpRow_no e2]
theorem Rel.hall {R : Nat → List Pk} {A : Nat → Bool} {L : List Pk} {B : List (Int × Int)} (h : Rel R A L B) : ∀ a, a ≤ 16 → (hopsN R A (a * 16)).map toI = hpAll L B a
  | 0, _ => rfl
  | a + 1, ha => by
    have ih := h.hall a (by omega)
    have e := h.hrow (a := a) (by omega) 16 (Nat.le_refl _)
    rw [show (a + 1) * 16 = a * 16 + 16 by omega, e, ih]
    rfl
theorem Rel.hops {R : Nat → List Pk} {A : Nat → Bool} {L : List Pk} {B : List (Int × Int)} (h : Rel R A L B) : (hopsN R A 256).length = (hpAll L B 16).length ∧ h2Cells (hopsN R A 256) = h2V (hpAll L B 16) := by
  have e := h.hall 16 (Nat.le_refl _)
  exact ⟨by rw [← e]; simp, by rw [← e, h2_is]⟩
abbrev SSm (b3 : Nat) (v u : Value) (w0 w : World) : Prop := w.cell? ⟨b3, 0, none⟩ = some v ∧ w.cell? ⟨b3, 1, none⟩ = some u ∧ b3 < w.heap.size ∧ Below w0.heap.size w0 w
theorem SSm_call {b3 : Nat} {v u : Value} {w0 W w' : World} (h : Below W.heap.size W w') (s : SSm b3 v u w0 W) : SSm b3 v u w0 w' := by
  obtain ⟨s1, s2, s3, s4⟩ := s
  exact ⟨(h.cell (p := ⟨b3, 0, none⟩) s3).trans s1, (h.cell (p := ⟨b3, 1, none⟩) s3).trans s2, Nat.lt_of_lt_of_le s3 h.size, s4.trans (h.mono s4.size)⟩
theorem SSm_drew {b3 : Nat} {v u : Value} {w0 W : World} (s : SSm b3 v u w0 W) : SSm b3 v u w0 W.drew := SSm_call (below_drw W) s
theorem SSm_b {b3 : Nat} {v u : Value} {w0 W : World} (s : SSm b3 v u w0 W) : Below w0.heap.size w0 W := s.2.2.2
set_option maxRecDepth 100000 in
set_option maxHeartbeats 4000000 in
theorem same12_any {base : Nat} {w : World} {g : Nat} {V : Nat → Value} {R : Nat → List Pk} {A : Nat → Bool} {v u : Value} {L : List Pk} {B : List (Int × Int)} (hv : NetV base w g V R A) (hr : IsRow w 7 v L.length (pCells L)) (hu : IsRow w 2 u B.length (h2V B)) (hrel : Rel R A L B) (hl : L.length ≤ 400) (hbl : B.length ≤ 1000) :
    Calls Try.prog 11 #[nP g, .agg #[v, u]] w fun e w' => e = .returned (.bool true) ∧ Below w.heap.size w w' := by
  obtain ⟨a0, cap0, rfl⟩ := hr.form
  obtain ⟨a1, cap1, rfl⟩ := hu.form
  have hcn : cntN R 256 ≤ 1000 := by rw [hrel.cnt]; omega
  obtain ⟨w0, hw0⟩ : ∃ w0, w0 = w.alloc (nB (.slice a0 L.length cap0) (.slice a1 B.length cap1)) := ⟨_, rfl⟩
  have hB0 : Below w.heap.size w w0 := by rw [hw0]; exact al_b w _
  have hS : SSm w.heap.size (.slice a0 L.length cap0) (.slice a1 B.length cap1) w0 w0 := by
    have : w0.heap[w.heap.size]? = some (nB (.slice a0 L.length cap0) (.slice a1 B.length cap1)) := by
      rw [hw0]
      show (w.heap.push _)[w.heap.size]? = _
      rw [Array.getElem?_push, if_pos rfl]
    obtain ⟨c0, c1, -, -⟩ := two_at this
    exact ⟨c0, c1, (Array.getElem?_eq_some_iff.1 this).1, Below.refl _ _⟩
  have HHn : Hid (∀ W, Below w0.heap.size w0 W → Calls Try.prog 26 #[nP g] W fun e w' => HoPost (hopsN R A 256) W e w') := fun W h => hops_any (hv.below (hB0.trans (h.mono hB0.size)))
  have HHr : Hid (∀ W, Below w0.heap.size w0 W → Calls Try.prog 33 #[.agg #[.slice a0 L.length cap0, .slice a1 B.length cap1]] W fun e w' => HrPost (hpAll L B 16) W e w') := fun W h => refHops_any _ _ L B W (hr.below (hB0.trans (h.mono hB0.size))) (by omega) (hu.below (hB0.trans (h.mono hB0.size))) (by omega)
  have HCn : Hid (∀ W, Below w0.heap.size w0 W → Calls Try.prog 23 #[nP g] W fun e w' => e = .returned (.int .i64 (L.length : Int)) ∧ Below W.heap.size W w') := fun W h => by
    have := count_any (hv.below (hB0.trans (h.mono hB0.size))) hcn
    rw [hrel.cnt] at this
    refine this.mono ?_
    rintro e w' ⟨rfl, rfl⟩
    exact ⟨rfl, Below.refl _ _⟩
  have HB0 : Hid (Below w.heap.size w w0) := hB0
  obtain ⟨hn1, hn2⟩ := hrel.hops
  have hlen : (hpAll L B 16).length ≤ 256 := hpAll_len L B 16
  have HHm : Hid (∀ W, Below w0.heap.size w0 W → Calls Try.prog 26 #[nP g] W fun e w' => HrPost (hpAll L B 16) W e w') := fun W h => by
    have := HHn.out W h
    refine this.mono ?_
    rintro e w' ⟨rv, rfl, q1, q2⟩
    rw [hn1, hn2] at q1
    exact ⟨rv, rfl, q1, q2⟩
  clear HHn hn1 hn2 hrel hv hr hu hB0 hcn
  generalize hpAll L B 16 = Q at *
  go_enter Try.func11, Try.ntmps11
  go_wp2_with fail
  rw [← hw0]
  clear hw0
  go_region_held3 (fun w' => SSm w.heap.size (.slice a0 L.length cap0) (.slice a1 B.length cap1) w0 w')
    (first | with_reducible assumption | with_reducible exact SSm_drew (by with_reducible assumption) | with_reducible exact SSm_call (by with_reducible assumption) (by with_reducible assumption) | with_reducible exact SSm_call (by with_reducible assumption) (SSm_drew (by with_reducible assumption)))
    (first
      | (go_at_call 26; refine (HHm.out _ (SSm_b (b3 := w.heap.size) (v := .slice a0 L.length cap0) (u := .slice a1 B.length cap1) (by first | with_reducible assumption | with_reducible exact SSm_drew (by with_reducible assumption)))).mono ?_; rintro e w1 ⟨v1, rfl, hr1, hb1⟩; obtain ⟨qa, qc, rfl⟩ := hr1.form)
      | (go_at_call 33; refine (HHr.out _ (SSm_b (b3 := w.heap.size) (v := .slice a0 L.length cap0) (u := .slice a1 B.length cap1) (by first | with_reducible assumption | with_reducible exact SSm_drew (by with_reducible assumption)))).mono ?_; rintro e w2 ⟨v2, rfl, hr2, hb2⟩; obtain ⟨ra, rc, rfl⟩ := hr2.form))
  rename_i hH9
  have HQ2 : Hid (IsRow w2 2 (.slice qa Q.length qc) Q.length (h2V Q)) := hr1.below hb2
  have HR2 : Hid (IsRow w2 2 (.slice ra Q.length rc) Q.length (h2V Q)) := hr2
  have hS2 : SSm w.heap.size (.slice a0 L.length cap0) (.slice a1 B.length cap1) w0 w2 := hH9
  clear hH9 hr1 hr2 hb1 hb2 hS HHm HHr
  have hne : ((Q.length : Int) != (Q.length : Int)) = false := by simp
  have hne2 : ((L.length : Int) != (L.length : Int)) = false := by simp
  have HQ3 : Hid (∀ W, Below w2.heap.size w2 W → IsRow W 2 (.slice qa Q.length qc) Q.length (h2V Q) ∧ IsRow W 2 (.slice ra Q.length rc) Q.length (h2V Q)) := fun W h => ⟨HQ2.out.below h, HR2.out.below h⟩
  clear HQ2 HR2
  go_wp2_with fail
  go_region_held3 (fun w' => SSm w.heap.size (.slice a0 L.length cap0) (.slice a1 B.length cap1) w0 w')
    (first | with_reducible assumption | with_reducible exact SSm_drew (by with_reducible assumption) | with_reducible exact SSm_call (by with_reducible assumption) (by with_reducible assumption) | with_reducible exact SSm_call (by with_reducible assumption) (SSm_drew (by with_reducible assumption)))
    ((go_at_call 23; refine (HCn.out _ (SSm_b (b3 := w.heap.size) (v := .slice a0 L.length cap0) (u := .slice a1 B.length cap1) (by first | with_reducible assumption | with_reducible exact SSm_drew (by with_reducible assumption)))).mono ?_; rintro e w3 ⟨rfl, hb3⟩))
  rename_i hH9
  have hb23 := (below_drw w2).trans (hb3.mono (below_drw w2).size)
  obtain ⟨hq3, hr3⟩ := HQ3.out w3 hb23
  have HQ4 : Hid (IsRow w3 2 (.slice qa Q.length qc) Q.length (h2V Q)) := hq3
  have HR4 : Hid (IsRow w3 2 (.slice ra Q.length rc) Q.length (h2V Q)) := hr3
  have HB3 : Hid (Below w.heap.size w w3) := HB0.out.trans ((SSm_b hH9).mono HB0.out.size)
  clear hH9 hb23 hq3 hr3 hb3 hS2 HQ3 HCn hne hne2 HB0
  go_wp2_with fail
  go_loopw [7] (fun a wr => ∃ s : Nat, s ≤ Q.length ∧ a = .int .i64 (s : Int) ∧ Below w3.heap.size w3 wr) (fun a _ => Q.length - (intOf a).toNat)
  case atStart => exact ⟨0, by omega, rfl, Below.refl _ _⟩
  case round =>
    obtain ⟨s, hs5, rfl, hB⟩ := hrel
    have HBr : Hid (∀ n, Below w3.heap.size w3 (wr.drewN n)) := fun n => ⟨hB.os, hB.tape, hB.output, hB.size, hB.block⟩
    by_cases hs : s < Q.length
    · have d4 : decide ((s : Int) < (Q.length : Int)) = true := by simp; omega
      have d5 : decide (s < Q.length) = true := by simp; omega
      obtain ⟨qb, qo, rfl, -, -, hqc⟩ := hp_at (HQ4.out.below hB) (by omega)
      obtain ⟨rb, ro, rfl, -, -, hrc⟩ := hp_at (HR4.out.below hB) (by omega)
      obtain ⟨c1, c2⟩ := hqc s hs
      obtain ⟨c3, c4⟩ := hrc s hs
      clear hqc hrc HQ4 HR4 hB HB3
      generalize Q[s] = P at *
      obtain ⟨P0, P1⟩ := P
      dsimp only at c1 c2 c3 c4
      have i1 : (0 : Int) ≤ (s : Int) := by omega
      have i2 : (s : Int) < (Q.length : Int) := by omega
      have wk : IntKind.i64.wrap ((s : Int) + 1) = (s : Int) + 1 := cast40 s (by omega)
      go_wp2_with fail
      go_quiet (fail)
      go_wp2
      go_roundw
      case rel => exact ⟨s + 1, by omega, by simp, HBr.out _⟩
      case measure => simp [intOf]; omega
    · obtain rfl : s = Q.length := by omega
      have d4 : decide ((Q.length : Int) < (Q.length : Int)) = false := by simp
      have HF : Hid (Below w.heap.size w wr) := HB3.out.trans (hB.mono HB3.out.size)
      clear hB HQ4 HR4 HB3
      go_wp2
      go_ret
      exact ⟨rfl, HF.out⟩
end Go.Proofs.Ythbhgblgacoklaa
