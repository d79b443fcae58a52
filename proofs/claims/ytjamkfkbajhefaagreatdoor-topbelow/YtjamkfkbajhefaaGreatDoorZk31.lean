/- law08's Few: a walk. -/
import Derived.Test.YtjamkfkbajhefaaGreatDoorZk19
namespace Go.Proofs.YtjamkfkbajhefaaGreatDoor.F
open Go.RowKit

/-- Is a predicate not more than statements go through? -/
def okP (y : Pd) : Bool := decide (y.n.size ≤ 200) && (decide (y.l.length ≤ 30) && y.l.all fun x => decide (x.s.size ≤ 500))
/-- Is a filter not more than statements go through? -/
def few8 (D : List Pd) : Bool := decide (D.length ≤ 21) && D.all okP
theorem few8_len {F : List PR} (h : 21 < F.length) : few8 (F.map (·.y)) = false := by
  unfold few8
  rw [List.length_map, decide_eq_false (by omega), Bool.false_and]
theorem few8_no {F : List PR} {i : Nat} (hi : i < F.length) (h : okP F[i].y = false) : few8 (F.map (·.y)) = false := by
  unfold few8
  rw [Bool.and_eq_false_iff]
  right
  rw [List.all_eq_false]
  exact ⟨F[i].y, List.mem_map.2 ⟨F[i], List.getElem_mem hi, rfl⟩, by rw [h]; decide⟩
theorem few8_yes {F : List PR} (h21 : F.length ≤ 21) (h : ∀ i (hi : i < F.length), okP F[i].y = true) : few8 (F.map (·.y)) = true := by
  unfold few8
  rw [List.length_map, decide_eq_true h21, Bool.true_and, List.all_eq_true]
  intro y hy
  obtain ⟨x, hx, rfl⟩ := List.mem_map.1 hy
  obtain ⟨i, hi, rfl⟩ := List.mem_iff_getElem.1 hx
  exact h i hi
set_option maxRecDepth 100000 in
set_option maxHeartbeats 4000000 in
theorem few8_any (v : Value) (F : List PR) (w : World) (hr : IsFl w v F) (hl : F.length ≤ 140737488355328) (hL : ∀ x ∈ F, x.y.l.length ≤ 140737488355328) :
    Calls Tryz.prog 6 #[v] w fun e w' => e = .returned (.bool (few8 (F.map (·.y)))) ∧ w' = w := by
  obtain ⟨a0, c0, rfl⟩ := hr.1.form
  have HR : Hid (IsRow w 3 (.slice a0 F.length c0) F.length (pCells F)) := hr.1
  have HE : Hid (∀ i (hi : i < F.length), IsRow w 3 F[i].v F[i].y.l.length (itCells F[i].y.l) ∧ F[i].y.l.length ≤ 140737488355328) := fun i hi => ⟨hr.2 _ (List.getElem_mem hi), hL _ (List.getElem_mem hi)⟩
  have HLen : Hid (21 < F.length → few8 (F.map (·.y)) = false) := few8_len
  have HNo : Hid (∀ i (hi : i < F.length), okP F[i].y = false → few8 (F.map (·.y)) = false) := fun i hi h => few8_no hi h
  have HYes : Hid (F.length ≤ 21 → (∀ i (hi : i < F.length), okP F[i].y = true) → few8 (F.map (·.y)) = true) := few8_yes
  generalize few8 (F.map (·.y)) = Z at *
  clear hr hL
  go_enter Tryz.func6, Tryz.ntmps6
  go_wp2_with fail
  go_loopw [3, 4] (fun i _ wr => wr = w ∧ ∃ j : Nat, j ≤ F.length ∧ j ≤ 21 ∧ i = .int .i64 (j : Int) ∧ Hid (∀ k (h : k < F.length), k < j → okP F[k].y = true)) (fun i _ _ => F.length - (intOf i).toNat)
  case atStart => exact ⟨rfl, 0, by omega, by omega, rfl, fun k h hj => absurd hj (Nat.not_lt_zero _)⟩
  case round =>
    obtain ⟨rfl, j, hj, hj21, rfl, HO⟩ := hrel
    by_cases hlk : j < F.length
    · have dj : decide ((j : Int) < (F.length : Int)) = true := by simp; omega
      by_cases h20 : 20 < j
      · have d20 : decide ((20 : Int) < (j : Int)) = true := by simp; omega
        have HZ : Hid (Z = false) := HLen.out (by omega)
        clear HO HE HR HLen HNo HYes
        go_wp2
        go_ret
        exact ⟨by rw [HZ.out]; rfl, rfl⟩
      have d20 : decide ((20 : Int) < (j : Int)) = false := by simp; omega
      obtain ⟨b0, o0, rfl, hlt, c0', c1, c2⟩ := p_at HR.out j hlk
      obtain ⟨he, hel⟩ := HE.out j hlk
      have q1 : (0 : Int) ≤ (j : Int) := by omega
      have q2 : (j : Int) < (F.length : Int) := by omega
      have HNj : Hid (okP F[j].y = false → Z = false) := fun h => HNo.out j hlk h
      have HOn : Hid (okP F[j].y = true → ∀ k (h : k < F.length), k < j + 1 → okP F[k].y = true) := fun hs k h hk => by
        by_cases e : k = j
        · subst e; exact hs
        · exact HO.out k h (by omega)
      clear HO HE HNo
      generalize F[j]'hlk = x at *
      obtain ⟨⟨n, o, l⟩, a, c⟩ := x
      dsimp only [PR.v] at *
      have hok : okP ⟨n, o, l⟩ = (decide (n.size ≤ 200) && (decide (l.length ≤ 30) && l.all fun x => decide (x.s.size ≤ 500))) := rfl
      by_cases hn : 200 < n.size
      · have dn : decide ((200 : Int) < (n.size : Int)) = true := by simp; omega
        have HZ : Hid (Z = false) := HNj.out (by rw [hok, decide_eq_false (by omega), Bool.false_and])
        clear HNj HOn hok HLen HYes he
        go_wp2
        go_ret
        exact ⟨by rw [HZ.out]; rfl, rfl⟩
      have dn : decide ((200 : Int) < (n.size : Int)) = false := by simp; omega
      by_cases h30 : 30 < l.length
      · have d30 : decide ((30 : Int) < (l.length : Int)) = true := by simp; omega
        have HZ : Hid (Z = false) := HNj.out (by rw [hok, decide_eq_false (show ¬ l.length ≤ 30 by omega), Bool.false_and, Bool.and_false])
        clear HNj HOn hok HLen HYes he
        go_wp2
        go_ret
        exact ⟨by rw [HZ.out]; rfl, rfl⟩
      have d30 : decide ((30 : Int) < (l.length : Int)) = false := by simp; omega
      have HAl : Hid ((∀ k (h : k < l.length), l[k].s.size ≤ 500) → ∀ k (h : k < F.length), k < j + 1 → okP F[k].y = true) := fun hh => HOn.out (by
        rw [hok, decide_eq_true (by omega), decide_eq_true (by omega), Bool.true_and, Bool.true_and, List.all_eq_true]
        intro x hx
        obtain ⟨i, hi, rfl⟩ := List.mem_iff_getElem.1 hx
        exact decide_eq_true (hh i hi))
      have HBad : Hid (∀ k (h : k < l.length), 500 < l[k].s.size → Z = false) := fun k h hh => HNj.out (by
        rw [hok, Bool.and_eq_false_iff]
        right
        rw [Bool.and_eq_false_iff]
        right
        rw [List.all_eq_false]
        exact ⟨l[k], List.getElem_mem h, by rw [decide_eq_false (by omega)]; decide⟩)
      have HIt : Hid (IsRow wr 3 (.slice a l.length c) l.length (itCells l)) := he
      have HC : Hid (wr.cell? ⟨b0, o0 + j * 3 + 2, none⟩ = some (.slice a l.length c)) := c2
      clear HNj HOn hok he
      go_wp2_with fail
      obtain ⟨w0, hw0⟩ : ∃ w0, w0 = wr := ⟨_, rfl⟩
      rw [← hw0] at HC HIt HR
      clear c0' c1 c2 hlt
      rw [← hw0]
      have HW0 : Hid (w0 = wr) := hw0
      clear hw0
      go_loopw [4] (fun i wq => wq = w0 ∧ ∃ m : Nat, m ≤ l.length ∧ i = .int .i64 (m : Int) ∧ Hid (∀ k (h : k < l.length), k < m → l[k].s.size ≤ 500)) (fun i _ => l.length - (intOf i).toNat)
      case atStart => exact ⟨rfl, 0, by omega, rfl, fun k h hj => absurd hj (Nat.not_lt_zero _)⟩
      case round =>
        obtain ⟨rfl, m, hm, rfl, HM⟩ := hrel
        have c2 := HC.out
        by_cases hlm : m < l.length
        · have dm : decide ((m : Int) < (l.length : Int)) = true := by simp; omega
          obtain ⟨b1, o1, rfl, hlt1, e0, e1, e2⟩ := items_at HIt.out m hlm
          have r1 : (0 : Int) ≤ (m : Int) := by omega
          have r2 : (m : Int) < (l.length : Int) := by omega
          have HMn : Hid (l[m].s.size ≤ 500 → ∀ k (h : k < l.length), k < m + 1 → l[k].s.size ≤ 500) := fun hs k h hk => by
            by_cases e : k = m
            · subst e; exact hs
            · exact HM.out k h (by omega)
          have HBm : Hid (500 < l[m].s.size → Z = false) := HBad.out m hlm
          clear HM HBad HAl
          generalize l[m]'hlm = y at *
          obtain ⟨yk, yn, ys⟩ := y
          dsimp only at *
          by_cases h5 : 500 < ys.size
          · have d5 : decide ((500 : Int) < (ys.size : Int)) = true := by simp; omega
            have HZ : Hid (Z = false) := HBm.out h5
            clear HMn HBm HLen HYes
            go_wp2
            go_ret
            exact ⟨by rw [HZ.out]; rfl, HW0.out⟩
          · have d5 : decide ((500 : Int) < (ys.size : Int)) = false := by simp; omega
            have HM2 : Hid (∀ k (h : k < l.length), k < m + 1 → l[k].s.size ≤ 500) := HMn.out (by omega)
            clear HMn HBm
            go_wp2
            go_roundw
            case rel => exact ⟨by trivial, m + 1, by omega, by simp, HM2.out⟩
            case measure => simp [intOf]; omega
        · have dm : decide ((m : Int) < (l.length : Int)) = false := by simp; omega
          have HO2 : Hid (∀ k (h : k < F.length), k < j + 1 → okP F[k].y = true) := HAl.out fun k h => HM.out k h (by omega)
          clear HM HAl HBad
          go_wp2
          go_roundw
          case rel => exact ⟨HW0.out, j + 1, by omega, by omega, by simp, HO2.out⟩
          case measure => simp [intOf]; omega
    · have dj : decide ((j : Int) < (F.length : Int)) = false := by simp; omega
      have HZ : Hid (Z = true) := HYes.out (by omega) fun i hi => HO.out i hi (by omega)
      clear HO HE HNo HYes HR HLen
      go_wp2
      go_ret
      exact ⟨by rw [HZ.out]; rfl, rfl⟩
end Go.Proofs.YtjamkfkbajhefaaGreatDoor.F
