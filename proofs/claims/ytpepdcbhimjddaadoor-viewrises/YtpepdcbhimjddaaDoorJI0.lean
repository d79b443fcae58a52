/- The reference's Nodes, Same, Has: walks. -/
import Derived.Test.YtpepdcbhimjddaaDoorJB0
namespace Go.Proofs.YtpepdcbhimjddaaDoor
open Go.RowKit

set_option maxRecDepth 100000 in
set_option maxHeartbeats 2000000 in
theorem refNodes_any (v : Value) (l : List Int) (w : World) (hr : IsRow w 1 v l.length (iCells l)) (hl : l.length ≤ 1000000) :
    Calls Tryd.prog 34 #[v] w fun e w' => e = .returned (.bool (nodesB l)) ∧ Below w.heap.size w w' := by
  obtain ⟨a0, cap0, rfl⟩ := hr.form
  have HR : Hid (IsRow w 1 (.slice a0 l.length cap0) l.length (iCells l)) := hr
  clear hr
  go_enter Tryd.func34, Tryd.ntmps34
  go_wp2_with fail
  go_loopw [2, 3] (fun r i wr => r = .bool false ∧ ∃ k : Nat, k ≤ l.length ∧ i = .int .i64 (k : Int) ∧ Hid (∀ (j : Nat) (h : j < l.length), j < k → okAt l j h) ∧ Below w.heap.size w wr) (fun _ i _ => l.length - (intOf i).toNat)
  case atStart => exact ⟨rfl, 0, Nat.zero_le _, rfl, fun j h hj => absurd hj (Nat.not_lt_zero _), Below.refl _ _⟩
  case round =>
    obtain ⟨rfl, k, hk, rfl, HO, hB⟩ := hrel
    by_cases hlk : k < l.length
    · have dk : decide ((k : Int) < l.length) = true := by simp; omega
      obtain ⟨b, off, rfl, -, hlt, hcap, hc⟩ := iCells_at (HR.out.below hB) (by omega)
      have ck := hc k hlk
      by_cases hok : okAt l k hlk
      · have HO2 : Hid (∀ (j : Nat) (h : j < l.length), j < k + 1 → okAt l j h) := fun j h hj => by
          by_cases e : j = k
          · subst e; exact hok
          · exact HO.out j h (by omega)
        obtain ⟨o1, o2, o3⟩ := hok
        cases k with
        | zero =>
          simp only [Nat.add_zero] at ck
          generalize l[0]'hlk = x at *
          have d1 : decide (x < 1) = false := by simp; omega
          have d2 : decide (15 < x) = false := by simp; omega
          clear hc HO o3
          go_wp2_with fail
          go_region
          go_wp2
          go_roundw
          case rel => exact ⟨rfl, 0 + 1, by omega, by simp, HO2, hB.drew⟩
          case measure => simp [intOf]; omega
        | succ j =>
          have cj := hc j (by omega)
          have hlt2 := o3 j rfl
          generalize l[j + 1]'hlk = x at *
          generalize l[j]'(by omega) = y at *
          have d1 : decide (x < 1) = false := by simp; omega
          have d2 : decide (15 < x) = false := by simp; omega
          have d3 : decide (x ≤ y) = false := by simp; omega
          clear hc HO o3
          go_wp2_with fail
          go_region
          go_wp2
          go_roundw
          case rel => exact ⟨rfl, j + 1 + 1, by omega, by simp, HO2, hB.drew⟩
          case measure => simp [intOf]; omega
      · have HN : Hid (nodesB l = false) := nodesB_false fun h => hok (h k hlk)
        by_cases h1 : l[k] < 1
        · generalize l[k]'hlk = x at *
          have d1 : decide (x < 1) = true := by simp; omega
          clear hc HO hok
          go_wp2_with fail
          go_region
          go_wp2
          go_ret
          exact ⟨by rw [HN.out]; rfl, hB.drew⟩
        by_cases h2 : 15 < l[k]
        · generalize l[k]'hlk = x at *
          have d1 : decide (x < 1) = false := by simp; omega
          have d2 : decide (15 < x) = true := by simp; omega
          clear hc HO hok
          go_wp2_with fail
          go_region
          go_wp2
          go_ret
          exact ⟨by rw [HN.out]; rfl, hB.drew⟩
        cases k with
        | zero => exact absurd ⟨by omega, by omega, fun j e => absurd e (by omega)⟩ hok
        | succ j =>
          have cj := hc j (by omega)
          have hle : ¬ l[j]'(by omega) < l[j + 1]'hlk := fun hh => hok ⟨by omega, by omega, fun j' e => by
            have : j' = j := by omega
            subst this
            exact hh⟩
          generalize l[j + 1]'hlk = x at *
          generalize l[j]'(by omega) = y at *
          have d1 : decide (x < 1) = false := by simp; omega
          have d2 : decide (15 < x) = false := by simp; omega
          have d3 : decide (x ≤ y) = true := by simp; omega
          clear hok hc HO
          go_wp2_with fail
          go_region
          go_wp2
          go_ret
          exact ⟨by rw [HN.out]; rfl, hB.drew⟩
    · have dk : decide ((k : Int) < l.length) = false := by simp; omega
      have HY : Hid (nodesB l = true) := nodesB_true fun j h => HO.out j h (by omega)
      clear HO
      go_wp2
      go_ret
      exact ⟨by rw [HY.out]; rfl, hB⟩
set_option maxRecDepth 100000 in
theorem same_eq (v1 v2 : Value) (l : List Int) (w : World) (h1 : IsRow w 1 v1 l.length (iCells l)) (h2 : IsRow w 1 v2 l.length (iCells l)) (hl : l.length ≤ 1000000) :
    Calls Tryd.prog 17 #[v1, v2] w fun e w' => e = .returned (.bool true) ∧ Below w.heap.size w w' := by
  obtain ⟨a1, cap1, rfl⟩ := h1.form
  obtain ⟨a2, cap2, rfl⟩ := h2.form
  have H1 : Hid (IsRow w 1 (.slice a1 l.length cap1) l.length (iCells l)) := h1
  have H2 : Hid (IsRow w 1 (.slice a2 l.length cap2) l.length (iCells l)) := h2
  clear h1 h2
  go_enter Tryd.func17, Tryd.ntmps17
  go_wp2_with fail
  go_loopw [5] (fun i wr => ∃ k : Nat, k ≤ l.length ∧ i = .int .i64 (k : Int) ∧ Below w.heap.size w wr) (fun i _ => l.length - (intOf i).toNat)
  case atStart => exact ⟨0, Nat.zero_le _, rfl, Below.refl _ _⟩
  case round =>
    obtain ⟨k, hk, rfl, hB⟩ := hrel
    by_cases hlk : k < l.length
    · have dk : decide ((k : Int) < l.length) = true := by simp; omega
      obtain ⟨b1, off1, rfl, -, hlt1, hcap1, hc1⟩ := iCells_at (H1.out.below hB) (by omega)
      obtain ⟨b2, off2, rfl, -, hlt2, hcap2, hc2⟩ := iCells_at (H2.out.below hB) (by omega)
      have c1 := hc1 k hlk
      have c2 := hc2 k hlk
      generalize l[k]'hlk = x at *
      clear hc1 hc2
      go_wp2_with fail
      go_region
      go_wp2
      go_roundw
      case rel => exact ⟨k + 1, by omega, by simp, hB.drew⟩
      case measure => simp [intOf]; omega
    · have dk : decide ((k : Int) < l.length) = false := by simp; omega
      go_wp2
      go_ret
      exact ⟨rfl, hB⟩
set_option maxRecDepth 100000 in
theorem has_any (v : Value) (l : List Int) (x : Int) (w : World) (hr : IsRow w 1 v l.length (iCells l)) (hl : l.length ≤ 1000000) :
    Calls Tryd.prog 22 #[v, .int .i64 x] w fun e w' => e = .returned (.bool (decide (x ∈ l))) ∧ w' = w := by
  obtain ⟨a0, cap0, rfl⟩ := hr.form
  have HR : Hid (IsRow w 1 (.slice a0 l.length cap0) l.length (iCells l)) := hr
  clear hr
  go_enter Tryd.func22, Tryd.ntmps22
  go_wp2_with fail
  go_loopw [4, 5] (fun r i wr => r = .bool false ∧ ∃ k : Nat, k ≤ l.length ∧ i = .int .i64 (k : Int) ∧ Hid (∀ (j : Nat) (h : j < l.length), j < k → l[j] ≠ x) ∧ w = wr) (fun _ i _ => l.length - (intOf i).toNat)
  case atStart => exact ⟨rfl, 0, Nat.zero_le _, rfl, fun j h hj => absurd hj (Nat.not_lt_zero _), rfl⟩
  case round =>
    obtain ⟨rfl, k, hk, rfl, HO, rfl⟩ := hrel
    by_cases hlk : k < l.length
    · have dk : decide ((k : Int) < l.length) = true := by simp; omega
      obtain ⟨b, off, rfl, -, hlt, hcap, hc⟩ := iCells_at HR.out (by omega)
      have ck := hc k hlk
      by_cases he : l[k] = x
      · have HX : Hid (decide (x ∈ l) = true) := decide_eq_true (by rw [← he]; exact List.getElem_mem hlk)
        rw [he] at ck
        clear hc HO he
        go_wp2
        go_ret
        exact ⟨by rw [HX.out]; rfl, rfl⟩
      · have de : (l[k] == x) = false := by rw [beq_eq_false_iff_ne]; exact he
        have HO2 : Hid (∀ (j : Nat) (h : j < l.length), j < k + 1 → l[j] ≠ x) := fun j h hj => by
          by_cases e : j = k
          · subst e; exact he
          · exact HO.out j h (by omega)
        generalize l[k]'hlk = y at *
        clear hc HO he
        go_wp2
        go_roundw
        case rel => exact ⟨rfl, k + 1, by omega, by simp, HO2, trivial⟩
        case measure => simp [intOf]; omega
    · have dk : decide ((k : Int) < l.length) = false := by simp; omega
      have HX : Hid (decide (x ∈ l) = false) := decide_eq_false fun hm => by
        obtain ⟨j, hj, e⟩ := List.mem_iff_getElem.1 hm
        exact HO.out j hj (by omega) e
      clear HO
      go_wp2
      go_ret
      exact ⟨by rw [HX.out]; rfl, rfl⟩
end Go.Proofs.YtpepdcbhimjddaaDoor
