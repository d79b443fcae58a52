/- ring.isNode, Nodes: walks. -/
import Derived.Test.YtpepdcbhimjddaaDoorJA
import Derived.Test.YtpepdcbhimjddaaDoorU3
import Derived.RegionTactic
import Derived.Deep.RegionHeld3
namespace Go.Proofs.YtpepdcbhimjddaaDoor
open Go.RowKit

def isN (x : Int) : Bool := decide (1 ≤ x) && decide (x ≤ 15)
theorem isN_of {x : Int} (h1 : 1 ≤ x) (h2 : x ≤ 15) : isN x = true := by simp [isN, h1, h2]
theorem isN_get {x : Int} (h : isN x = true) : 1 ≤ x ∧ x ≤ 15 := by simpa [isN] using h
theorem isNode_any (x : Int) (w : World) : Calls Tryd.prog 49 #[.int .i64 x] w fun e w' => e = .returned (.bool (isN x)) ∧ w' = w := by
  by_cases h1 : 1 ≤ x
  · have d1 : decide (1 ≤ x) = true := by simpa using h1
    by_cases h2 : x ≤ 15
    · have d2 : decide (x ≤ 15) = true := by simpa using h2
      rw [isN_of h1 h2]
      go_enter Tryd.func49, Tryd.ntmps49
      go_wp2
      go_ret
      exact ⟨rfl, rfl⟩
    · have d2 : decide (x ≤ 15) = false := by simpa using h2
      have e : isN x = false := by simp [isN, h2]
      rw [e]
      go_enter Tryd.func49, Tryd.ntmps49
      go_wp2
      go_ret
      exact ⟨rfl, rfl⟩
  · have d1 : decide (1 ≤ x) = false := by simpa using h1
    have e : isN x = false := by simp [isN, h1]
    rw [e]
    go_enter Tryd.func49, Tryd.ntmps49
    go_wp2
    go_ret
    exact ⟨rfl, rfl⟩
/-- The ints of a row. -/
def iCells (l : List Int) : List Value := l.map (Value.int .i64)
theorem iCells_at {w : World} {a : Option Addr} {cap n : Nat} {l : List Int} (h : IsRow w 1 (.slice a n cap) l.length (iCells l)) (h0 : 0 < l.length) :
    ∃ b off, a = some ⟨b, off, none⟩ ∧ n = l.length ∧ b < w.heap.size ∧ l.length ≤ cap ∧ ∀ (k : Nat) (hk : k < l.length), w.cell? ⟨b, off + k, none⟩ = some (.int .i64 l[k]) := by
  obtain ⟨b, off, cap', hv, hlt, q1, q2, hc⟩ := h.open (by omega)
  simp only [Value.slice.injEq] at hv
  exact ⟨b, off, hv.1, hv.2.1, hlt, by omega, fun k hk => hc k _ (by simp [iCells, hk])⟩
/-- May the number at a place be there? -/
def okAt (l : List Int) (k : Nat) (h : k < l.length) : Prop := 1 ≤ l[k] ∧ l[k] ≤ 15 ∧ ∀ (j : Nat) (e : j + 1 = k), l[j]'(by omega) < l[k]
set_option maxRecDepth 100000 in
set_option maxHeartbeats 1000000 in
theorem nodes_any (v : Value) (l : List Int) (w : World) (hr : IsRow w 1 v l.length (iCells l)) (hl : l.length ≤ 1000000) :
    Calls Tryd.prog 33 #[v] w fun e w' => e = .returned (.bool (nodesB l)) ∧ w' = w := by
  obtain ⟨a0, cap0, rfl⟩ := hr.form
  have HR : Hid (IsRow w 1 (.slice a0 l.length cap0) l.length (iCells l)) := hr
  clear hr
  go_enter Tryd.func33, Tryd.ntmps33
  go_wp2_with fail
  go_loopw [2, 7] (fun r i wr => r = .bool false ∧ ∃ k : Nat, k ≤ l.length ∧ i = .int .i64 (k : Int) ∧ Hid (∀ (j : Nat) (h : j < l.length), j < k → okAt l j h) ∧ w = wr) (fun _ i _ => l.length - (intOf i).toNat)
  case atStart => exact ⟨rfl, 0, Nat.zero_le _, rfl, fun j h hj => absurd hj (Nat.not_lt_zero _), rfl⟩
  case round =>
    obtain ⟨rfl, k, hk, rfl, HO, rfl⟩ := hrel
    by_cases hlk : k < l.length
    · have dk : decide ((k : Int) < l.length) = true := by simp; omega
      obtain ⟨b, off, rfl, -, hlt, hcap, hc⟩ := iCells_at HR.out (by omega)
      have ck := hc k hlk
      by_cases hok : okAt l k hlk
      · have HO2 : Hid (∀ (j : Nat) (h : j < l.length), j < k + 1 → okAt l j h) := fun j h hj => by
          by_cases e : j = k
          · subst e; exact hok
          · exact HO.out j h (by omega)
        have hi : isN l[k] = true := isN_of hok.1 hok.2.1
        have HI : Hid (∀ w, Calls Tryd.prog 49 #[.int .i64 l[k]] w fun e w' => e = .returned (.bool true) ∧ w' = w) := fun w => by have := isNode_any l[k] w; rw [hi] at this; exact this
        cases k with
        | zero =>
          simp only [Nat.add_zero] at ck
          generalize l[0]'hlk = x at *
          clear hok hi hc HO
          go_wp2_with fail
          refine (HI.out _).mono ?_
          rintro e w' ⟨rfl, hw⟩
          subst hw
          go_wp2
          go_roundw
          case rel => exact ⟨rfl, 0 + 1, by omega, by simp, HO2, trivial⟩
          case measure => simp [intOf]; omega
        | succ j =>
          have cj := hc j (by omega)
          have hlt2 := hok.2.2 j rfl
          generalize l[j + 1]'hlk = x at *
          generalize l[j]'(by omega) = y at *
          have d2 : decide (x ≤ y) = false := by simp; omega
          clear hok hi hc HO
          go_wp2_with fail
          refine (HI.out _).mono ?_
          rintro e w' ⟨rfl, hw⟩
          subst hw
          go_wp2
          go_roundw
          case rel => exact ⟨rfl, j + 1 + 1, by omega, by simp, HO2, trivial⟩
          case measure => simp [intOf]; omega
      · have hno : nodesB l = false := nodesB_false fun h => hok (h k hlk)
        have HN : Hid (nodesB l = false) := hno
        clear hno
        cases hi : isN l[k]
        · have HI : Hid (∀ w, Calls Tryd.prog 49 #[.int .i64 l[k]] w fun e w' => e = .returned (.bool false) ∧ w' = w) := fun w => by have := isNode_any l[k] w; rw [hi] at this; exact this
          generalize l[k]'hlk = x at *
          clear hok hi hc HO
          go_wp2_with fail
          refine (HI.out _).mono ?_
          rintro e w' ⟨rfl, hw⟩
          subst hw
          go_wp2
          go_ret
          exact ⟨by rw [HN.out]; rfl, rfl⟩
        · have HI : Hid (∀ w, Calls Tryd.prog 49 #[.int .i64 l[k]] w fun e w' => e = .returned (.bool true) ∧ w' = w) := fun w => by have := isNode_any l[k] w; rw [hi] at this; exact this
          obtain ⟨i1, i2⟩ := isN_get hi
          cases k with
          | zero => exact absurd ⟨i1, i2, fun j e => absurd e (by omega)⟩ hok
          | succ j =>
            have cj := hc j (by omega)
            have hle : ¬ l[j]'(by omega) < l[j + 1]'hlk := fun hh => hok ⟨i1, i2, fun j' e => by
              have : j' = j := by omega
              subst this
              exact hh⟩
            generalize l[j + 1]'hlk = x at *
            generalize l[j]'(by omega) = y at *
            have d2 : decide (x ≤ y) = true := by simp; omega
            clear hok hi hc HO
            go_wp2_with fail
            refine (HI.out _).mono ?_
            rintro e w' ⟨rfl, hw⟩
            subst hw
            go_wp2
            go_ret
            exact ⟨by rw [HN.out]; rfl, rfl⟩
    · have hk' : k = l.length := by omega
      subst hk'
      have dk : decide ((l.length : Int) < l.length) = false := by simp
      have hyes : nodesB l = true := nodesB_true fun k h => HO.out k h h
      clear HO
      go_wp2
      go_ret
      exact ⟨by rw [hyes]; rfl, rfl⟩
end Go.Proofs.YtpepdcbhimjddaaDoor
