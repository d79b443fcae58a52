/- The law's Few and FewAttrs: walks. -/
import Derived.Test.YtfbnlkgopncejaaGreatDoorEL
namespace Go.Proofs.YtfbnlkgopncejaaGreatDoor
open Go.RowKit

def okW (l : List Fd) (k : Nat) (h : k < l.length) : Prop := k ≤ 40 ∧ l[k].n.size ≤ 200
instance (l : List Fd) (k : Nat) (h : k < l.length) : Decidable (okW l k h) := by unfold okW; exact inferInstance
def fewF (l : List Fd) : Bool := decide (∀ (k : Nat) (h : k < l.length), okW l k h)
theorem fewF_no {l : List Fd} {k : Nat} (h : k < l.length) (hn : ¬ okW l k h) : fewF l = false := decide_eq_false fun hh => hn (hh k h)
def okWA (l : List At) (k : Nat) (h : k < l.length) : Prop := k ≤ 40 ∧ l[k].n.size ≤ 200 ∧ l[k].s.size ≤ 500
instance (l : List At) (k : Nat) (h : k < l.length) : Decidable (okWA l k h) := by unfold okWA; exact inferInstance
def fewA (l : List At) : Bool := decide (∀ (k : Nat) (h : k < l.length), okWA l k h)
theorem fewA_no {l : List At} {k : Nat} (h : k < l.length) (hn : ¬ okWA l k h) : fewA l = false := decide_eq_false fun hh => hn (hh k h)
set_option maxRecDepth 100000 in
set_option maxHeartbeats 2000000 in
theorem fewF_any (v : Value) (l : List Fd) (w : World) (hr : IsRow w 3 v l.length (fCells l)) (hl : l.length ≤ 140737488355328) :
    Calls Tryz.prog 4 #[v] w fun e w' => e = .returned (.bool (fewF l)) ∧ w' = w := by
  obtain ⟨a0, cap0, rfl⟩ := hr.form
  have HR : Hid (IsRow w 3 (.slice a0 l.length cap0) l.length (fCells l)) := hr
  clear hr
  go_enter Tryz.func4, Tryz.ntmps4
  go_wp2_with fail
  go_loopw [2, 3] (fun r i wr => r = .bool false ∧ ∃ k : Nat, k ≤ l.length ∧ k ≤ 41 ∧ i = .int .i64 (k : Int) ∧ Hid (∀ (j : Nat) (h : j < l.length), j < k → okW l j h) ∧ w = wr) (fun _ i _ => l.length - (intOf i).toNat)
  case atStart => exact ⟨rfl, 0, Nat.zero_le _, by omega, rfl, fun j h hj => absurd hj (Nat.not_lt_zero _), rfl⟩
  case round =>
    obtain ⟨rfl, k, hk, hk41, rfl, HO, rfl⟩ := hrel
    by_cases hlk : k < l.length
    · have dk : decide ((k : Int) < l.length) = true := by simp; omega
      obtain ⟨b, off, rfl, hlt, hcap, hc⟩ := f_at HR.out (by omega)
      obtain ⟨ck0, -, -⟩ := hc k hlk
      have HN : Hid (¬ okW l k hlk → fewF l = false) := fewF_no hlk
      by_cases h40 : k ≤ 40
      · have d40 : decide ((40 : Int) < (k : Int)) = false := by simp; omega
        by_cases h200 : l[k].n.size ≤ 200
        · have d200 : decide ((200 : Int) < (l[k].n.size : Int)) = false := by simp; omega
          have HO2 : Hid (∀ (j : Nat) (h : j < l.length), j < k + 1 → okW l j h) := fun j h hj => by
            by_cases e : j = k
            · subst e; exact ⟨h40, h200⟩
            · exact HO.out j h (by omega)
          generalize l[k].n = nm at *
          clear hc HO h200 HN
          go_wp2
          go_roundw
          case rel => exact ⟨rfl, k + 1, by omega, by omega, by simp, HO2, trivial⟩
          case measure => simp [intOf]; omega
        · have d200 : decide ((200 : Int) < (l[k].n.size : Int)) = true := by simp; omega
          have HNn : Hid (fewF l = false) := HN.out fun h => h200 h.2
          generalize l[k].n = nm at *
          clear hc HO h200 HN
          go_wp2
          go_ret
          exact ⟨by rw [HNn.out]; rfl, rfl⟩
      · have d40 : decide ((40 : Int) < (k : Int)) = true := by simp; omega
        have HNn : Hid (fewF l = false) := HN.out fun h => h40 h.1
        clear hc HO HN
        go_wp2
        go_ret
        exact ⟨by rw [HNn.out]; rfl, rfl⟩
    · have hk' : k = l.length := by omega
      subst hk'
      have dk : decide ((l.length : Int) < l.length) = false := by simp
      have HY : Hid (fewF l = true) := decide_eq_true fun j hj => HO.out j hj hj
      clear HO
      go_wp2
      go_ret
      exact ⟨by rw [HY.out]; rfl, rfl⟩
end Go.Proofs.YtfbnlkgopncejaaGreatDoor
