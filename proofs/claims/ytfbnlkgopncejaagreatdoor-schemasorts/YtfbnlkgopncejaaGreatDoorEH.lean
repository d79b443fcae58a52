/- schema.kindOf, schema.parseField: walks. -/
import Derived.Test.YtfbnlkgopncejaaGreatDoorEE
import Derived.Test.YtfbnlkgopncejaaGreatDoorEF
namespace Go.Proofs.YtfbnlkgopncejaaGreatDoor
open Go.RowKit

/-- The words of kinds, as the program's own table has them. -/
structure WT (w : World) : Prop where
  c1 : w.cell? ⟨0, 1, none⟩ = some (.string ⟨#[105, 110, 116]⟩)
  c2 : w.cell? ⟨0, 2, none⟩ = some (.string ⟨#[116, 101, 120, 116]⟩)
  c3 : w.cell? ⟨0, 3, none⟩ = some (.string ⟨#[98, 111, 111, 108]⟩)
  c4 : w.cell? ⟨0, 4, none⟩ = some (.string ⟨#[98, 121, 116, 101, 115]⟩)
theorem WT_below {w w' : World} (h : WT w) (hb : Below w.heap.size w w') : WT w' := by
  have hl : 0 < w.heap.size := World.block_lt_of_cell? _ _ h.c1
  exact ⟨(hb.cell (p := ⟨0, 1, none⟩) hl).trans h.c1, (hb.cell (p := ⟨0, 2, none⟩) hl).trans h.c2, (hb.cell (p := ⟨0, 3, none⟩) hl).trans h.c3, (hb.cell (p := ⟨0, 4, none⟩) hl).trans h.c4⟩
def wordK : Nat → List UInt8
  | 1 => [105, 110, 116]
  | 2 => [116, 101, 120, 116]
  | 3 => [98, 111, 111, 108]
  | _ => [98, 121, 116, 101, 115]
/-- The kind of a word. -/
def kindW (s : List UInt8) : Int := if s = wordK 1 then 1 else if s = wordK 2 then 2 else if s = wordK 3 then 3 else if s = wordK 4 then 4 else 0
theorem WT_at {w : World} (h : WT w) {k : Nat} (h1 : 1 ≤ k) (h2 : k < 5) : w.cell? ⟨0, k, none⟩ = some (.string (str (wordK k))) := by
  have : k = 1 ∨ k = 2 ∨ k = 3 ∨ k = 4 := by omega
  rcases this with rfl | rfl | rfl | rfl
  · exact h.c1
  · exact h.c2
  · exact h.c3
  · exact h.c4
theorem kindW_at {s : List UInt8} {k : Nat} (h1 : 1 ≤ k) (h2 : k < 5) (hb : ∀ j, 1 ≤ j → j < k → s ≠ wordK j) (hk : s = wordK k) : kindW s = (k : Int) := by
  have : k = 1 ∨ k = 2 ∨ k = 3 ∨ k = 4 := by omega
  unfold kindW
  rcases this with rfl | rfl | rfl | rfl
  · rw [if_pos hk]; rfl
  · rw [if_neg (hb 1 (by omega) (by omega)), if_pos hk]; rfl
  · rw [if_neg (hb 1 (by omega) (by omega)), if_neg (hb 2 (by omega) (by omega)), if_pos hk]; rfl
  · rw [if_neg (hb 1 (by omega) (by omega)), if_neg (hb 2 (by omega) (by omega)), if_neg (hb 3 (by omega) (by omega)), if_pos hk]; rfl
theorem kindW_no {s : List UInt8} (hb : ∀ j, 1 ≤ j → j < 5 → s ≠ wordK j) : kindW s = 0 := by
  unfold kindW
  rw [if_neg (hb 1 (by omega) (by omega)), if_neg (hb 2 (by omega) (by omega)), if_neg (hb 3 (by omega) (by omega)), if_neg (hb 4 (by omega) (by omega))]
set_option maxRecDepth 100000 in
set_option maxHeartbeats 2000000 in
theorem kindOf_any (s : ByteArray) (w : World) (hW : WT w) :
    Calls Tryz.prog 41 #[.string s] w fun e w' => e = .returned (.int .i64 (kindW s.data.toList)) ∧ w' = w := by
  have HW : Hid (WT w) := hW
  clear hW
  go_enter Tryz.func41, Tryz.ntmps41
  go_wp2_with fail
  go_loopw [2, 3] (fun r i wr => r = .int .i64 0 ∧ ∃ k : Nat, 1 ≤ k ∧ k ≤ 5 ∧ i = .int .i64 (k : Int) ∧ Hid (∀ j, 1 ≤ j → j < k → s.data.toList ≠ wordK j) ∧ w = wr) (fun _ i _ => 5 - (intOf i).toNat)
  case atStart => exact ⟨rfl, 1, by omega, by omega, rfl, fun j h1 h2 => absurd h2 (by omega), rfl⟩
  case round =>
    obtain ⟨rfl, k, hk1, hk5, rfl, HO, rfl⟩ := hrel
    by_cases hlk : k < 5
    · have dk : decide ((k : Int) < 5) = true := by simp; omega
      have ck := WT_at HW.out hk1 hlk
      have q1 : (0 : Int) ≤ (k : Int) := by omega
      have q2 : (k : Int) < 5 := by omega
      have q3 : ¬ (k : Int) < 0 := by omega
      by_cases hs : s.data.toList = wordK k
      · have HY : Hid (kindW s.data.toList = (k : Int)) := kindW_at hk1 hlk HO.out hs
        have e2 : ((str (wordK k)).toList == s.toList) = true := by
          rw [ByteArray.toList_eq, ByteArray.toList_eq, str_data, hs]; exact beq_self_eq_true _
        clear HO hs
        generalize str (wordK k) = W at *
        go_wp2
        go_ret
        exact ⟨by rw [HY.out]; rfl, rfl⟩
      · have HO2 : Hid (∀ j, 1 ≤ j → j < k + 1 → s.data.toList ≠ wordK j) := fun j h1 h2 => by
          by_cases e : j = k
          · subst e; exact hs
          · exact HO.out j h1 (by omega)
        have e2 : ((str (wordK k)).toList == s.toList) = false := by
          rw [beq_eq_false_iff_ne, ByteArray.toList_eq, ByteArray.toList_eq, str_data]; exact fun e => hs e.symm
        clear HO hs
        generalize str (wordK k) = W at *
        go_wp2
        go_roundw
        case rel => exact ⟨rfl, k + 1, by omega, by omega, by simp, HO2, trivial⟩
        case measure => simp [intOf]; omega
    · have hk' : k = 5 := by omega
      subst hk'
      have HY : Hid (kindW s.data.toList = 0) := kindW_no HO.out
      clear HO
      go_wp2
      go_ret
      exact ⟨by rw [HY.out]; rfl, rfl⟩
end Go.Proofs.YtfbnlkgopncejaaGreatDoor
