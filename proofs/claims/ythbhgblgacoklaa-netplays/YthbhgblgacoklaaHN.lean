/- The net's Hops: its walk. -/
import Derived.Test.YthbhgblgacoklaaHM
namespace Go.Proofs.Ythbhgblgacoklaa
open Go.RowKit

def hop2 (x : Nat × Nat) : List Value := [.int .i64 (x.1 : Int), .int .i64 (x.2 : Int)]
def h2Cells (l : List (Nat × Nat)) : List Value := l.flatMap hop2
theorem h2_len (l : List (Nat × Nat)) : (h2Cells l).length = l.length * 2 := by
  induction l with
  | nil => rfl
  | cons d D ih => rw [h2Cells, List.flatMap_cons, List.length_append, List.length_cons]; rw [h2Cells] at ih; rw [ih]; show 2 + _ = _; omega
theorem h2_snoc (l : List (Nat × Nat)) (x : Nat × Nat) : h2Cells (l ++ [x]) = h2Cells l ++ hop2 x := by simp [h2Cells]
/-- The hops whose rows are not empty and whose nodes are not apart, among the first places. -/
def hopsN (R : Nat → List Pk) (A : Nat → Bool) : Nat → List (Nat × Nat)
  | 0 => []
  | n + 1 => if 0 < (R n).length ∧ A n = false then hopsN R A n ++ [(n / 16, n % 16)] else hopsN R A n
theorem hopsN_len (R : Nat → List Pk) (A : Nat → Bool) : ∀ n, (hopsN R A n).length ≤ n
  | 0 => Nat.le_refl _
  | n + 1 => by
    have := hopsN_len R A n
    unfold hopsN
    split
    · rw [List.length_append, List.length_singleton]; omega
    · omega
theorem info_hop : (Try.prog.info? 33).map (fun i => (i.zero, i.size, i.bytes)) = some (some (.agg #[.int .i64 0, .int .i64 0]), 2, 16) := by kernel_rfl
/-- A row of hops, handed back. -/
def HoPost (l : List (Nat × Nat)) (w : World) (e : Ending) (w' : World) : Prop := ∃ v, e = .returned v ∧ IsRow w' 2 v l.length (h2Cells l) ∧ Below w.heap.size w w'
set_option maxRecDepth 100000 in
set_option maxHeartbeats 2000000 in
theorem hops_any {base : Nat} {w : World} {g : Nat} {V : Nat → Value} {R : Nat → List Pk} {A : Nat → Bool} (hv : NetV base w g V R A) :
    Calls Try.prog 26 #[nP g] w fun e w' => HoPost (hopsN R A 256) w e w' := by
  obtain ⟨i0, hi0, hz0, hz1, hz2⟩ := info_parts info_hop
  have HV : Hid (∀ w', Below w.heap.size w w' → NetV base w' g V R A) := fun w' hb => hv.below hb
  have HL : Hid (∀ n, (hopsN R A n).length ≤ n) := hopsN_len R A
  clear hv
  go_enter Try.func26, Try.ntmps26
  go_wp2_with fail
  go_loopw [2, 7] (fun r i wr => ∃ k : Nat, k ≤ 16 ∧ i = .int .i64 (k : Int) ∧ Hid (wr.ownsRow w.heap.size 33 2 r (hopsN R A (k * 16)).length (h2Cells (hopsN R A (k * 16)))) ∧ Hid (Below w.heap.size w wr)) (fun _ i _ => 16 - (intOf i).toNat)
  case atStart => exact ⟨0, Nat.zero_le _, rfl, World.ownsRow_nil _ _ _ _, Below.refl _ _⟩
  case round =>
    obtain ⟨k, hk, rfl, HO, HB⟩ := hrel
    by_cases hlk : k < 16
    · have dk : decide ((k : Int) < 16) = true := by simp; omega
      go_wp2_with fail
      go_loopw [2, 10] (fun r i wr => ∃ j : Nat, j ≤ 16 ∧ i = .int .i64 (j : Int) ∧ Hid (wr.ownsRow w.heap.size 33 2 r (hopsN R A (k * 16 + j)).length (h2Cells (hopsN R A (k * 16 + j)))) ∧ Hid (Below w.heap.size w wr)) (fun _ i _ => 16 - (intOf i).toNat)
      case atStart => exact ⟨0, Nat.zero_le _, rfl, HO, HB⟩
      case round =>
        clear HO HB
        obtain ⟨j, hj, rfl, HO, HB⟩ := hrel
        by_cases hlj : j < 16
        · have dj : decide ((j : Int) < 16) = true := by simp; omega
          obtain ⟨c1, c2, -, -, -⟩ := (HV.out _ HB.out).cell (k * 16 + j) (by omega)
          rw [← Nat.add_assoc] at c2
          obtain ⟨a0, cap0, hf⟩ := ((HV.out _ HB.out).own (k * 16 + j) (by omega)).form
          rw [hf] at c1
          have q1 : (0 : Int) ≤ (k : Int) := by omega
          have q2 : (k : Int) < 16 := by omega
          have q3 : (0 : Int) ≤ (j : Int) := by omega
          have q4 : (j : Int) < 16 := by omega
          have hsz := HB.out.size
          have hl := HL.out (k * 16 + j)
          have HS : Hid (hopsN R A (k * 16 + (j + 1)) = if 0 < (R (k * 16 + j)).length ∧ A (k * 16 + j) = false then hopsN R A (k * 16 + j) ++ [(k, j)] else hopsN R A (k * 16 + j)) := by
            show hopsN R A (k * 16 + j + 1) = _
            rw [hopsN, show (k * 16 + j) / 16 = k by omega, show (k * 16 + j) % 16 = j by omega]
          generalize hopsN R A (k * 16 + j) = L at *
          clear hf
          generalize (R (k * 16 + j)).length = n at *
          generalize A (k * 16 + j) = o at *
          by_cases hn : 0 < n
          · have dn : decide ((0 : Int) < (n : Int)) = true := by simp; omega
            cases o with
            | true =>
              have HO2 : Hid (wr.ownsRow w.heap.size 33 2 u2 (hopsN R A (k * 16 + (j + 1))).length (h2Cells (hopsN R A (k * 16 + (j + 1))))) := by
                show World.ownsRow _ _ _ _ _ _ _
                rw [HS.out, if_neg (by simp)]; exact HO.out
              clear HS HO
              go_wp2
              go_roundw
              case rel => exact ⟨j + 1, by omega, by simp, HO2, HB⟩
              case measure => simp [intOf]; omega
            | false =>
              rw [if_pos ⟨hn, rfl⟩] at HS
              go_wp2_with (at_builtin; go_loud (refine wpl_appE wr rfl (.tmp 34) (.tmp 38) 61 33 rfl i0 _ 2 16 Try.underlying61 hi0 hz0 hz1 hz2 rfl (by decide) w.heap.size u2 L.length _ rfl HO.out [.int .i64 (k : Int), .int .i64 (j : Int)] rfl _ rfl rfl (by intro u hu; simp at hu; rcases hu with rfl | rfl <;> rfl) (by omega) (by unfold maxLen; omega) (by omega) ?_); intro v4 w4 hown4 hb4)
              have HO2 : Hid (w4.ownsRow w.heap.size 33 2 v4 (hopsN R A (k * 16 + (j + 1))).length (h2Cells (hopsN R A (k * 16 + (j + 1))))) := by
                show World.ownsRow _ _ _ _ _ _ _
                rw [HS.out, List.length_append, h2_snoc]; exact hown4
              have HB2 : Hid (Below w.heap.size w w4) := HB.out.trans hb4
              clear hown4 hb4 HS HO HB
              go_wp2
              go_roundw
              case rel => exact ⟨j + 1, by omega, by simp, HO2, HB2⟩
              case measure => simp [intOf]; omega
          · have dn : decide ((0 : Int) < (n : Int)) = false := by simp; omega
            have HO2 : Hid (wr.ownsRow w.heap.size 33 2 u2 (hopsN R A (k * 16 + (j + 1))).length (h2Cells (hopsN R A (k * 16 + (j + 1))))) := by
              show World.ownsRow _ _ _ _ _ _ _
              rw [HS.out, if_neg (fun h => hn h.1)]; exact HO.out
            clear HS HO
            go_wp2
            go_roundw
            case rel => exact ⟨j + 1, by omega, by simp, HO2, HB⟩
            case measure => simp [intOf]; omega
        · have hj' : j = 16 := by omega
          subst hj'
          go_wp2
          go_roundw
          case rel => exact ⟨k + 1, by omega, by simp, by rw [show (k + 1) * 16 = k * 16 + 16 by omega]; exact HO, HB⟩
          case measure => simp [intOf]; omega
    · have hk' : k = 16 := by omega
      subst hk'
      have HX : Hid (IsRow wr 2 u2 (hopsN R A 256).length (h2Cells (hopsN R A 256))) := IsRow.own HO.out
      go_wp2
      go_ret
      exact ⟨_, rfl, HX.out, HB.out⟩
end Go.Proofs.Ythbhgblgacoklaa
