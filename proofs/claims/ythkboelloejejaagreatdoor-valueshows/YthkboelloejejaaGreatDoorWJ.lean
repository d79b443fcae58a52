/- The reference's Show of a text: its walk; Show at any value. -/
import Derived.Test.YthkboelloejejaaGreatDoorWI
namespace Go.Proofs.YthkboelloejejaaGreatDoor
open Go.RowKit

theorem icells_at {w : World} {a : Option Addr} {cap : Nat} {l : List Nat} (h : IsRow w 1 (.slice a l.length cap) l.length (icells l)) (i : Nat) (hi : i < l.length) :
    ∃ b off, a = some ⟨b, off, none⟩ ∧ b < w.heap.size ∧ w.cell? ⟨b, off + i, none⟩ = some (.int .i64 ((l[i]'hi : Nat) : Int)) := by
  obtain ⟨b, off, cap', hv, hlt, _, _, hc⟩ := h.open (by omega)
  simp only [Value.slice.injEq] at hv
  exact ⟨b, off, hv.1, hlt, hc i _ (by simp [icells, hi])⟩
theorem shws_len (l : List Nat) : (shws l).length ≤ 6 * l.length := by
  induction l with
  | nil => simp [shws]
  | cons c l ih => have := shR_len c; simp only [shws, List.flatMap_cons, List.length_append, List.length_cons] at ih ⊢; omega

set_option maxRecDepth 100000 in
set_option maxHeartbeats 8000000 in
theorem refShow_2 (n : Int) (s : ByteArray) (w : World) (hs : s.size ≤ 140737488355328) (h : chkV 2 n s = true) :
    Calls Tryz.prog 11 #[vv 2 n s] w fun e w' => e = .returned (.string (str (34 :: shws (rns s.data.toList) ++ [34]))) ∧ Below w.heap.size w w' := by
  obtain ⟨_, _, n1, n2, hz⟩ := chk_rng h
  have hv : Lib.validD s.data.toList = true := by
    unfold chkV at h
    rw [if_neg (by decide), if_pos rfl] at h
    simp only [Bool.and_eq_true, decide_eq_true_eq] at h
    exact h.2.2
  have HC : Hid (chkV 2 n s = true) := h
  clear h
  have hln : (rns s.data.toList).length ≤ 200 := by
    have h3 := rns_len_le s.data.toList.length s.data.toList
    have e : s.data.toList.length = s.size := Array.length_toList
    have h4 : (rns s.data.toList).length ≤ s.data.toList.length := h3
    omega
  have hsc := rns_scal s.data.toList
  have HRn : Hid (∀ w : World, Calls Tryz.prog 29 #[.string s] w fun e w' => RnPost (rns s.data.toList) w e w') := fun w => refRunes_any s w (by omega) hv
  generalize rns s.data.toList = l at *
  go_enter Tryz.func11, Tryz.ntmps11
  go_wp2_with fail
  refine (refCheck_any _ _ _ _ hs).mono ?_
  rintro e w1 ⟨rfl, hb1⟩
  rw [HC.out]
  have c0 : w1.cell? ⟨w.heap.size, 0, none⟩ = some (.int .i64 2) := (hb1.cell (p := ⟨w.heap.size, 0, none⟩) (by simp)).trans (by simp)
  have c1 : w1.cell? ⟨w.heap.size, 1, none⟩ = some (.int .i64 n) := (hb1.cell (p := ⟨w.heap.size, 1, none⟩) (by simp)).trans (by simp)
  have c2 : w1.cell? ⟨w.heap.size, 2, none⟩ = some (.string s) := (hb1.cell (p := ⟨w.heap.size, 2, none⟩) (by simp)).trans (by simp)
  have hB1 : Below w.heap.size w w1 := (wr3_below w 2 n s).trans (hb1.mono (by simp))
  clear hb1 hv
  go_wp2_with fail
  refine (HRn.out _).mono ?_
  rintro e w2 ⟨v, rfl, hrow, hb2⟩
  obtain ⟨a0, cap0, rfl⟩ := hrow.form
  have hB2 := hB1.trans (hb2.mono hB1.size)
  clear hb2 c0 c1 c2
  go_wp2_with fail
  go_loopw [6, 7] (fun t i wr => ∃ j : Nat, j ≤ l.length ∧ i = .int .i64 j ∧ t = .string (str (34 :: shws (l.take j))) ∧ Below w2.heap.size w2 wr) (fun _ i _ => l.length - (intOf i).toNat)
  case atStart => exact ⟨0, Nat.zero_le _, rfl, rfl, Below.refl _ _⟩
  case round =>
    obtain ⟨j, hj, rfl, rfl, hb⟩ := hrel
    by_cases hlt : j < l.length
    · have hi : (j : Int) < l.length := by omega
      obtain ⟨b, off, rfl, hbl, d0⟩ := icells_at (hrow.below hb) j hlt
      have HT : Hid (l.take (j + 1) = l.take j ++ [l[j]]) := List.take_succ_eq_append_getElem hlt
      have hcs := hsc _ (List.getElem_mem hlt)
      generalize hc : l[j] = c at *
      have hsz : (str (34 :: shws (l.take j))).size ≤ 1300 := by
        have := shws_len (l.take j)
        rw [str_size, List.length_cons]
        rw [List.length_take] at this
        omega
      have hsz2 : (str (shR c)).size ≤ 6 := by rw [str_size]; exact shR_len c
      have HN : Hid (str (34 :: shws (l.take j)) ++ str (shR c) = str (34 :: shws (l.take (j + 1)))) := ba_eq (by
        rw [ba_append, str_data, str_data, str_data, HT.out]
        simp [shws])
      have HE : Hid (∀ w : World, Calls Tryz.prog 30 #[.int .i64 (c : Int)] w fun e w' => e = .returned (.string (str (shR c))) ∧ Below w.heap.size w w') := fun w => escape_any c w hcs
      generalize str (34 :: shws (l.take j)) = Z at *
      generalize str (shR c) = X at *
      clear HT
      go_wp2_with fail
      refine (HE.out _).mono ?_
      rintro e w3 ⟨rfl, hb3⟩
      have HB : Hid (Below w2.heap.size w2 w3) := hb.trans (hb3.mono hb.size)
      clear hb hb3 d0
      go_wp2
      go_roundw
      case rel => exact ⟨j + 1, by omega, by go_num, by rw [HN.out], HB.out⟩
      case measure => simp [intOf]; omega
    · have hj' : j = l.length := by omega
      subst hj'
      have hsz : (str (34 :: shws l)).size ≤ 1300 := by
        have := shws_len l
        rw [str_size, List.length_cons]
        omega
      have HE : Hid (str (34 :: shws l) ++ (⟨#[34]⟩ : ByteArray) = str (34 :: (shws l ++ [34]))) := ba_eq (by
        rw [ba_append, str_data, str_data]
        rfl)
      rw [List.take_of_length_le (Nat.le_refl _)]
      generalize str (34 :: shws l) = Z at *
      have hB9 := hB2.trans (hb.mono hB2.size)
      clear hb
      go_wp2
      go_ret
      exact ⟨by rw [← HE.out]; rfl, hB9⟩

theorem refShow_any (k n : Int) (s : ByteArray) (w : World) (hs : s.size ≤ 140737488355328) :
    Calls Tryz.prog 11 #[vv k n s] w fun e w' => e = .returned (.string (shwV k n s)) ∧ Below w.heap.size w w' := by
  unfold shwV
  by_cases h : chkV k n s = true
  · rw [if_pos h]
    obtain ⟨k1, k4, _, _, _⟩ := chk_rng h
    obtain rfl | rfl | rfl | rfl : k = 1 ∨ k = 2 ∨ k = 3 ∨ k = 4 := by omega
    · rw [if_pos rfl]; exact refShow_1 n s w hs h
    · rw [if_neg (by decide), if_neg (by decide), if_neg (by decide)]; exact refShow_2 n s w hs h
    · rw [if_neg (by decide), if_pos rfl]; exact refShow_3 n s w hs h
    · rw [if_neg (by decide), if_neg (by decide), if_pos rfl]; exact refShow_4 n s w hs h
  · rw [if_neg h]; exact refShow_0 k n s w hs (by simpa using h)
end Go.Proofs.YthkboelloejejaaGreatDoor
