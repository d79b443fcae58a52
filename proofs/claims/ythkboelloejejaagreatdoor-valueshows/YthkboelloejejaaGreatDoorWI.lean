/- The reference's Show of bytes: its walk. -/
import Derived.Test.YthkboelloejejaaGreatDoorWH
import Derived.Deep.RegionHeld3
namespace Go.Proofs.YthkboelloejejaaGreatDoor
open Go.RowKit

abbrev SA (w0 : World) (s : ByteArray) (w : World) : Prop :=
  w.cell? ⟨w0.heap.size, 2, none⟩ = some (.string s) ∧ w0.heap.size < w.heap.size ∧ Below w0.heap.size w0 w
theorem SA_call {w0 W w' : World} {s : ByteArray} (hb : Below W.heap.size W w') (h : SA w0 s W) : SA w0 s w' := by
  obtain ⟨a2, l1, hB⟩ := h
  exact ⟨(hb.cell (p := ⟨w0.heap.size, 2, none⟩) l1).trans a2, Nat.lt_of_lt_of_le l1 hb.size, hB.trans (hb.mono hB.size)⟩
theorem SA_drew {w0 W : World} {s : ByteArray} (h : SA w0 s W) : SA w0 s W.drew := ⟨h.1, h.2.1, h.2.2.drew⟩
/-- A digit's text. -/
def hx1 (z : Int) : ByteArray := str [dg z.toNat]
theorem hx1_size (z : Int) : (hx1 z).size = 1 := rfl
theorem refHexZ (z : Int) (w : World) (h0 : 0 ≤ z) (h1 : z < 16) :
    Calls Tryz.prog 28 #[.int .i64 z] w fun e w' => e = .returned (.string (hx1 z)) ∧ Below w.heap.size w w' := by
  have := refHex_any z.toNat w (by omega)
  rw [show ((z.toNat : Nat) : Int) = z by omega] at this
  exact this
theorem hex_step (l : List UInt8) (c : UInt8) : (str (120 :: 39 :: hexs l) ++ str [dg (c.toNat / 16)]) ++ str [dg (c.toNat % 16)] = str (120 :: 39 :: hexs (l ++ [c])) := ba_eq (by
  rw [ba_append, ba_append, str_data, str_data, str_data, str_data]
  simp [hexs, hex2])

set_option maxRecDepth 100000 in
set_option maxHeartbeats 8000000 in
theorem refShow_4 (n : Int) (s : ByteArray) (w : World) (hs : s.size ≤ 140737488355328) (h : chkV 4 n s = true) :
    Calls Tryz.prog 11 #[vv 4 n s] w fun e w' => e = .returned (.string (str (120 :: 39 :: hexs s.data.toList ++ [39]))) ∧ Below w.heap.size w w' := by
  obtain ⟨_, _, n1, n2, hz⟩ := chk_rng h
  have HC : Hid (chkV 4 n s = true) := h
  clear h
  go_enter Tryz.func11, Tryz.ntmps11
  go_wp2_with fail
  refine (refCheck_any _ _ _ _ hs).mono ?_
  rintro e w1 ⟨rfl, hb1⟩
  rw [HC.out]
  have c0 : w1.cell? ⟨w.heap.size, 0, none⟩ = some (.int .i64 4) := (hb1.cell (p := ⟨w.heap.size, 0, none⟩) (by simp)).trans (by simp)
  have c1 : w1.cell? ⟨w.heap.size, 1, none⟩ = some (.int .i64 n) := (hb1.cell (p := ⟨w.heap.size, 1, none⟩) (by simp)).trans (by simp)
  have c2 : w1.cell? ⟨w.heap.size, 2, none⟩ = some (.string s) := (hb1.cell (p := ⟨w.heap.size, 2, none⟩) (by simp)).trans (by simp)
  have hB1 : Below w.heap.size w w1 := (wr3_below w 4 n s).trans (hb1.mono (by simp))
  have hS1 : SA w s w1 := ⟨c2, by have := hb1.size; simp at this; omega, hB1⟩
  have HS1 : Hid (SA w s w1) := hS1
  clear hb1 c2 hS1
  go_wp2_with fail
  go_loopw [3, 4] (fun t i wr => ∃ j : Nat, j ≤ s.size ∧ i = .int .i64 j ∧ t = .string (str (120 :: 39 :: hexs (s.data.toList.take j))) ∧ SA w s wr) (fun _ i _ => s.size - (intOf i).toNat)
  case atStart => exact ⟨0, Nat.zero_le _, rfl, rfl, HS1.out⟩
  case round =>
    obtain ⟨j, hj, rfl, rfl, hS⟩ := hrel
    have c2 := hS.1
    by_cases hlt : j < s.size
    · have hi : (j : Int) < s.size := by omega
      have HT : Hid (s.data.toList.take (j + 1) = s.data.toList.take j ++ [s[j]]) := List.take_succ_eq_append_getElem (by rw [Array.length_toList]; exact hlt)
      have hsz : (str (120 :: 39 :: hexs (s.data.toList.take j))).size ≤ 500 := by
        rw [str_size, List.length_cons, List.length_cons, hexs_len, List.length_take]
        omega
      generalize hc : s[j] = c at *
      have hn := c.toNat_lt
      have HN : Hid ((str (120 :: 39 :: hexs (s.data.toList.take j)) ++ str [dg (c.toNat / 16)]) ++ str [dg (c.toNat % 16)] = str (120 :: 39 :: hexs (s.data.toList.take (j + 1)))) := by
        show _ = _
        rw [hex_step, HT.out]
      have e1 : str [dg (c.toNat / 16)] = hx1 ((c.toNat : Int) / 16) := by unfold hx1; rw [show ((c.toNat : Int) / 16).toNat = c.toNat / 16 by omega]
      have e2 : str [dg (c.toNat % 16)] = hx1 ((c.toNat : Int) % 16) := by unfold hx1; rw [show ((c.toNat : Int) % 16).toNat = c.toNat % 16 by omega]
      rw [e1, e2] at HN
      have hx1s := hx1_size ((c.toNat : Int) / 16)
      have hx2s := hx1_size ((c.toNat : Int) % 16)
      have q1 : IntKind.i64.wrap ((IntKind.i64.wrap (c.toNat : Int)).tdiv 16) = (c.toNat : Int) / 16 := by
        rw [IntWalk.i64_in (c.toNat : Int) ⟨by omega, by omega⟩, Int.tdiv_eq_ediv_of_nonneg (by omega), IntWalk.i64_in _ ⟨by omega, by omega⟩]
      have q2 : IntKind.i64.wrap ((IntKind.i64.wrap (c.toNat : Int)).tmod 16) = (c.toNat : Int) % 16 := by
        rw [IntWalk.i64_in (c.toNat : Int) ⟨by omega, by omega⟩, Int.tmod_eq_emod_of_nonneg (by omega), IntWalk.i64_in _ ⟨by omega, by omega⟩]
      have q3 : (IntKind.i64.wrap (c.toNat : Int)).tmod 16 = (c.toNat : Int) % 16 := by
        rw [IntWalk.i64_in (c.toNat : Int) ⟨by omega, by omega⟩, Int.tmod_eq_emod_of_nonneg (by omega)]
      clear e1 e2
      generalize str (120 :: 39 :: hexs (s.data.toList.take j)) = Z at *
      have l1 : Z.size ≤ 9223372036854775806 := by omega
      have l2 : Z.size ≤ 9223372036854775805 := by omega
      have l3 : ¬ 9223372036854775807 < Z.size + 1 := by omega
      have l4 : ¬ 9223372036854775807 < Z.size + 1 + 1 := by omega
      clear c2 HT
      go_wp2_with fail
      go_region_held3 (fun w' => SA w s w') (first | assumption | exact SA_call (by assumption) (by assumption) | exact SA_drew (by assumption))
        ((go_at_call 28; (first | rw [q1] | rw [q2] | rw [q3] | skip); refine (refHexZ _ _ ?_ ?_).mono ?_; omega; omega; rintro e w' ⟨rfl, hb⟩))
      all_goals
        rename_i hS3
        have HS3 : Hid (SA w s _) := hS3
        clear hS3 hS
        go_wp2
        go_roundw
        case rel => exact ⟨j + 1, by omega, by go_num, by rw [HN.out], HS3.out⟩
        case measure => simp [intOf]; omega
    · have hj' : j = s.size := by omega
      subst hj'
      have hfull : s.data.toList.take s.size = s.data.toList := List.take_of_length_le (by rw [Array.length_toList]; exact Nat.le_refl _)
      have hsz : (str (120 :: 39 :: hexs s.data.toList)).size ≤ 500 := by
        have e : s.data.toList.length = s.size := Array.length_toList
        rw [str_size, List.length_cons, List.length_cons, hexs_len]
        omega
      have HE : Hid (str (120 :: 39 :: hexs s.data.toList) ++ (⟨#[39]⟩ : ByteArray) = str (120 :: 39 :: (hexs s.data.toList ++ [39]))) := ba_eq (by
        rw [ba_append, str_data, str_data]
        rfl)
      rw [hfull]
      generalize str (120 :: 39 :: hexs s.data.toList) = Z at *
      have hB9 := hS.2.2
      clear hfull hS
      go_wp2
      go_ret
      exact ⟨by rw [← HE.out]; rfl, hB9⟩
end Go.Proofs.YthkboelloejejaaGreatDoor
