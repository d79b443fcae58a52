/- name.Check and name.Hash: walks, at every text. -/
import Derived.Test.YtkcnkjaeidbjbaaGreatDoorNA
import Derived.Lib.OthersKept
import Derived.BigCall
namespace Go.Proofs.YtkcnkjaeidbjbaaGreatDoor
open Go.RowKit

/-- What holds of Check's loop at every round. -/
def CkRel (s : ByteArray) (w : World) (p r f : Value) (wr : World) : Prop :=
  ∃ (pos P R : Nat) (F : Bool), p = .int .i64 P ∧ r = .int .i64 R ∧ f = .bool F ∧ wr.heap[w.heap.size]? = some (.stringIter s pos) ∧ Below w.heap.size w wr ∧ chk P R F (rns (s.data.toList.drop pos)) = checkL s.data.toList ∧ P ≤ pos + 1 ∧ R ≤ pos

set_option maxRecDepth 100000 in
set_option maxHeartbeats 2000000 in
theorem check_any (s : ByteArray) (w : World) (hs : s.size ≤ 140737488355328) :
    Calls Tryz.prog 35 #[.string s] w fun e w' => e = .returned (.int .i64 (checkL s.data.toList)) ∧ Below w.heap.size w w' := by
  go_enter Tryz.func35, Tryz.ntmps35
  go_wp2
  go_loopw [3, 4, 5] (fun p r f wr => CkRel s w p r f wr) (fun _ _ _ wr => s.size - wr.iterPos w.heap.size)
  case atStart =>
    refine ⟨0, 1, 0, true, rfl, rfl, rfl, ?_, (Below.refl _ _).alloc (Nat.le_refl _) _, rfl, by omega, by omega⟩
    have := World.iter_heap w s 0
    simpa using this
  case round =>
    obtain ⟨pos, P, R, F, rfl, rfl, rfl, hit, hbw, hck, hP, hR⟩ := hrel
    have HC : Hid (chk P R F (rns (s.data.toList.drop pos)) = checkL s.data.toList) := hck
    clear hck
    have hsz : w.heap.size < wr.heap.size := (Array.getElem?_eq_some_iff.1 hit).1
    by_cases hp : pos < s.size
    · have hnx : ∀ ty, (Instr.next (.pointer (some ⟨w.heap.size, 0, none⟩)) true ty).run Tryz.prog wr = _ := fun ty => Lib.run_next_any_at wr w.heap.size s pos ty hit hp
      have hwd := Lib.decode_width_pos s pos hp
      have hit2 := Lib.iterAt_heap wr w.heap.size s pos (pos + (Utf8.decode s pos).2) hit
      have hbw2 := Lib.below_iterAt hbw (k := w.heap.size) (Nat.le_refl _) s (pos + (Utf8.decode s pos).2)
      have hrn : Hid (rns (s.data.toList.drop pos) = (Utf8.decode s pos).1 :: rns (s.data.toList.drop (pos + (Utf8.decode s pos).2))) := rns_at s pos hp
      have hmeas : Hid (s.size - (pos + (Utf8.decode s pos).2) < s.size - wr.iterPos w.heap.size) := by
        show _ < _
        rw [iterPos_of hit]; omega
      generalize (Utf8.decode s pos).1 = c at *
      generalize (Utf8.decode s pos).2 = d at *
      generalize hW : wr.iterAt w.heap.size s (pos + d) = W at *
      have hmW : Hid (W.iterPos w.heap.size = pos + d) := iterPos_of hit2
      have HC2 : Hid (chk P R F (c :: rns (s.data.toList.drop (pos + d))) = checkL s.data.toList) := by show _ = _; rw [← hrn.out]; exact HC.out
      have hbz := beginsZ_nat c
      by_cases hb : beginsN c = true
      · rw [hb] at hbz
        have HC3 : Hid (chk P (R + 1) false (rns (s.data.toList.drop (pos + d))) = checkL s.data.toList) := by
          show _ = _; rw [← HC2.out]; simp [chk, hb]
        clear HC HC2 hrn hb
        go_wp2_with (go_at_call 72; refine (begins_any _ _).mono ?_; rintro e w' ⟨rfl, rfl⟩)
        go_roundw
        case rel => exact ⟨pos + d, P, R + 1, false, rfl, by go_num, rfl, hit2, hbw2, HC3.out, by omega, by omega⟩
        case measure => rw [hmW.out]; exact hmeas.out
      · have hb' : beginsN c = false := by simpa using hb
        rw [hb'] at hbz
        cases F
        · by_cases h46 : c = 46
          · have h46' : ((c : Int) == 46) = true := by rw [beq_iff_eq]; omega
            have HC3 : Hid (chk (P + 1) (R + 1) true (rns (s.data.toList.drop (pos + d))) = checkL s.data.toList) := by
              show _ = _; rw [← HC2.out]; simp [chk, h46, show beginsN 46 = false by decide]
            clear HC HC2 hrn hb hb' h46
            go_wp2_with (go_at_call 72; refine (begins_any _ _).mono ?_; rintro e w' ⟨rfl, rfl⟩)
            go_roundw
            case rel => exact ⟨pos + d, P + 1, R + 1, true, by go_num, by go_num, rfl, hit2, hbw2, HC3.out, by omega, by omega⟩
            case measure => rw [hmW.out]; exact hmeas.out
          · have h46' : ((c : Int) == 46) = false := by rw [beq_eq_false_iff_ne]; omega
            by_cases h45 : c = 45
            · have h45' : ((c : Int) != 45) = false := by rw [bne_eq_false_iff_eq]; omega
              have HC3 : Hid (chk P (R + 1) false (rns (s.data.toList.drop (pos + d))) = checkL s.data.toList) := by
                show _ = _; rw [← HC2.out]; simp [chk, h45, show beginsN 45 = false by decide]
              clear HC HC2 hrn hb hb' h46 h45
              go_wp2_with (first | (go_at_call 72; refine (begins_any _ _).mono ?_; rintro e w' ⟨rfl, rfl⟩) | (go_at_call 73; refine (within_any _ _ _ _).mono ?_; rintro e w' ⟨rfl, rfl⟩))
              go_roundw
              case rel => exact ⟨pos + d, P, R + 1, false, rfl, by go_num, rfl, hit2, hbw2, HC3.out, by omega, by omega⟩
              case measure => rw [hmW.out]; exact hmeas.out
            · have h45' : ((c : Int) != 45) = true := by rw [bne_iff_ne]; omega
              by_cases hdg : 48 ≤ c ∧ c ≤ 57
              · have hin : inR (c : Int) 48 57 = true := by simp only [inR, decide_eq_true_eq]; omega
                have HC3 : Hid (chk P (R + 1) false (rns (s.data.toList.drop (pos + d))) = checkL s.data.toList) := by
                  show _ = _; rw [← HC2.out]; simp [chk, hb', h46, hdg]
                clear HC HC2 hrn hb hb' h46 h45 hdg
                go_wp2_with (first | (go_at_call 72; refine (begins_any _ _).mono ?_; rintro e w' ⟨rfl, rfl⟩) | (go_at_call 73; refine (within_any _ _ _ _).mono ?_; rintro e w' ⟨rfl, rfl⟩))
                go_roundw
                case rel => exact ⟨pos + d, P, R + 1, false, rfl, by go_num, rfl, hit2, hbw2, HC3.out, by omega, by omega⟩
                case measure => rw [hmW.out]; exact hmeas.out
              · have hin : inR (c : Int) 48 57 = false := by simp only [inR, decide_eq_false_iff_not]; omega
                have HC3 : Hid (3 = checkL s.data.toList) := by
                  show _ = _; rw [← HC2.out]; simp [chk, hb', h46, h45, hdg]
                clear HC HC2 hrn hb hb' h46 h45 hdg
                go_wp2_with (first | (go_at_call 72; refine (begins_any _ _).mono ?_; rintro e w' ⟨rfl, rfl⟩) | (go_at_call 73; refine (within_any _ _ _ _).mono ?_; rintro e w' ⟨rfl, rfl⟩))
                go_ret
                exact ⟨by rw [← HC3.out]; rfl, hbw2⟩
        · have HC3 : Hid (3 = checkL s.data.toList) := by
            show _ = _; rw [← HC2.out]; simp [chk, hb']
          clear HC HC2 hrn hb hb'
          go_wp2_with (go_at_call 72; refine (begins_any _ _).mono ?_; rintro e w' ⟨rfl, rfl⟩)
          go_ret
          exact ⟨by rw [← HC3.out]; rfl, hbw2⟩
    · have hnx : ∀ ty, (Instr.next (.pointer (some ⟨w.heap.size, 0, none⟩)) true ty).run Tryz.prog wr = _ := fun ty => Lib.run_next_end_at wr w.heap.size s pos ty hit hp
      have HC2 : Hid (chk P R F [] = checkL s.data.toList) := by show _ = _; rw [← HC.out, rns_end s pos hp]
      clear HC
      cases F
      · by_cases h5 : 5 < P
        · have h5' : (5 : Int) < P := by omega
          have HC3 : Hid (2 = checkL s.data.toList) := by show _ = _; rw [← HC2.out]; simp [chk, h5]
          clear HC2
          go_wp2
          go_ret
          exact ⟨by rw [← HC3.out]; rfl, hbw⟩
        · have h5' : decide ((5 : Int) < P) = false := by simp; omega
          by_cases h40 : 40 < R
          · have h40' : decide ((40 : Int) < R) = true := by simp; omega
            have HC3 : Hid (2 = checkL s.data.toList) := by show _ = _; rw [← HC2.out]; simp [chk, h40]
            clear HC2
            go_wp2
            go_ret
            exact ⟨by rw [← HC3.out]; rfl, hbw⟩
          · have h40' : decide ((40 : Int) < R) = false := by simp; omega
            have HC3 : Hid (0 = checkL s.data.toList) := by show _ = _; rw [← HC2.out]; simp [chk, h40, h5]
            clear HC2
            go_wp2
            go_ret
            exact ⟨by rw [← HC3.out]; rfl, hbw⟩
      · have HC3 : Hid (3 = checkL s.data.toList) := by show _ = _; rw [← HC2.out]; simp [chk]
        clear HC2
        go_wp2
        go_ret
        exact ⟨by rw [← HC3.out]; rfl, hbw⟩

/-- One step of the hash. -/
def hstep (h : Nat) (b : UInt8) : Nat := ((h ^^^ b.toNat) * 1099511628211) % 18446744073709551616
theorem hashL_eq (l : List UInt8) : hashL l = l.foldl hstep 14695981039346656037 := rfl
theorem hstep_lt (h : Nat) (b : UInt8) : hstep h b < 18446744073709551616 := Nat.mod_lt _ (by decide)
theorem hfold_lt (l : List UInt8) : ∀ h, h < 18446744073709551616 → l.foldl hstep h < 18446744073709551616 := by
  induction l with
  | nil => intro h hh; exact hh
  | cons b l ih => intro h _; exact ih _ (hstep_lt h b)

theorem hfold_lt' {H k : Nat} {s : ByteArray} (h : Hid (H = (s.data.toList.take k).foldl hstep 14695981039346656037)) : H < 18446744073709551616 := by rw [h.out]; exact hfold_lt _ _ (by decide)
theorem hash_step (H : Nat) (b : UInt8) (hH : H < 18446744073709551616) : IntKind.u64.wrap (bits .xor .u64 (H : Int) (IntKind.u64.wrap (b.toNat : Int)) * 1099511628211) = ((hstep H b : Nat) : Int) := by
  have hb := b.toNat_lt
  rw [IntWalk.u64_in (b.toNat : Int) (by omega), bits_xor_u64_nat H b.toNat hH (by omega), IntKind.wrap_u64]
  unfold hstep
  omega
theorem take_byte (s : ByteArray) (k : Nat) (h : k < s.size) : s.data.toList.take (k + 1) = s.data.toList.take k ++ [s[k]] := by
  rw [List.take_succ_eq_append_getElem (show k < s.data.toList.length by rw [Array.length_toList]; exact h)]
  rfl
theorem take_bytes (s : ByteArray) : s.data.toList.take s.size = s.data.toList := List.take_of_length_le (by rw [Array.length_toList]; exact Nat.le_refl _)

end Go.Proofs.YtkcnkjaeidbjbaaGreatDoor
