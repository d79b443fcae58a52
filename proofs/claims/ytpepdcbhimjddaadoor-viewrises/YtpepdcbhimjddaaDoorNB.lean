/- name.Check and name.Hash: walks, at every text. -/
import Derived.Test.YtpepdcbhimjddaaDoorNA
import Derived.Lib.OthersKept
import Derived.BigCall
namespace Go.Proofs.YtpepdcbhimjddaaDoor
open Go.RowKit

/-- What holds of Check's loop at every round. -/
def CkRel (s : ByteArray) (w : World) (p r f : Value) (wr : World) : Prop :=
  ∃ (pos P R : Nat) (F : Bool), p = .int .i64 P ∧ r = .int .i64 R ∧ f = .bool F ∧ wr.heap[w.heap.size]? = some (.stringIter s pos) ∧ Below w.heap.size w wr ∧ chk P R F (rns (s.data.toList.drop pos)) = checkL s.data.toList ∧ P ≤ pos + 1 ∧ R ≤ pos

/-- One step of the hash. -/
def hstep (h : Nat) (b : UInt8) : Nat := ((h ^^^ b.toNat) * 1099511628211) % 18446744073709551616
theorem hashL_eq (l : List UInt8) : hashL l = l.foldl hstep 14695981039346656037 := rfl
theorem hstep_lt (h : Nat) (b : UInt8) : hstep h b < 18446744073709551616 := Nat.mod_lt _ (by decide)
theorem hfold_lt (l : List UInt8) : ∀ h, h < 18446744073709551616 → l.foldl hstep h < 18446744073709551616 := by
  induction l with
  | nil => intro h hh; exact hh
  | cons b l ih => intro h _; exact ih _ (hstep_lt h b)

theorem hfold_lt' {H k : Nat} {s : ByteArray} (h : Hid (H = (s.data.toList.take k).foldl hstep 14695981039346656037)) : H < 18446744073709551616 := by rw [h.out]; exact hfold_lt _ _ (by decide)
theorem hash_step (H : Nat) (b : UInt8) (hH : H < 18446744073709551616) : IntKind.u64.wrap (bits .xor .u64 (H : Int) (IntKind.u64.wrap (b.toNat : Int)) * 1099511628211) = ((hstep H b : Nat) : Int) := by
  have hb := b.toNat_lt
  rw [IntWalk.u64_in (b.toNat : Int) (by omega), bits_xor_u64_nat H b.toNat hH (by omega), IntKind.wrap_u64]
  unfold hstep
  omega
theorem take_byte (s : ByteArray) (k : Nat) (h : k < s.size) : s.data.toList.take (k + 1) = s.data.toList.take k ++ [s[k]] := by
  rw [List.take_succ_eq_append_getElem (show k < s.data.toList.length by rw [Array.length_toList]; exact h)]
  rfl
theorem take_bytes (s : ByteArray) : s.data.toList.take s.size = s.data.toList := List.take_of_length_le (by rw [Array.length_toList]; exact Nat.le_refl _)

set_option maxRecDepth 100000 in
set_option maxHeartbeats 2000000 in
theorem hash_any (s : ByteArray) (w : World) (hs : s.size ≤ 140737488355328) :
    Calls Tryd.prog 64 #[.string s] w fun e w' => e = .returned (.int .u64 (hashL s.data.toList)) ∧ w' = w := by
  go_enter Tryd.func64, Tryd.ntmps64
  go_wp2
  go_loopw [3, 7] (fun h i wr => ∃ (k H : Nat), k ≤ s.size ∧ h = .int .u64 H ∧ i = .int .i64 k ∧ Hid (H = (s.data.toList.take k).foldl hstep 14695981039346656037) ∧ wr = w) (fun _ i _ => s.size - (intOf i).toNat)
  case atStart => exact ⟨0, 14695981039346656037, Nat.zero_le _, by simp, rfl, by show _ = _; simp, rfl⟩
  case round =>
    obtain ⟨k, H, hk, rfl, rfl, hH, rfl⟩ := hrel
    by_cases hlt : k < s.size
    · have hi : (k : Int) < s.size := by omega
      have hst := hash_step H s[k] (hfold_lt' hH)
      have HN : Hid (hstep H s[k] = (s.data.toList.take (k + 1)).foldl hstep 14695981039346656037) := by
        show _ = _
        rw [take_byte s k hlt, List.foldl_append, ← hH.out, List.foldl_cons, List.foldl_nil]
      go_wp2
      go_roundw
      case rel => exact ⟨k + 1, hstep H s[k], by omega, rfl, by go_num, HN, trivial⟩
      case measure => simp [intOf]; omega
    · have hk' : k = s.size := by omega
      subst hk'
      go_wp2
      go_ret
      refine ⟨?_, rfl⟩
      have e := hH.out
      rw [take_bytes] at e
      rw [hashL_eq, ← e]
      rfl
end Go.Proofs.YtpepdcbhimjddaaDoor
