/- The reference's Valid and Runes: walks. -/
import Derived.Test.YtfbnlkgopncejaaDoorNH
import Derived.Test.YtfbnlkgopncejaaDoorNC
import Derived.Lib.RuneCountTail
namespace Go.Proofs.YtfbnlkgopncejaaDoor
open Go.RowKit Go.Lib

theorem ext_list (s : ByteArray) (pos : Nat) : (s.extract pos s.size).data.toList = s.data.toList.drop pos := by
  rw [extract_data]
  apply List.take_of_length_le
  rw [List.length_drop, Array.length_toList]
  exact Nat.le_refl _
theorem fst_at (s : ByteArray) (pos : Nat) (h : pos < s.size) : fst (s.extract pos s.size) = if (Utf8.decode s pos).1 = 65533 ∧ (Utf8.decode s pos).2 = 1 then (0, 0) else Utf8.decode s pos := by
  have e : Utf8.decode (s.extract pos s.size) 0 = Utf8.decode s pos := by
    rw [← decodeL_drop, ← decodeL_drop, List.drop_zero, ext_list]
  have hz : ¬ (s.extract pos s.size).size = 0 := by rw [tail_size]; omega
  unfold fst
  rw [e]
  simp only [hz, false_or]
theorem drop_ne (s : ByteArray) (pos : Nat) (h : pos < s.size) : s.data.toList.drop pos ≠ [] := by
  intro e
  have := congrArg List.length e
  rw [List.length_drop, Array.length_toList] at this
  have e2 : s.data.size = s.size := rfl
  simp at this
  omega
theorem valid_at (s : ByteArray) (pos : Nat) (h : pos < s.size) : validD (s.data.toList.drop pos) = if (Utf8.decode s pos).1 = 65533 ∧ (Utf8.decode s pos).2 = 1 then false else validD (s.data.toList.drop (pos + (Utf8.decode s pos).2)) := by
  rw [validD_step _ (drop_ne s pos h), decodeL_drop, List.drop_drop]
theorem width_le (s : ByteArray) (pos : Nat) (h : pos < s.size) : pos + (Utf8.decode s pos).2 ≤ s.size := by
  have h1 := decodeL_le _ (drop_ne s pos h)
  rw [decodeL_drop, List.length_drop, Array.length_toList] at h1
  have e2 : s.data.size = s.size := rfl
  omega
theorem slice_ok (s : ByteArray) (pos : Nat) : (s.extract pos s.size).size ≤ s.size := by rw [tail_size]; omega

theorem owns_below' {w w1 : World} {base : Nat} {e : TypeId} {sz : Nat} {v : Value} {n : Nat} {xs : List Value} (h : w.ownsRow base e sz v n xs) (hb : Below w.heap.size w w1) : w1.ownsRow base e sz v n xs :=
  h.kept (row := none) ⟨hb.os, hb.tape, hb.output, hb.size, fun k hk _ => hb.block k hk⟩ (by cases hv : v.ownBlock <;> simp)
def icells (l : List Nat) : List Value := l.map fun (c : Nat) => Value.int .i64 (c : Int)
theorem info_int : (Tryd.prog.info? 3).map (fun i => (i.zero, i.size, i.bytes)) = some (some (.int .i64 0), 1, 8) := by kernel_rfl
/-- What Runes leaves. -/
def RnPost (l : List Nat) (w : World) (e : Ending) (w' : World) : Prop :=
  ∃ v, e = .returned v ∧ IsRow w' 1 v l.length (icells l) ∧ Below w.heap.size w w'
def RnRel (s : ByteArray) (w : World) (t i : Value) (wr : World) : Prop :=
  ∃ (pos : Nat) (acc : List Nat), pos ≤ s.size ∧ i = .int .i64 pos ∧ wr.ownsRow w.heap.size 3 1 t acc.length (icells acc) ∧ Below w.heap.size w wr ∧ acc ++ rns (s.data.toList.drop pos) = rns s.data.toList ∧ validD (s.data.toList.drop pos) = true ∧ acc.length ≤ pos

end Go.Proofs.YtfbnlkgopncejaaDoor
