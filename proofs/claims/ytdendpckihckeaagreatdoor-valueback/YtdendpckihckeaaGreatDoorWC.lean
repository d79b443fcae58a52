/- value.showText of any text: its walk. -/
import Derived.Test.YtdendpckihckeaaGreatDoorWB
namespace Go.Proofs.YtdendpckihckeaaGreatDoor
open Go.RowKit

def shws (l : List Nat) : List UInt8 := l.flatMap shR
theorem shR_len (c : Nat) : (shR c).length ≤ 6 := by
  unfold shR
  split
  · decide
  split
  · decide
  split
  · decide
  split
  · decide
  split
  · decide
  split
  · exact Nat.le_of_lt (by decide : 5 < 6)
  split
  · exact Nat.le_refl 6
  · have := enc_len4 c; omega
/-- What holds of showText's loop at every round. -/
def StRl (s : ByteArray) (w : World) (k0 : Nat) (wr : World) : Prop :=
  ∃ (pos : Nat) (acc : List UInt8), IsB w.heap.size w.heap.size (Lib.byteCells (34 :: acc)) wr ∧ wr.heap[k0]? = some (.stringIter s pos) ∧ Below w.heap.size w wr ∧ w.heap.size < wr.heap.size ∧ acc ++ shws (rns (s.data.toList.drop pos)) = shws (rns s.data.toList) ∧ acc.length ≤ 6 * pos

set_option maxRecDepth 100000 in
set_option maxHeartbeats 4000000 in
theorem showText_all (s : ByteArray) (w : World) (hs : s.size ≤ 1000000) (hT : T16 w) :
    Calls Tryz.prog 41 #[.string s] w fun e w' => e = .returned (.string (str (34 :: shws (rns s.data.toList) ++ [34]))) ∧ Below w.heap.size w w' := by
  go_enter Tryz.func41, Tryz.ntmps41
  go_wp2_with fail
  refine (writeByte_k w.heap.size w.heap.size [] 34 _ (Lib.IsBuilderF.of (Lib.fresh_isBuilder _ _ w)) (by simp) (by first | simp | omega | skip)).mono ?_
  rintro e w1 ⟨rfl, hI1, hb1, ok1⟩
  have hs1 := hb1.size
  have hs1' : w.heap.size < w1.heap.size := by first | omega | (simp at hs1; omega)
  have hB1 : Below w.heap.size w w1 := ((Below.refl _ _).alloc (Nat.le_refl _) _).trans hb1
  clear hb1 ok1 hs1
  go_wp2_with fail
  go_loopw [] (fun wr => StRl s w w1.heap.size wr) (fun wr => s.size - wr.iterPos w1.heap.size)
  case atStart =>
    exact ⟨0, [], IsB_alloc hI1 _, World.iter_heap w1 s 0, hB1.alloc (by omega) _, Nat.lt_of_lt_of_le hs1' ((Below.refl w1.heap.size w1).alloc (Nat.le_refl _) (.stringIter s 0)).size, rfl, Nat.le_refl _⟩
  case round =>
    obtain ⟨pos, acc, hI, hit, hbw, hws, hck, hal⟩ := hrel
    have HC : Hid (acc ++ shws (rns (s.data.toList.drop pos)) = shws (rns s.data.toList)) := hck
    clear hck
    have hsz : w1.heap.size < wr.heap.size := (Array.getElem?_eq_some_iff.1 hit).1
    by_cases hp : pos < s.size
    · have hnx : ∀ ty, (Instr.next (.pointer (some ⟨w1.heap.size, 0, none⟩)) true ty).run Tryz.prog wr = _ := fun ty => Lib.run_next_any_at wr w1.heap.size s pos ty hit hp
      have hwd := Lib.decode_width_pos s pos hp
      have hit2 := Lib.iterAt_heap wr w1.heap.size s pos (pos + (Utf8.decode s pos).2) hit
      have hbw2 := Lib.below_iterAt hbw (k := w1.heap.size) (by omega) s (pos + (Utf8.decode s pos).2)
      have hI2 := IsB_iter hI hit (pos + (Utf8.decode s pos).2)
      have hszI : (wr.iterAt w1.heap.size s (pos + (Utf8.decode s pos).2)).heap.size = wr.heap.size := Lib.iterAt_size ..
      have hrl := Lib.rune_le s pos
      have hrn : Hid (rns (s.data.toList.drop pos) = (Utf8.decode s pos).1 :: rns (s.data.toList.drop (pos + (Utf8.decode s pos).2))) := rns_at s pos hp
      have hsc : Hid (scal (Utf8.decode s pos).1) := rns_scal (s.data.toList.drop pos) _ (by rw [hrn.out]; simp)
      have hmeas : Hid (s.size - (pos + (Utf8.decode s pos).2) < s.size - wr.iterPos w1.heap.size) := by
        show _ < _
        rw [iterPos_of hit]; omega
      have hwl : pos + (Utf8.decode s pos).2 ≤ s.size := by
        have hne : s.data.toList.drop pos ≠ [] := by
          intro e
          have := congrArg List.length e
          rw [List.length_drop, Array.length_toList] at this
          have e2 : s.data.size = s.size := rfl
          simp at this
          omega
        have h1 := Lib.decodeL_le _ hne
        rw [Lib.decodeL_drop, List.length_drop, Array.length_toList] at h1
        have e2 : s.data.size = s.size := rfl
        omega
      generalize (Utf8.decode s pos).1 = c at *
      generalize (Utf8.decode s pos).2 = d at *
      generalize hW : wr.iterAt w1.heap.size s (pos + d) = W at *
      have hcl := shR_len c
      have HC2 : Hid ((acc ++ shR c) ++ shws (rns (s.data.toList.drop (pos + d))) = shws (rns s.data.toList)) := by
        show _ = _; rw [← HC.out, hrn.out]; simp [shws]
      clear HC hrn hW hI hbw
      go_wp2_with fail
      refine (showRune_all c _ hsc.out (T16_below hT hbw2)).mono ?_
      rintro e w3 ⟨rfl, hb3⟩
      have hI3 := IsB_below hI2 hb3
      have hit3 := (hb3.block _ (Array.getElem?_eq_some_iff.1 hit2).1).trans hit2
      have hbw3 := hbw2.trans (hb3.mono (by omega))
      have hs3 := hb3.size
      have hzs : (str (shR c)).size ≤ 6 := by rw [str_size]; exact hcl
      clear hb3 hI2 hit2 hbw2
      go_wp2_with fail
      refine (writeString_k w.heap.size w.heap.size _ (str (shR c)) _ hI3 (by rw [Lib.byteCells_length, List.length_cons]; omega) (by omega)).mono ?_
      rintro e w4 ⟨rfl, hI4, hb4, ok4⟩
      have hit4 : Hid (w4.heap[w1.heap.size]? = some (.stringIter s (pos + d))) := iter_kept ok4 hit3 (IsB_ne hI3 hit3)
      have hmW : Hid (w4.iterPos w1.heap.size = pos + d) := iterPos_of hit4.out
      have HI : Hid (IsB w.heap.size w.heap.size (Lib.byteCells (34 :: (acc ++ shR c))) w4) := by
        rw [Lib.strCells_eq, str_data, ← Lib.byteCells_append, List.cons_append] at hI4
        exact hI4
      have HB : Hid (Below w.heap.size w w4) := hbw3.trans hb4
      have hs4 := hb4.size
      clear hI4 hb4 ok4 hI3 hit3 hbw3
      go_wp2
      go_roundw
      case rel => exact ⟨pos + d, acc ++ shR c, HI.out, hit4.out, HB.out, by omega, HC2.out, by rw [List.length_append]; omega⟩
      case measure => rw [hmW.out]; exact hmeas.out
    · have hnx : ∀ ty, (Instr.next (.pointer (some ⟨w1.heap.size, 0, none⟩)) true ty).run Tryz.prog wr = _ := fun ty => Lib.run_next_end_at wr w1.heap.size s pos ty hit hp
      have HC2 : Hid (acc = shws (rns s.data.toList)) := by show _ = _; rw [← HC.out, rns_end s pos hp]; simp [shws]
      have hpl : acc.length ≤ 10000000 := by
        have h3 := rns_len_le s.data.toList.length s.data.toList
        have e : s.data.toList.length = s.size := Array.length_toList
        have h4 : (rns s.data.toList).length ≤ s.data.toList.length := h3
        have h5 : ∀ l : List Nat, (shws l).length ≤ 6 * l.length := by
          intro l
          induction l with
          | nil => simp [shws]
          | cons c l ih => have := shR_len c; simp only [shws, List.flatMap_cons, List.length_append, List.length_cons] at ih ⊢; omega
        have h6 := h5 (rns s.data.toList)
        rw [HC2.out]
        omega
      clear HC
      go_wp2_with fail
      refine (writeByte_k w.heap.size w.heap.size _ 34 _ hI (by rw [Lib.byteCells_length, List.length_cons]; omega) (by omega)).mono ?_
      rintro e w3 ⟨rfl, hI3, hb3, ok3⟩
      have hs3 := hb3.size
      have hI4 : IsB w.heap.size w.heap.size (Lib.byteCells (34 :: acc ++ [34])) w3 := by
        have := cells_byte (34 :: acc) 34
        rw [← this]
        exact hI3
      have hB3 := hbw.trans hb3
      clear hI3 hb3 ok3
      go_wp2_with fail
      refine (Tryz.Builder_String_any_k w.heap.size w.heap.size (34 :: acc ++ [34]) _ hI4 (by omega)).mono ?_
      rintro e w4 ⟨rfl, hI5, hb5, ok5⟩
      have HB : Hid (Below w.heap.size w w4) := hB3.trans hb5
      clear hI5 hb5 ok5 hI4
      go_wp2
      go_ret
      refine ⟨?_, HB.out⟩
      rw [← HC2.out]
      rfl

end Go.Proofs.YtdendpckihckeaaGreatDoor
