/- value.showBytes: its walk. -/
import Derived.Test.YtdendpckihckeaaGreatDoorVI
namespace Go.Proofs.YtdendpckihckeaaGreatDoor
open Go.RowKit

/-- A byte in two digits. -/
def hex2 (b : UInt8) : List UInt8 := [dg (b.toNat / 16), dg (b.toNat % 16)]
def hexs (l : List UInt8) : List UInt8 := l.flatMap hex2
theorem hexs_len (l : List UInt8) : (hexs l).length = 2 * l.length := by
  induction l with
  | nil => rfl
  | cons b l ih =>
    have e : hexs (b :: l) = hex2 b ++ hexs l := rfl
    have e2 : (hex2 b).length = 2 := rfl
    rw [e, List.length_append, ih, e2, List.length_cons]
    omega
abbrev HXb : ByteArray := ⟨#[48, 49, 50, 51, 52, 53, 54, 55, 56, 57, 97, 98, 99, 100, 101, 102]⟩
theorem hx_at : ∀ n : Fin 16, HXb[n.val]'(by have := n.isLt; show n.val < 16; omega) = dg n.val := by decide
theorem and15 : ∀ n : Fin 256, bits BinOp.and IntKind.u8 (n.val : Int) 15 = ((n.val % 16 : Nat) : Int) := by decide +kernel

set_option maxRecDepth 100000 in
set_option maxHeartbeats 4000000 in
theorem showBytes_any (s : ByteArray) (w : World) (hs : s.size ≤ 1000000) :
    Calls Tryz.prog 40 #[.string s] w fun e w' => e = .returned (.string (str (120 :: 39 :: hexs s.data.toList ++ [39]))) ∧ Below w.heap.size w w' := by
  go_enter Tryz.func40, Tryz.ntmps40
  go_wp2_with fail
  refine (writeString_k w.heap.size w.heap.size [] ⟨#[120, 39]⟩ _ (Lib.IsBuilderF.of (Lib.fresh_isBuilder _ _ w)) (by decide) (by first | simp | omega | skip)).mono ?_
  rintro e w1 ⟨rfl, hI1, hb1, ok1⟩
  have hs1 := hb1.size
  have hs1' : w.heap.size < w1.heap.size := by first | omega | (simp at hs1; omega)
  have hB1 : Below w.heap.size w w1 := ((Below.refl _ _).alloc (Nat.le_refl _) _).trans hb1
  clear hb1 ok1 hs1
  go_wp2_with fail
  go_loopw [8] (fun i wr => ∃ j : Nat, j ≤ s.size ∧ i = .int .i64 j ∧ IsB w.heap.size w.heap.size (Lib.byteCells (120 :: 39 :: hexs (s.data.toList.take j))) wr ∧ Below w.heap.size w wr ∧ w.heap.size < wr.heap.size) (fun i _ => s.size - (intOf i).toNat)
  case atStart => exact ⟨0, Nat.zero_le _, rfl, hI1, hB1, hs1'⟩
  case round =>
    obtain ⟨j, hj, rfl, hI, hbw, hws⟩ := hrel
    by_cases hlt : j < s.size
    · have hi : (j : Int) < s.size := by omega
      have hlen : (Lib.byteCells (120 :: 39 :: hexs (s.data.toList.take j))).length ≤ 2 * j + 2 := by
        rw [Lib.byteCells_length, List.length_cons, List.length_cons, hexs_len, List.length_take]
        omega
      have HT : Hid (s.data.toList.take (j + 1) = s.data.toList.take j ++ [s[j]]) := List.take_succ_eq_append_getElem (by rw [Array.length_toList]; exact hlt)
      generalize hc : s[j] = c at *
      have hn := c.toNat_lt
      have a15 : bits BinOp.and IntKind.u8 (c.toNat : Int) 15 = ((c.toNat % 16 : Nat) : Int) := and15 ⟨c.toNat, hn⟩
      have hx1 := hx_at ⟨c.toNat / 16, by omega⟩
      have hx2 := hx_at ⟨c.toNat % 16, by omega⟩
      go_wp2_with fail
      refine (writeByte_k w.heap.size w.heap.size _ _ _ hI (by omega) (by omega)).mono ?_
      rintro e w2 ⟨rfl, hI2, hb2, ok2⟩
      have hbw2 := hbw.trans hb2
      have hs2 := hb2.size
      clear hb2 ok2 hI hbw
      go_wp2_with fail
      refine (writeByte_k w.heap.size w.heap.size _ _ _ hI2 (by rw [List.length_append]; simp; omega) (by omega)).mono ?_
      rintro e w3 ⟨rfl, hI3, hb3, ok3⟩
      have HI : Hid (IsB w.heap.size w.heap.size (Lib.byteCells (120 :: 39 :: hexs (s.data.toList.take (j + 1)))) w3) := by
        show IsB _ _ _ _
        rw [cells_byte, cells_byte] at hI3
        rw [HT.out]
        simpa [hexs, hex2] using hI3
      have HB : Hid (Below w.heap.size w w3) := hbw2.trans hb3
      have hs3 := hb3.size
      have hs3' : w.heap.size < w3.heap.size := by omega
      clear hI3 hb3 ok3 hI2 hbw2
      go_wp2
      go_roundw
      case rel => exact ⟨j + 1, by omega, by go_num, HI.out, HB.out, hs3'⟩
      case measure => simp [intOf]; omega
    · have hj' : j = s.size := by omega
      subst hj'
      have hfull : s.data.toList.take s.size = s.data.toList := List.take_of_length_le (by rw [Array.length_toList]; exact Nat.le_refl _)
      rw [hfull] at hI
      have hlen : (Lib.byteCells (120 :: 39 :: hexs s.data.toList)).length = 2 * s.size + 2 := by
        rw [Lib.byteCells_length, List.length_cons, List.length_cons, hexs_len, Array.length_toList]
        rfl
      clear hfull
      go_wp2_with fail
      refine (writeByte_k w.heap.size w.heap.size _ _ _ hI (by omega) (by omega)).mono ?_
      rintro e w2 ⟨rfl, hI2, hb2, ok2⟩
      have hb5 := hbw.trans hb2
      rw [show (39 : Int) = (((39 : UInt8).toNat : Nat) : Int) from rfl, cells_byte] at hI2
      clear hb2 ok2 hI hbw
      go_wp2_with fail
      have hs2 : w.heap.size ≤ w2.heap.size := hb5.size
      refine (Tryz.Builder_String_any_k w.heap.size w.heap.size (120 :: 39 :: hexs s.data.toList ++ [39]) _ hI2 hs2).mono ?_
      rintro e w4 ⟨rfl, hI5, hb6, ok5⟩
      have HB : Hid (Below w.heap.size w w4) := hb5.trans hb6
      clear hI5 hb6 ok5 hI2 hb5
      go_wp2
      go_ret
      exact ⟨rfl, HB.out⟩
end Go.Proofs.YtdendpckihckeaaGreatDoor
