/- strconv.FormatInt of a digit at base 16, value.showRune: walks. -/
import Derived.Test.YtdendpckihckeaaGreatDoorVF
import Derived.Test.YtdendpckihckeaaGreatDoorNM
namespace Go.Proofs.YtdendpckihckeaaGreatDoor
open Go.RowKit

theorem formatInt_i (n : Nat) (w : World) (hn : n < 16) (h : T16 w) :
    Calls Tryz.prog 99 #[.int .i64 (n : Int), .int .i64 16] w fun e w' => e = .returned (.string (strOfNums [((dg n).toNat : Int)])) ∧ Below w.heap.size w w' := by
  have hd : decide ((n : Int) < 0) = false := by simp
  go_enter Tryz.func99, Tryz.ntmps99
  go_wp2_with fail
  refine (formatBits_small n _ hn h).mono ?_
  rintro e w1 ⟨rfl, hb1⟩
  go_wp2
  go_ret
  exact ⟨rfl, hb1⟩
theorem formatInt_16 (n : Nat) (w : World) (hn : n < 16) (h : T16 w) :
    Calls Tryz.prog 100 #[.int .i64 (n : Int), .int .i64 16] w fun e w' => e = .returned (.string (strOfNums [((dg n).toNat : Int)])) ∧ Below w.heap.size w w' := by
  go_enter Tryz.func100, Tryz.ntmps100
  go_wp2_with fail
  refine (formatInt_i n _ hn h).mono ?_
  rintro e w1 ⟨rfl, hb1⟩
  go_wp2
  go_ret
  exact ⟨rfl, hb1⟩

/-- Bytes as a text. -/
def str (l : List UInt8) : ByteArray := ⟨l.toArray⟩
theorem str_data (l : List UInt8) : (str l).data.toList = l := by simp [str]
theorem str_of (s : ByteArray) : str s.data.toList = s := by cases s; simp [str]
theorem str_size (l : List UInt8) : (str l).size = l.length := by simp [str, ByteArray.size]
theorem ba_eq {a b : ByteArray} (h : a.data.toList = b.data.toList) : a = b := by
  cases a; cases b
  simp only [Array.toList_inj] at h
  rw [h]
theorem ba_append (a b : ByteArray) : (a ++ b).data.toList = a.data.toList ++ b.data.toList := by
  rw [ByteArray.data_append, Array.toList_append]

/-- How a rune is shown (those of 16 to 31 and 127 are left out here). -/
def showR (c : Nat) : List UInt8 :=
  if c = 34 then [92, 34] else if c = 92 then [92, 92] else if c = 10 then [92, 110] else if c = 9 then [92, 116] else if c = 13 then [92, 114]
  else if c < 16 then [92, 117, 123, dg c, 125] else enc c
set_option maxRecDepth 100000 in
theorem enc_str (c : Nat) : Utf8.encode (c : Int) = str (enc c) := (str_of (Utf8.encode (c : Int))).symm
theorem num1 (x : UInt8) : strOfNums [(x.toNat : Int)] = str [x] := by
  unfold strOfNums str
  simp
theorem brace (x : UInt8) : ((⟨#[92, 117, 123]⟩ : ByteArray) ++ str [x]) ++ (⟨#[125]⟩ : ByteArray) = str [92, 117, 123, x, 125] := ba_eq (by
  rw [ba_append, ba_append, str_data, str_data]
  rfl)

set_option maxRecDepth 100000 in
set_option maxHeartbeats 2000000 in
theorem showRune_any (c : Nat) (w : World) (hs : scal c) (ho : c < 16 ∨ (32 ≤ c ∧ c ≠ 127)) (hT : T16 w) :
    Calls Tryz.prog 74 #[.int .i32 (c : Int)] w fun e w' => e = .returned (.string (str (showR c))) ∧ Below w.heap.size w w' := by
  have hc : c ≤ 1114111 := by unfold scal at hs; omega
  by_cases h1 : c = 34
  · subst h1
    go_enter Tryz.func74, Tryz.ntmps74
    go_wp2
    go_ret
    exact ⟨rfl, Below.refl _ _⟩
  by_cases h2 : c = 92
  · subst h2
    go_enter Tryz.func74, Tryz.ntmps74
    go_wp2
    go_ret
    exact ⟨rfl, Below.refl _ _⟩
  by_cases h3 : c = 10
  · subst h3
    go_enter Tryz.func74, Tryz.ntmps74
    go_wp2
    go_ret
    exact ⟨rfl, Below.refl _ _⟩
  by_cases h4 : c = 9
  · subst h4
    go_enter Tryz.func74, Tryz.ntmps74
    go_wp2
    go_ret
    exact ⟨rfl, Below.refl _ _⟩
  by_cases h5 : c = 13
  · subst h5
    go_enter Tryz.func74, Tryz.ntmps74
    go_wp2
    go_ret
    exact ⟨rfl, Below.refl _ _⟩
  have k1 : ((c : Int) == 34) = false := by rw [beq_eq_false_iff_ne]; omega
  have k2 : ((c : Int) == 92) = false := by rw [beq_eq_false_iff_ne]; omega
  have k3 : ((c : Int) == 10) = false := by rw [beq_eq_false_iff_ne]; omega
  have k4 : ((c : Int) == 9) = false := by rw [beq_eq_false_iff_ne]; omega
  have k5 : ((c : Int) == 13) = false := by rw [beq_eq_false_iff_ne]; omega
  by_cases h6 : c < 16
  · have k6 : decide ((c : Int) < 32) = true := by simp; omega
    have HR : Hid (str (showR c) = str [92, 117, 123, dg c, 125]) := by show _ = _; rw [showR, if_neg h1, if_neg h2, if_neg h3, if_neg h4, if_neg h5, if_pos h6]
    have HB : Hid (((⟨#[92, 117, 123]⟩ : ByteArray) ++ str [dg c]) ++ (⟨#[125]⟩ : ByteArray) = str [92, 117, 123, dg c, 125]) := brace _
    have hz : (str [dg c]).size = 1 := rfl
    rw [HR.out]
    clear HR h1 h2 h3 h4 h5 ho
    go_enter Tryz.func74, Tryz.ntmps74
    go_wp2_with fail
    refine (formatInt_16 c _ h6 hT).mono ?_
    rintro e w1 ⟨rfl, hb1⟩
    rw [num1]
    generalize str [dg c] = x at *
    go_wp2
    go_ret
    exact ⟨by rw [← HB.out]; rfl, hb1⟩
  · have k6 : decide ((c : Int) < 32) = false := by simp; omega
    have k7 : ((c : Int) == 127) = false := by rw [beq_eq_false_iff_ne]; omega
    have HR : Hid (Utf8.encode (c : Int) = str (showR c)) := by show _ = _; rw [showR, if_neg h1, if_neg h2, if_neg h3, if_neg h4, if_neg h5, if_neg h6, enc_str]
    clear h1 h2 h3 h4 h5 ho
    go_enter Tryz.func74, Tryz.ntmps74
    go_wp2
    go_ret
    exact ⟨by rw [← HR.out]; rfl, Below.refl _ _⟩
end Go.Proofs.YtdendpckihckeaaGreatDoor
