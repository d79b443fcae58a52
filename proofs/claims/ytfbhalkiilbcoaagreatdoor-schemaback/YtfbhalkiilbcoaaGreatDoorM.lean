/- Plain mathematics of the numbers' bytes: no program in sight. -/
import Derived.WalkKit
namespace Go.Proofs.YtfbhalkiilbcoaaGreatDoor.Q
open Go.RowKit
def qsize (n : Int) : Int := if n < 0 ∨ 4611686018427387903 < n then 0 else if n < 64 then 1 else if n < 16384 then 2 else if n < 1073741824 then 4 else 8

theorem qsize_1 {n : Int} (h0 : 0 ≤ n) (h1 : n < 64) : qsize n = 1 := by unfold qsize; rw [if_neg (by omega), if_pos (by omega)]
theorem qsize_2 {n : Int} (h0 : 64 ≤ n) (h1 : n < 16384) : qsize n = 2 := by unfold qsize; rw [if_neg (by omega), if_neg (by omega), if_pos (by omega)]
theorem qsize_4 {n : Int} (h0 : 16384 ≤ n) (h1 : n < 1073741824) : qsize n = 4 := by unfold qsize; rw [if_neg (by omega), if_neg (by omega), if_neg (by omega), if_pos (by omega)]
theorem qsize_8 {n : Int} (h0 : 1073741824 ≤ n) (h1 : n ≤ 4611686018427387903) : qsize n = 8 := by unfold qsize; rw [if_neg (by omega), if_neg (by omega), if_neg (by omega), if_neg (by omega)]
theorem qsize_0 {n : Int} (h0 : n < 0 ∨ 4611686018427387903 < n) : qsize n = 0 := by unfold qsize; rw [if_pos (by omega)]
def numI (n : Int) : List Int :=
  if n < 0 ∨ 4611686018427387903 < n then []
  else if n < 64 then [n]
  else if n < 16384 then [64 + n / 256, n % 256]
  else if n < 1073741824 then [128 + n / 16777216, n / 65536 % 256, n / 256 % 256, n % 256]
  else [192 + n / 72057594037927936, n / 281474976710656 % 256, n / 1099511627776 % 256, n / 4294967296 % 256, n / 16777216 % 256, n / 65536 % 256, n / 256 % 256, n % 256]
theorem numI_0 {n : Int} (h0 : n < 0 ∨ 4611686018427387903 < n) : numI n = [] := by unfold numI; rw [if_pos h0]
theorem numI_1 {n : Int} (h0 : 0 ≤ n) (h1 : n < 64) : numI n = [n] := by unfold numI; rw [if_neg (by omega), if_pos (by omega)]
theorem numI_2 {n : Int} (h0 : 64 ≤ n) (h1 : n < 16384) : numI n = [64 + n / 256, n % 256] := by unfold numI; rw [if_neg (by omega), if_neg (by omega), if_pos (by omega)]
theorem numI_4 {n : Int} (h0 : 16384 ≤ n) (h1 : n < 1073741824) : numI n = [128 + n / 16777216, n / 65536 % 256, n / 256 % 256, n % 256] := by unfold numI; rw [if_neg (by omega), if_neg (by omega), if_neg (by omega), if_pos (by omega)]
theorem numI_8 {n : Int} (h0 : 1073741824 ≤ n) (h1 : n ≤ 4611686018427387903) : numI n = [192 + n / 72057594037927936, n / 281474976710656 % 256, n / 1099511627776 % 256, n / 4294967296 % 256, n / 16777216 % 256, n / 65536 % 256, n / 256 % 256, n % 256] := by unfold numI; rw [if_neg (by omega), if_neg (by omega), if_neg (by omega), if_neg (by omega)]
theorem or_all : (List.range 64).all (fun a => bits BinOp.or IntKind.u8 (a : Int) 64 == 64 + (a : Int) && (bits BinOp.or IntKind.u8 (a : Int) 128 == 128 + (a : Int) && (bits BinOp.or IntKind.u8 (a : Int) 192 == 192 + (a : Int) && bits BinOp.or IntKind.u8 (a : Int) 0 == (a : Int)))) = true := by decide +kernel
theorem or_at (a : Int) (h0 : 0 ≤ a) (h1 : a < 64) : bits BinOp.or IntKind.u8 a 64 = 64 + a ∧ bits BinOp.or IntKind.u8 a 128 = 128 + a ∧ bits BinOp.or IntKind.u8 a 192 = 192 + a ∧ bits BinOp.or IntKind.u8 a 0 = a := by
  have h := List.all_eq_true.1 or_all a.toNat (by simp; omega)
  rw [Int.toNat_of_nonneg h0] at h
  simp only [Bool.and_eq_true, beq_iff_eq] at h
  exact ⟨h.1, h.2.1, h.2.2.1, h.2.2.2⟩


/-- A byte of a text, as a number; 0 beyond its end. -/
def bt (s : ByteArray) (i : Nat) : Int := if h : i < s.size then ((s[i]'h).toNat : Int) else 0
theorem bt_eq {s : ByteArray} {i : Nat} (h : i < s.size) : ((s[i]'h).toNat : Int) = bt s i := by unfold bt; rw [dif_pos h]
theorem bt_rng (s : ByteArray) (i : Nat) : 0 ≤ bt s i ∧ bt s i < 256 := by
  unfold bt; split
  · rename_i h; have := (s[i]'h).toNat_lt; omega
  · omega
/-- How many bytes the form at the front of bytes has. -/
def gsz (s : ByteArray) : Nat := if bt s 0 < 64 then 1 else if bt s 0 < 128 then 2 else if bt s 0 < 192 then 4 else 8
/-- The number that they say. -/
def gval (s : ByteArray) : Int := if bt s 0 < 64 then bt s 0 % 64 else if bt s 0 < 128 then (bt s 0 % 64) * 256 + bt s 1 else if bt s 0 < 192 then (((bt s 0 % 64) * 256 + bt s 1) * 256 + bt s 2) * 256 + bt s 3 else (((((((bt s 0 % 64) * 256 + bt s 1) * 256 + bt s 2) * 256 + bt s 3) * 256 + bt s 4) * 256 + bt s 5) * 256 + bt s 6) * 256 + bt s 7
/-- The error: 7, if they end too early; 3, if there is a shorter form. -/
def getE (s : ByteArray) : Int := if s.size < gsz s then 7 else if qsize (gval s) = gsz s then 0 else 3
def getV (s : ByteArray) : Int := if getE s = 0 then gval s else 0
def getRest (s : ByteArray) : ByteArray := if getE s = 0 then s.extract (gsz s) s.size else ⟨#[]⟩
theorem gsz_pos (s : ByteArray) : 1 ≤ gsz s := by unfold gsz; (repeat' split) <;> omega
end Go.Proofs.YtfbhalkiilbcoaaGreatDoor.Q
