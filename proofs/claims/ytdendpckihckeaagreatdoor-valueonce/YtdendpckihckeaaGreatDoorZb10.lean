/- value.Show of any value: its walk. -/
import Derived.Test.YtdendpckihckeaaGreatDoorZb2
import Derived.Test.YtdendpckihckeaaGreatDoorZb9
import Derived.Test.YtdendpckihckeaaGreatDoorZb4
import Derived.WalkKit
import Derived.Test.YtdendpckihckeaaGreatDoorZb1
namespace Go.Proofs.YtdendpckihckeaaGreatDoor
open Go.RowKit

/-- The table that decimal numbers are written by. -/
def P10 (w : World) : Prop := Lib.TabIs Tryz.prog w "internal/strconv.uint64pow10" .u64 Lib.pow10Tab
theorem g10 : Tryz.prog.globalNamed "internal/strconv.uint64pow10" = some 3 := by kernel_rfl
theorem P10_below {w w' : World} (h : P10 w) (hb : Below w.heap.size w w') : P10 w' := by
  unfold P10 Lib.TabIs World.var? at *
  rw [g10] at *
  simp only [Option.bind_some] at *
  have hlt : 3 < w.heap.size := by
    apply Decidable.byContradiction
    intro hn
    rw [Array.getElem?_eq_none (by omega)] at h
    cases h
  rw [hb.block _ hlt]
  exact h
theorem grow_below {B : Nat} {a w : World} (os : Array Obj) (h : Below B a w) (hB : B ≤ w.heap.size) : Below B a (Sort.grow w os) :=
  ⟨h.os, h.tape, h.output, Nat.le_trans h.size (by show w.heap.size ≤ (w.heap ++ os).size; simp), fun k hk => by
    show (w.heap ++ os)[k]? = _
    rw [Array.getElem?_append_left (by omega)]
    exact h.block k hk⟩
theorem itoa_any (n : Int) (w : World) (h0 : -9007199254740991 ≤ n) (h1 : n ≤ 9007199254740991) (hP : P10 w) :
    Calls Tryz.prog 38 #[.int .i64 n] w fun e w' => e = .returned (.string (str (Lib.itoa n))) ∧ Below w.heap.size w w' := by
  refine (Tryz.strconv_Itoa n (by omega) (by omega) w hP).mono ?_
  rintro e w' ⟨he, k, os, rfl⟩
  exact ⟨he, grow_below os (below_dN (Below.refl _ _) k) (below_dN (Below.refl w.heap.size w) k).size⟩
theorem fmtBool_i (b : Bool) (w : World) : Calls Tryz.prog 71 #[.bool b] w fun e w' => e = .returned (.string (if b = true then ⟨#[116, 114, 117, 101]⟩ else ⟨#[102, 97, 108, 115, 101]⟩)) ∧ w' = w := by
  cases b
  all_goals
    go_enter Tryz.func71, Tryz.ntmps71
    go_wp2
    go_ret
    exact ⟨rfl, rfl⟩
theorem fmtBool_any (b : Bool) (w : World) : Calls Tryz.prog 39 #[.bool b] w fun e w' => e = .returned (.string (if b = true then ⟨#[116, 114, 117, 101]⟩ else ⟨#[102, 97, 108, 115, 101]⟩)) ∧ w' = w := by
  cases b
  all_goals
    go_enter Tryz.func39, Tryz.ntmps39
    go_wp2_with fail
    refine (fmtBool_i _ _).mono ?_
    rintro e w' ⟨rfl, rfl⟩
    go_wp2
    go_ret
    exact ⟨rfl, rfl⟩
/-- A value's literal. -/
def shwV (k n : Int) (s : ByteArray) : ByteArray :=
  if chkV k n s = true then
    if k = 1 then str (Lib.itoa n) else if k = 3 then (if (n == 1) = true then ⟨#[116, 114, 117, 101]⟩ else ⟨#[102, 97, 108, 115, 101]⟩)
    else if k = 4 then str (120 :: 39 :: hexs s.data.toList ++ [39]) else str (34 :: shws (rns s.data.toList) ++ [34])
  else ⟨#[]⟩
theorem chk_rng {k n : Int} {s : ByteArray} (h : chkV k n s = true) : 1 ≤ k ∧ k ≤ 4 ∧ -9007199254740991 ≤ n ∧ n ≤ 9007199254740991 ∧ s.size ≤ 200 := by
  unfold chkV at h
  split at h
  · simp only [Bool.and_eq_true, decide_eq_true_eq] at h; omega
  split at h
  · simp only [Bool.and_eq_true, decide_eq_true_eq] at h; omega
  split at h
  · simp only [Bool.and_eq_true, decide_eq_true_eq] at h; omega
  split at h
  · simp only [Bool.and_eq_true, decide_eq_true_eq] at h; omega
  · cases h

set_option maxRecDepth 100000 in
set_option maxHeartbeats 4000000 in
theorem show_any (k n : Int) (s : ByteArray) (w : World) (hs : s.size ≤ 140737488355328) (hU : UT w) (hT : T16 w) (hP : P10 w) :
    Calls Tryz.prog 16 #[vv k n s] w fun e w' => e = .returned (.string (shwV k n s)) ∧ Below w.heap.size w w' := by
  have hA : Below w.heap.size w (w.alloc (.cells #[.int .i64 k, .int .i64 n, .string s] 25)) := (Below.refl _ _).alloc (Nat.le_refl _) _
  by_cases hc : chkV k n s = true
  · obtain ⟨k1, k4, n1, n2, hz⟩ := chk_rng hc
    have HC : Hid (chkV k n s = true) := hc
    have HS : Hid (shwV k n s = if k = 1 then str (Lib.itoa n) else if k = 3 then (if (n == 1) = true then ⟨#[116, 114, 117, 101]⟩ else ⟨#[102, 97, 108, 115, 101]⟩) else if k = 4 then str (120 :: 39 :: hexs s.data.toList ++ [39]) else str (34 :: shws (rns s.data.toList) ++ [34])) := by
      show _ = _
      rw [shwV, if_pos hc]
    rw [HS.out]
    have HI : Hid (∀ w, P10 w → Calls Tryz.prog 38 #[.int .i64 n] w fun e w' => e = .returned (.string (str (Lib.itoa n))) ∧ Below w.heap.size w w') := fun w h => itoa_any n w n1 n2 h
    have HH : Hid (∀ w, Calls Tryz.prog 40 #[.string s] w fun e w' => e = .returned (.string (str (120 :: 39 :: hexs s.data.toList ++ [39]))) ∧ Below w.heap.size w w') := fun w => showBytes_any s w (by omega)
    have HX : Hid (∀ w, T16 w → Calls Tryz.prog 41 #[.string s] w fun e w' => e = .returned (.string (str (34 :: shws (rns s.data.toList) ++ [34]))) ∧ Below w.heap.size w w') := fun w h => showText_all s w (by omega) h
    generalize str (Lib.itoa n) = R1 at *
    generalize str (120 :: 39 :: hexs s.data.toList ++ [39]) = R2 at *
    generalize str (34 :: shws (rns s.data.toList) ++ [34]) = R3 at *
    clear hc HS
    go_enter Tryz.func16, Tryz.ntmps16
    go_wp2_with fail
    refine (check_any _ _ _ _ hs (Utf8Tabs_below hU hA)).mono ?_
    rintro e w1 ⟨rfl, hb1⟩
    rw [HC.out]
    have c0 : w1.cell? ⟨w.heap.size, 0, none⟩ = some (.int .i64 k) := (hb1.cell (p := ⟨w.heap.size, 0, none⟩) (by simp)).trans (by simp)
    have c1 : w1.cell? ⟨w.heap.size, 1, none⟩ = some (.int .i64 n) := (hb1.cell (p := ⟨w.heap.size, 1, none⟩) (by simp)).trans (by simp)
    have c2 : w1.cell? ⟨w.heap.size, 2, none⟩ = some (.string s) := (hb1.cell (p := ⟨w.heap.size, 2, none⟩) (by simp)).trans (by simp)
    have hB1 : Below w.heap.size w w1 := hA.trans (hb1.mono (by simp))
    have hT1 := T16_below hT hB1
    have HP1 : Hid (P10 w1) := P10_below hP hB1
    clear hb1 hA HC
    obtain rfl | rfl | rfl | rfl : k = 1 ∨ k = 2 ∨ k = 3 ∨ k = 4 := by omega
    all_goals go_wp2_with fail
    · refine (HI.out _ HP1.out).mono ?_
      rintro e w2 ⟨rfl, hb2⟩
      have hB2 := hB1.trans (hb2.mono hB1.size)
      clear hb2
      go_wp2
      go_ret
      exact ⟨rfl, hB2⟩
    · refine (HX.out _ hT1).mono ?_
      rintro e w2 ⟨rfl, hb2⟩
      have hB2 := hB1.trans (hb2.mono hB1.size)
      clear hb2
      go_wp2
      go_ret
      exact ⟨rfl, hB2⟩
    · by_cases hn : (n == 1) = true
      · obtain rfl : n = 1 := by simpa using hn
        refine (fmtBool_any _ _).mono ?_
        rintro e w2 ⟨rfl, rfl⟩
        go_wp2
        go_ret
        exact ⟨rfl, hB1⟩
      · have hn' : (n == 1) = false := by simpa using hn
        rw [hn']
        refine (fmtBool_any _ _).mono ?_
        rintro e w2 ⟨rfl, rfl⟩
        go_wp2
        go_ret
        exact ⟨rfl, hB1⟩
    · refine (HH.out _).mono ?_
      rintro e w2 ⟨rfl, hb2⟩
      have hB2 := hB1.trans (hb2.mono hB1.size)
      clear hb2
      go_wp2
      go_ret
      exact ⟨rfl, hB2⟩
  · have hc' : chkV k n s = false := by simpa using hc
    have HC : Hid (chkV k n s = false) := hc'
    rw [show shwV k n s = ⟨#[]⟩ by rw [shwV, if_neg hc]]
    clear hc hc'
    go_enter Tryz.func16, Tryz.ntmps16
    go_wp2_with fail
    refine (check_any _ _ _ _ hs (Utf8Tabs_below hU hA)).mono ?_
    rintro e w1 ⟨rfl, hb1⟩
    rw [HC.out]
    have hB1 : Below w.heap.size w w1 := hA.trans (hb1.mono (by simp))
    clear hb1 hA
    go_wp2
    go_ret
    exact ⟨rfl, hB1⟩
end Go.Proofs.YtdendpckihckeaaGreatDoor
/- Plain mathematics of the numbers' bytes: no program in sight. -/
namespace Go.Proofs.YtdendpckihckeaaGreatDoor.Q
open Go.RowKit
def qsize (n : Int) : Int := if n < 0 ∨ 4611686018427387903 < n then 0 else if n < 64 then 1 else if n < 16384 then 2 else if n < 1073741824 then 4 else 8

theorem qsize_1 {n : Int} (h0 : 0 ≤ n) (h1 : n < 64) : qsize n = 1 := by unfold qsize; rw [if_neg (by omega), if_pos (by omega)]
theorem qsize_2 {n : Int} (h0 : 64 ≤ n) (h1 : n < 16384) : qsize n = 2 := by unfold qsize; rw [if_neg (by omega), if_neg (by omega), if_pos (by omega)]
theorem qsize_4 {n : Int} (h0 : 16384 ≤ n) (h1 : n < 1073741824) : qsize n = 4 := by unfold qsize; rw [if_neg (by omega), if_neg (by omega), if_neg (by omega), if_pos (by omega)]
theorem qsize_8 {n : Int} (h0 : 1073741824 ≤ n) (h1 : n ≤ 4611686018427387903) : qsize n = 8 := by unfold qsize; rw [if_neg (by omega), if_neg (by omega), if_neg (by omega), if_neg (by omega)]
theorem qsize_0 {n : Int} (h0 : n < 0 ∨ 4611686018427387903 < n) : qsize n = 0 := by unfold qsize; rw [if_pos (by omega)]
def numI (n : Int) : List Int :=
  if n < 0 ∨ 4611686018427387903 < n then []
  else if n < 64 then [n]
  else if n < 16384 then [64 + n / 256, n % 256]
  else if n < 1073741824 then [128 + n / 16777216, n / 65536 % 256, n / 256 % 256, n % 256]
  else [192 + n / 72057594037927936, n / 281474976710656 % 256, n / 1099511627776 % 256, n / 4294967296 % 256, n / 16777216 % 256, n / 65536 % 256, n / 256 % 256, n % 256]
theorem numI_0 {n : Int} (h0 : n < 0 ∨ 4611686018427387903 < n) : numI n = [] := by unfold numI; rw [if_pos h0]
theorem numI_1 {n : Int} (h0 : 0 ≤ n) (h1 : n < 64) : numI n = [n] := by unfold numI; rw [if_neg (by omega), if_pos (by omega)]
theorem numI_2 {n : Int} (h0 : 64 ≤ n) (h1 : n < 16384) : numI n = [64 + n / 256, n % 256] := by unfold numI; rw [if_neg (by omega), if_neg (by omega), if_pos (by omega)]
theorem numI_4 {n : Int} (h0 : 16384 ≤ n) (h1 : n < 1073741824) : numI n = [128 + n / 16777216, n / 65536 % 256, n / 256 % 256, n % 256] := by unfold numI; rw [if_neg (by omega), if_neg (by omega), if_neg (by omega), if_pos (by omega)]
theorem numI_8 {n : Int} (h0 : 1073741824 ≤ n) (h1 : n ≤ 4611686018427387903) : numI n = [192 + n / 72057594037927936, n / 281474976710656 % 256, n / 1099511627776 % 256, n / 4294967296 % 256, n / 16777216 % 256, n / 65536 % 256, n / 256 % 256, n % 256] := by unfold numI; rw [if_neg (by omega), if_neg (by omega), if_neg (by omega), if_neg (by omega)]
theorem or_all : (List.range 64).all (fun a => bits BinOp.or IntKind.u8 (a : Int) 64 == 64 + (a : Int) && (bits BinOp.or IntKind.u8 (a : Int) 128 == 128 + (a : Int) && (bits BinOp.or IntKind.u8 (a : Int) 192 == 192 + (a : Int) && bits BinOp.or IntKind.u8 (a : Int) 0 == (a : Int)))) = true := by decide +kernel
theorem or_at (a : Int) (h0 : 0 ≤ a) (h1 : a < 64) : bits BinOp.or IntKind.u8 a 64 = 64 + a ∧ bits BinOp.or IntKind.u8 a 128 = 128 + a ∧ bits BinOp.or IntKind.u8 a 192 = 192 + a ∧ bits BinOp.or IntKind.u8 a 0 = a := by
  have h := List.all_eq_true.1 or_all a.toNat (by simp; omega)
  rw [Int.toNat_of_nonneg h0] at h
  simp only [Bool.and_eq_true, beq_iff_eq] at h
  exact ⟨h.1, h.2.1, h.2.2.1, h.2.2.2⟩


/-- A byte of a text, as a number; 0 beyond its end. -/
def bt (s : ByteArray) (i : Nat) : Int := if h : i < s.size then ((s[i]'h).toNat : Int) else 0
theorem bt_eq {s : ByteArray} {i : Nat} (h : i < s.size) : ((s[i]'h).toNat : Int) = bt s i := by unfold bt; rw [dif_pos h]
theorem bt_rng (s : ByteArray) (i : Nat) : 0 ≤ bt s i ∧ bt s i < 256 := by
  unfold bt; split
  · rename_i h; have := (s[i]'h).toNat_lt; omega
  · omega
/-- How many bytes the form at the front of bytes has. -/
def gsz (s : ByteArray) : Nat := if bt s 0 < 64 then 1 else if bt s 0 < 128 then 2 else if bt s 0 < 192 then 4 else 8
/-- The number that they say. -/
def gval (s : ByteArray) : Int := if bt s 0 < 64 then bt s 0 % 64 else if bt s 0 < 128 then (bt s 0 % 64) * 256 + bt s 1 else if bt s 0 < 192 then (((bt s 0 % 64) * 256 + bt s 1) * 256 + bt s 2) * 256 + bt s 3 else (((((((bt s 0 % 64) * 256 + bt s 1) * 256 + bt s 2) * 256 + bt s 3) * 256 + bt s 4) * 256 + bt s 5) * 256 + bt s 6) * 256 + bt s 7
/-- The error: 7, if they end too early; 3, if there is a shorter form. -/
def getE (s : ByteArray) : Int := if s.size < gsz s then 7 else if qsize (gval s) = gsz s then 0 else 3
def getV (s : ByteArray) : Int := if getE s = 0 then gval s else 0
def getRest (s : ByteArray) : ByteArray := if getE s = 0 then s.extract (gsz s) s.size else ⟨#[]⟩
theorem gsz_pos (s : ByteArray) : 1 ≤ gsz s := by unfold gsz; (repeat' split) <;> omega
end Go.Proofs.YtdendpckihckeaaGreatDoor.Q
/- The program's own walks: quic.Size and the reference's, math/bits.TrailingZeros at 1, 2, 4, 8, quic.Num. -/
namespace Go.Proofs.YtdendpckihckeaaGreatDoor.Q
open Go.RowKit

set_option maxHeartbeats 400000 in
theorem size_any (n : Int) (w : World) :
    Calls Tryz.prog 77 #[.int .i64 n] w fun e w' => e = .returned (.int .i64 (qsize n)) ∧ w' = w := by
  go_enter Tryz.func77, Tryz.ntmps77
  go_wp2
  all_goals
    go_ret
    refine ⟨ret_int ?_, rfl⟩
    unfold qsize
    repeat (first | rw [if_pos (by omega)] | rw [if_neg (by omega)])


structure Tab (w : World) : Prop where
  c0 : w.cell? ⟨5, 0, none⟩ = some (.int .u8 0)
  c1 : w.cell? ⟨5, 1, none⟩ = some (.int .u8 1)
  c3 : w.cell? ⟨5, 3, none⟩ = some (.int .u8 2)
  c7 : w.cell? ⟨5, 7, none⟩ = some (.int .u8 3)



theorem tzkey_1 : IntKind.u64.wrap (bits BinOp.and IntKind.u64 1 (IntKind.u64.wrap (-1)) * 285870213051353865) / 288230376151711744 = 0 := by decide +kernel
set_option maxHeartbeats 400000 in
theorem tz_1 (w : World) (h : Tab w) : Calls Tryz.prog 123 #[.int .u64 1] w fun e w' => e = .returned (.int .i64 0) ∧ w' = w := by
  have hc := h.c0
  go_enter Tryz.func123, Tryz.ntmps123
  go_wp2_with (first | simp only [tzkey_1] | go_in)
  go_ret
  exact ⟨rfl, rfl⟩

theorem tzkey_2 : IntKind.u64.wrap (bits BinOp.and IntKind.u64 2 (IntKind.u64.wrap (-2)) * 285870213051353865) / 288230376151711744 = 1 := by decide +kernel
set_option maxHeartbeats 400000 in
theorem tz_2 (w : World) (h : Tab w) : Calls Tryz.prog 123 #[.int .u64 2] w fun e w' => e = .returned (.int .i64 1) ∧ w' = w := by
  have hc := h.c1
  go_enter Tryz.func123, Tryz.ntmps123
  go_wp2_with (first | simp only [tzkey_2] | go_in)
  go_ret
  exact ⟨rfl, rfl⟩

theorem tzkey_4 : IntKind.u64.wrap (bits BinOp.and IntKind.u64 4 (IntKind.u64.wrap (-4)) * 285870213051353865) / 288230376151711744 = 3 := by decide +kernel
set_option maxHeartbeats 400000 in
theorem tz_4 (w : World) (h : Tab w) : Calls Tryz.prog 123 #[.int .u64 4] w fun e w' => e = .returned (.int .i64 2) ∧ w' = w := by
  have hc := h.c3
  go_enter Tryz.func123, Tryz.ntmps123
  go_wp2_with (first | simp only [tzkey_4] | go_in)
  go_ret
  exact ⟨rfl, rfl⟩

theorem tzkey_8 : IntKind.u64.wrap (bits BinOp.and IntKind.u64 8 (IntKind.u64.wrap (-8)) * 285870213051353865) / 288230376151711744 = 7 := by decide +kernel
set_option maxHeartbeats 400000 in
theorem tz_8 (w : World) (h : Tab w) : Calls Tryz.prog 123 #[.int .u64 8] w fun e w' => e = .returned (.int .i64 3) ∧ w' = w := by
  have hc := h.c7
  go_enter Tryz.func123, Tryz.ntmps123
  go_wp2_with (first | simp only [tzkey_8] | go_in)
  go_ret
  exact ⟨rfl, rfl⟩


theorem Tab.below {B : Nat} {w w' : World} (h : Tab w) (hb : Below B w w') (hB : 5 < B) : Tab w' :=
  ⟨(hb.cell (p := ⟨5, 0, none⟩) hB).trans h.c0, (hb.cell (p := ⟨5, 1, none⟩) hB).trans h.c1, (hb.cell (p := ⟨5, 3, none⟩) hB).trans h.c3, (hb.cell (p := ⟨5, 7, none⟩) hB).trans h.c7⟩
theorem Tab.size {w : World} (h : Tab w) : 5 < w.heap.size := by
  exact block_lt_of_cell h.c0




theorem cv_any (w : World) (xs : List Int) (l : Nat) (hl : xs.length = l) (C : Array Value) (hC : C = (xs.map (Value.int .u8)).toArray) :
    (convert 85 9 (.slice (some ⟨w.heap.size, 0, none⟩) l l)).run Tryz.prog (w.alloc (.cells C 5)).drew = .ok (.string (strOfNums xs)) (w.alloc (.cells C 5)).drew := by
  refine run_convert_bytes_arg _ 85 5 Tryz.underlying85 Tryz.underlying5 w.heap.size 0 l l xs hl ?_ 9 Tryz.underlying9
  intro i hi
  subst hC
  rw [World.cell?_drew, World.cell?_alloc_at _ _ _ _ rfl]
  have : i < xs.length := by omega
  simp [List.getD, this]

theorem mk1 (w : World) : (Instr.makeSlice 85 (.int .i64 1) (.int .i64 1)).run Tryz.prog w = .ok (.slice (some ⟨w.heap.size, 0, none⟩) 1 1) (w.alloc (.cells #[.int .u8 0] 5)) := by kernel_rfl
theorem cv1 (w : World) (a : Int) : (convert 85 9 (.slice (some ⟨w.heap.size, 0, none⟩) 1 1)).run Tryz.prog (w.alloc (.cells #[.int .u8 a] 5)).drew = .ok (.string (strOfNums [a])) (w.alloc (.cells #[.int .u8 a] 5)).drew :=
  cv_any w [a] 1 rfl _ rfl
set_option maxHeartbeats 800000 in
theorem num_1 (n : Int) (w : World) (h0 : 0 ≤ n) (h1 : n < 64) (hT : Tab w) :
    Calls Tryz.prog 102 #[.int .i64 n] w fun e w' => e = .returned (.string (strOfNums (numI n))) ∧ Below w.heap.size w w' := by
  have hm := mk1
  have hcv := cv1
  have hsz := hT.size
  go_enter Tryz.func102, Tryz.ntmps102
  go_wp2_with (go_at_call 77; refine (size_any _ _).mono ?_; rw [qsize_1 h0 h1]; rintro e _ ⟨rfl, rfl⟩)
  refine wp_loop_rounds 2 ?_
  rw [rounds_succ]
  go_wp2
  rw [rounds_succ]
  go_wp2
  go_region_with (go_at_call 123; refine (tz_1 _ ?_).mono ?_; exact hT.below (by repeat (first | exact Below.refl _ _ | refine Below.drew ?_ | refine Below.alloc ?_ (Nat.le_refl _) _)) hsz; rintro e _ ⟨rfl, rfl⟩)
  all_goals go_wp2
  all_goals go_ret
  all_goals
    refine ⟨ret_str ?_, (((Below.refl _ _).alloc (Nat.le_refl _) _).drew)⟩
    rw [numI_1 h0 h1, (or_at _ (by omega) (by omega)).2.2.2]

theorem mk2 (w : World) : (Instr.makeSlice 85 (.int .i64 2) (.int .i64 2)).run Tryz.prog w = .ok (.slice (some ⟨w.heap.size, 0, none⟩) 2 2) (w.alloc (.cells #[.int .u8 0, .int .u8 0] 5)) := by kernel_rfl
theorem cv2 (w : World) (a b : Int) : (convert 85 9 (.slice (some ⟨w.heap.size, 0, none⟩) 2 2)).run Tryz.prog (w.alloc (.cells #[.int .u8 a, .int .u8 b] 5)).drew = .ok (.string (strOfNums [a, b])) (w.alloc (.cells #[.int .u8 a, .int .u8 b] 5)).drew :=
  cv_any w [a, b] 2 rfl _ rfl
set_option maxHeartbeats 800000 in
theorem num_2 (n : Int) (w : World) (h0 : 64 ≤ n) (h1 : n < 16384) (hT : Tab w) :
    Calls Tryz.prog 102 #[.int .i64 n] w fun e w' => e = .returned (.string (strOfNums (numI n))) ∧ Below w.heap.size w w' := by
  have hm := mk2
  have hcv := cv2
  have hsz := hT.size
  go_enter Tryz.func102, Tryz.ntmps102
  go_wp2_with (go_at_call 77; refine (size_any _ _).mono ?_; rw [qsize_2 h0 h1]; rintro e _ ⟨rfl, rfl⟩)
  refine wp_loop_rounds 3 ?_
  rw [rounds_succ]
  go_wp2
  rw [rounds_succ]
  go_wp2
  rw [rounds_succ]
  go_wp2
  go_region_with (go_at_call 123; refine (tz_2 _ ?_).mono ?_; exact hT.below (by repeat (first | exact Below.refl _ _ | refine Below.drew ?_ | refine Below.alloc ?_ (Nat.le_refl _) _)) hsz; rintro e _ ⟨rfl, rfl⟩)
  all_goals go_wp2
  all_goals go_ret
  all_goals
    refine ⟨ret_str ?_, (((Below.refl _ _).alloc (Nat.le_refl _) _).drew)⟩
    rw [numI_2 h0 h1, (or_at _ (by omega) (by omega)).1]

theorem mk4 (w : World) : (Instr.makeSlice 85 (.int .i64 4) (.int .i64 4)).run Tryz.prog w = .ok (.slice (some ⟨w.heap.size, 0, none⟩) 4 4) (w.alloc (.cells #[.int .u8 0, .int .u8 0, .int .u8 0, .int .u8 0] 5)) := by kernel_rfl
theorem cv4 (w : World) (a b c d : Int) : (convert 85 9 (.slice (some ⟨w.heap.size, 0, none⟩) 4 4)).run Tryz.prog (w.alloc (.cells #[.int .u8 a, .int .u8 b, .int .u8 c, .int .u8 d] 5)).drew = .ok (.string (strOfNums [a, b, c, d])) (w.alloc (.cells #[.int .u8 a, .int .u8 b, .int .u8 c, .int .u8 d] 5)).drew :=
  cv_any w [a, b, c, d] 4 rfl _ rfl
set_option maxHeartbeats 800000 in
theorem num_4 (n : Int) (w : World) (h0 : 16384 ≤ n) (h1 : n < 1073741824) (hT : Tab w) :
    Calls Tryz.prog 102 #[.int .i64 n] w fun e w' => e = .returned (.string (strOfNums (numI n))) ∧ Below w.heap.size w w' := by
  have hm := mk4
  have hcv := cv4
  have hsz := hT.size
  go_enter Tryz.func102, Tryz.ntmps102
  go_wp2_with (go_at_call 77; refine (size_any _ _).mono ?_; rw [qsize_4 h0 h1]; rintro e _ ⟨rfl, rfl⟩)
  refine wp_loop_rounds 5 ?_
  rw [rounds_succ]
  go_wp2
  rw [rounds_succ]
  go_wp2
  rw [rounds_succ]
  go_wp2
  rw [rounds_succ]
  go_wp2
  rw [rounds_succ]
  go_wp2
  go_region_with (go_at_call 123; refine (tz_4 _ ?_).mono ?_; exact hT.below (by repeat (first | exact Below.refl _ _ | refine Below.drew ?_ | refine Below.alloc ?_ (Nat.le_refl _) _)) hsz; rintro e _ ⟨rfl, rfl⟩)
  all_goals go_wp2
  all_goals go_ret
  all_goals
    refine ⟨ret_str ?_, (((Below.refl _ _).alloc (Nat.le_refl _) _).drew)⟩
    rw [numI_4 h0 h1, (or_at _ (by omega) (by omega)).2.1]
    all_goals (simp only [List.cons.injEq, and_true]; omega)

theorem mk8 (w : World) : (Instr.makeSlice 85 (.int .i64 8) (.int .i64 8)).run Tryz.prog w = .ok (.slice (some ⟨w.heap.size, 0, none⟩) 8 8) (w.alloc (.cells #[.int .u8 0, .int .u8 0, .int .u8 0, .int .u8 0, .int .u8 0, .int .u8 0, .int .u8 0, .int .u8 0] 5)) := by kernel_rfl
theorem cv8 (w : World) (a b c d e f g h : Int) : (convert 85 9 (.slice (some ⟨w.heap.size, 0, none⟩) 8 8)).run Tryz.prog (w.alloc (.cells #[.int .u8 a, .int .u8 b, .int .u8 c, .int .u8 d, .int .u8 e, .int .u8 f, .int .u8 g, .int .u8 h] 5)).drew = .ok (.string (strOfNums [a, b, c, d, e, f, g, h])) (w.alloc (.cells #[.int .u8 a, .int .u8 b, .int .u8 c, .int .u8 d, .int .u8 e, .int .u8 f, .int .u8 g, .int .u8 h] 5)).drew :=
  cv_any w [a, b, c, d, e, f, g, h] 8 rfl _ rfl
set_option maxHeartbeats 800000 in
theorem num_8 (n : Int) (w : World) (h0 : 1073741824 ≤ n) (h1 : n ≤ 4611686018427387903) (hT : Tab w) :
    Calls Tryz.prog 102 #[.int .i64 n] w fun e w' => e = .returned (.string (strOfNums (numI n))) ∧ Below w.heap.size w w' := by
  have hm := mk8
  have hcv := cv8
  have hsz := hT.size
  go_enter Tryz.func102, Tryz.ntmps102
  go_wp2_with (go_at_call 77; refine (size_any _ _).mono ?_; rw [qsize_8 h0 h1]; rintro e _ ⟨rfl, rfl⟩)
  refine wp_loop_rounds 9 ?_
  rw [rounds_succ]
  go_wp2
  rw [rounds_succ]
  go_wp2
  rw [rounds_succ]
  go_wp2
  rw [rounds_succ]
  go_wp2
  rw [rounds_succ]
  go_wp2
  rw [rounds_succ]
  go_wp2
  rw [rounds_succ]
  go_wp2
  rw [rounds_succ]
  go_wp2
  rw [rounds_succ]
  go_wp2
  go_region_with (go_at_call 123; refine (tz_8 _ ?_).mono ?_; exact hT.below (by repeat (first | exact Below.refl _ _ | refine Below.drew ?_ | refine Below.alloc ?_ (Nat.le_refl _) _)) hsz; rintro e _ ⟨rfl, rfl⟩)
  all_goals go_wp2
  all_goals go_ret
  all_goals
    refine ⟨ret_str ?_, (((Below.refl _ _).alloc (Nat.le_refl _) _).drew)⟩
    rw [numI_8 h0 h1, (or_at _ (by omega) (by omega)).2.2.1]
    all_goals (simp only [List.cons.injEq, and_true]; omega)

set_option maxHeartbeats 400000 in
theorem num_0 (n : Int) (w : World) (h0 : n < 0 ∨ 4611686018427387903 < n) :
    Calls Tryz.prog 102 #[.int .i64 n] w fun e w' => e = .returned (.string (strOfNums (numI n))) ∧ Below w.heap.size w w' := by
  go_enter Tryz.func102, Tryz.ntmps102
  go_wp2_with (go_at_call 77; refine (size_any _ _).mono ?_; rw [qsize_0 h0]; rintro e _ ⟨rfl, rfl⟩)
  go_ret
  exact ⟨by rw [numI_0 h0]; rfl, Below.refl _ _⟩

/-- quic.Num: the bytes of every number. -/
theorem num_any (n : Int) (w : World) (hT : Tab w) :
    Calls Tryz.prog 102 #[.int .i64 n] w fun e w' => e = .returned (.string (strOfNums (numI n))) ∧ Below w.heap.size w w' := by
  by_cases h0 : n < 0 ∨ 4611686018427387903 < n
  · exact num_0 n w h0
  by_cases h1 : n < 64
  · exact num_1 n w (by omega) h1 hT
  by_cases h2 : n < 16384
  · exact num_2 n w (by omega) h2 hT
  by_cases h4 : n < 1073741824
  · exact num_4 n w (by omega) h4 hT
  · exact num_8 n w (by omega) (by omega) hT
end Go.Proofs.YtdendpckihckeaaGreatDoor.Q
