/- What the listed variables give to the scanners, and to what shows and writes. -/
import Derived.Test.YtacpllmlpmllbaaGreatDoorZk14
import Derived.Test.YtacpllmlpmllbaaGreatDoorZk15
import Derived.Test.YtacpllmlpmllbaaGreatDoorZk9
import Derived.Stop.LaidErr
import Derived.WalkKit
import Derived.Test.YtacpllmlpmllbaaGreatDoorZk0
import Derived.RegionTactic
import Derived.ChangeAlike
import Derived.Test.YtacpllmlpmllbaaGreatDoorZk1
import Derived.Lib.FrozenHead2
namespace Go.Proofs.YtacpllmlpmllbaaGreatDoor.V
open Go.ChangeShapes Go.WideShapes Go.ChangeAt Go.WideMaps Go.WideElems Go.RowKit

theorem gES : Tryz.prog.globalNamed "strconv.ErrSyntax" = some 6 := by kernel_rfl
theorem tES : (Tryz.prog.globals[6]?).map (·.type) = some 96 := by kernel_rfl
theorem starES : ("*errors.errorString" : String) = "*" ++ "errors.errorString" := by decide +kernel
theorem rowES (u : TypeId) (h : Tryz.prog.typeName? 3 u = some "*errors.errorString") : u = 274 :=
  typeName_ptr_named (nm := "errors.errorString") (by rw [← starES]; kernel_rfl) (by kernel_rfl) (by decide) u (by rw [← starES]; exact h)
theorem es_of {W : World} (h : laidMetH Tryz.prog laidV W) : ES W := by
  rw [MakeChecks.laidMetH_plain _ _ _ (by kernel_rfl)] at h
  have h5 := laidMet.tail (laidMet.tail (laidMet.tail (laidMet.tail (laidMet.tail h))))
  obtain ⟨a, s, hv, -, -, -⟩ := laid_sentinel h5 gES tES Tryz.underlying96 rowES Tryz.underlying274 Tryz.underlying276 rfl rfl Tryz.underlying9 (by kernel_rfl) (by kernel_rfl)
  refine ⟨.iface 274 (.pointer (some a)), ?_, .inr ⟨_, _, rfl⟩⟩
  simpa using World.var?_cell gES hv 0
theorem ve_of {W : World} (h : laidMetH Tryz.prog laidV W) (hsh : W.ShapedOpen Tryz.prog) : VE W := by
  have hv := vt_of h hsh
  exact ⟨hv.u, hv.t, hv.m, es_of h⟩
theorem t10 : (Tryz.prog.globals[5]?).map (·.type) = some 249 := by kernel_rfl
theorem p10_of {W : World} (h : laidMetH Tryz.prog laidV W) : P10 W := by
  rw [MakeChecks.laidMetH_plain _ _ _ (by kernel_rfl)] at h
  exact Lib.tabIs_of_head g10 t10 Tryz.underlying249 Tryz.underlying152 (by kernel_rfl) (by kernel_rfl) (laidMet.tail (laidMet.tail h))
end Go.Proofs.YtacpllmlpmllbaaGreatDoor.V
/- The frame of a law over events: law03's seven listed variables; an identity that came in. -/
namespace Go.Proofs.YtacpllmlpmllbaaGreatDoor
open Go.ChangeShapes Go.WideShapes Go.ChangeAt Go.WideMaps Go.WideElems Go.RowKit Go.Deep

theorem w6_of {W : World} (h : laidMetH Tryz.prog V.laidV W) (hsh : W.ShapedOpen Tryz.prog) : W6 W := by
  have hv := V.vt_of h hsh
  exact ⟨hv.u, hv.m, V.ve_of h hsh, hv.t, V.p10_of h⟩
theorem W6.w3 {w : World} (h : W6 w) : W3 w := ⟨h.t, h.m⟩
end Go.Proofs.YtacpllmlpmllbaaGreatDoor
/- Plain mathematics of the numbers' bytes: no program in sight. -/
namespace Go.Proofs.YtacpllmlpmllbaaGreatDoor.Q
open Go.RowKit
def qsize (n : Int) : Int := if n < 0 ∨ 4611686018427387903 < n then 0 else if n < 64 then 1 else if n < 16384 then 2 else if n < 1073741824 then 4 else 8

theorem qsize_1 {n : Int} (h0 : 0 ≤ n) (h1 : n < 64) : qsize n = 1 := by unfold qsize; rw [if_neg (by omega), if_pos (by omega)]
theorem qsize_2 {n : Int} (h0 : 64 ≤ n) (h1 : n < 16384) : qsize n = 2 := by unfold qsize; rw [if_neg (by omega), if_neg (by omega), if_pos (by omega)]
theorem qsize_4 {n : Int} (h0 : 16384 ≤ n) (h1 : n < 1073741824) : qsize n = 4 := by unfold qsize; rw [if_neg (by omega), if_neg (by omega), if_neg (by omega), if_pos (by omega)]
theorem qsize_8 {n : Int} (h0 : 1073741824 ≤ n) (h1 : n ≤ 4611686018427387903) : qsize n = 8 := by unfold qsize; rw [if_neg (by omega), if_neg (by omega), if_neg (by omega), if_neg (by omega)]
theorem qsize_0 {n : Int} (h0 : n < 0 ∨ 4611686018427387903 < n) : qsize n = 0 := by unfold qsize; rw [if_pos (by omega)]
def numI (n : Int) : List Int :=
  if n < 0 ∨ 4611686018427387903 < n then []
  else if n < 64 then [n]
  else if n < 16384 then [64 + n / 256, n % 256]
  else if n < 1073741824 then [128 + n / 16777216, n / 65536 % 256, n / 256 % 256, n % 256]
  else [192 + n / 72057594037927936, n / 281474976710656 % 256, n / 1099511627776 % 256, n / 4294967296 % 256, n / 16777216 % 256, n / 65536 % 256, n / 256 % 256, n % 256]
theorem numI_0 {n : Int} (h0 : n < 0 ∨ 4611686018427387903 < n) : numI n = [] := by unfold numI; rw [if_pos h0]
theorem numI_1 {n : Int} (h0 : 0 ≤ n) (h1 : n < 64) : numI n = [n] := by unfold numI; rw [if_neg (by omega), if_pos (by omega)]
theorem numI_2 {n : Int} (h0 : 64 ≤ n) (h1 : n < 16384) : numI n = [64 + n / 256, n % 256] := by unfold numI; rw [if_neg (by omega), if_neg (by omega), if_pos (by omega)]
theorem numI_4 {n : Int} (h0 : 16384 ≤ n) (h1 : n < 1073741824) : numI n = [128 + n / 16777216, n / 65536 % 256, n / 256 % 256, n % 256] := by unfold numI; rw [if_neg (by omega), if_neg (by omega), if_neg (by omega), if_pos (by omega)]
theorem numI_8 {n : Int} (h0 : 1073741824 ≤ n) (h1 : n ≤ 4611686018427387903) : numI n = [192 + n / 72057594037927936, n / 281474976710656 % 256, n / 1099511627776 % 256, n / 4294967296 % 256, n / 16777216 % 256, n / 65536 % 256, n / 256 % 256, n % 256] := by unfold numI; rw [if_neg (by omega), if_neg (by omega), if_neg (by omega), if_neg (by omega)]
theorem or_all : (List.range 64).all (fun a => bits BinOp.or IntKind.u8 (a : Int) 64 == 64 + (a : Int) && (bits BinOp.or IntKind.u8 (a : Int) 128 == 128 + (a : Int) && (bits BinOp.or IntKind.u8 (a : Int) 192 == 192 + (a : Int) && bits BinOp.or IntKind.u8 (a : Int) 0 == (a : Int)))) = true := by decide +kernel
theorem or_at (a : Int) (h0 : 0 ≤ a) (h1 : a < 64) : bits BinOp.or IntKind.u8 a 64 = 64 + a ∧ bits BinOp.or IntKind.u8 a 128 = 128 + a ∧ bits BinOp.or IntKind.u8 a 192 = 192 + a ∧ bits BinOp.or IntKind.u8 a 0 = a := by
  have h := List.all_eq_true.1 or_all a.toNat (by simp; omega)
  rw [Int.toNat_of_nonneg h0] at h
  simp only [Bool.and_eq_true, beq_iff_eq] at h
  exact ⟨h.1, h.2.1, h.2.2.1, h.2.2.2⟩


/-- A byte of a text, as a number; 0 beyond its end. -/
def bt (s : ByteArray) (i : Nat) : Int := if h : i < s.size then ((s[i]'h).toNat : Int) else 0
/-- How many bytes the form at the front of bytes has. -/
def gsz (s : ByteArray) : Nat := if bt s 0 < 64 then 1 else if bt s 0 < 128 then 2 else if bt s 0 < 192 then 4 else 8
/-- The number that they say. -/
def gval (s : ByteArray) : Int := if bt s 0 < 64 then bt s 0 % 64 else if bt s 0 < 128 then (bt s 0 % 64) * 256 + bt s 1 else if bt s 0 < 192 then (((bt s 0 % 64) * 256 + bt s 1) * 256 + bt s 2) * 256 + bt s 3 else (((((((bt s 0 % 64) * 256 + bt s 1) * 256 + bt s 2) * 256 + bt s 3) * 256 + bt s 4) * 256 + bt s 5) * 256 + bt s 6) * 256 + bt s 7
/-- The error: 7, if they end too early; 3, if there is a shorter form. -/
def getE (s : ByteArray) : Int := if s.size < gsz s then 7 else if qsize (gval s) = gsz s then 0 else 3
def getV (s : ByteArray) : Int := if getE s = 0 then gval s else 0
def getRest (s : ByteArray) : ByteArray := if getE s = 0 then s.extract (gsz s) s.size else ⟨#[]⟩
end Go.Proofs.YtacpllmlpmllbaaGreatDoor.Q
/- The program's own walks: quic.Size and the reference's, math/bits.TrailingZeros at 1, 2, 4, 8, quic.Num. -/
namespace Go.Proofs.YtacpllmlpmllbaaGreatDoor.Q
open Go.RowKit

set_option maxHeartbeats 400000 in
theorem refSize_any (n : Int) (w : World) :
    Calls Tryz.prog 106 #[.int .i64 n] w fun e w' => e = .returned (.int .i64 (qsize n)) ∧ w' = w := by
  go_enter Tryz.func106, Tryz.ntmps106
  go_wp2
  all_goals
    go_ret
    refine ⟨ret_int ?_, rfl⟩
    unfold qsize
    repeat (first | rw [if_pos (by omega)] | rw [if_neg (by omega)])

set_option maxHeartbeats 400000 in
theorem size_any (n : Int) (w : World) :
    Calls Tryz.prog 147 #[.int .i64 n] w fun e w' => e = .returned (.int .i64 (qsize n)) ∧ w' = w := by
  go_enter Tryz.func147, Tryz.ntmps147
  go_wp2
  all_goals
    go_ret
    refine ⟨ret_int ?_, rfl⟩
    unfold qsize
    repeat (first | rw [if_pos (by omega)] | rw [if_neg (by omega)])


structure Tab (w : World) : Prop where
  c0 : w.cell? ⟨4, 0, none⟩ = some (.int .u8 0)
  c1 : w.cell? ⟨4, 1, none⟩ = some (.int .u8 1)
  c3 : w.cell? ⟨4, 3, none⟩ = some (.int .u8 2)
  c7 : w.cell? ⟨4, 7, none⟩ = some (.int .u8 3)



theorem tzkey_1 : IntKind.u64.wrap (bits BinOp.and IntKind.u64 1 (IntKind.u64.wrap (-1)) * 285870213051353865) / 288230376151711744 = 0 := by decide +kernel
set_option maxHeartbeats 400000 in
theorem tz_1 (w : World) (h : Tab w) : Calls Tryz.prog 151 #[.int .u64 1] w fun e w' => e = .returned (.int .i64 0) ∧ w' = w := by
  have hc := h.c0
  go_enter Tryz.func151, Tryz.ntmps151
  go_wp2_with (first | simp only [tzkey_1] | go_in)
  go_ret
  exact ⟨rfl, rfl⟩

theorem tzkey_2 : IntKind.u64.wrap (bits BinOp.and IntKind.u64 2 (IntKind.u64.wrap (-2)) * 285870213051353865) / 288230376151711744 = 1 := by decide +kernel
set_option maxHeartbeats 400000 in
theorem tz_2 (w : World) (h : Tab w) : Calls Tryz.prog 151 #[.int .u64 2] w fun e w' => e = .returned (.int .i64 1) ∧ w' = w := by
  have hc := h.c1
  go_enter Tryz.func151, Tryz.ntmps151
  go_wp2_with (first | simp only [tzkey_2] | go_in)
  go_ret
  exact ⟨rfl, rfl⟩

theorem tzkey_4 : IntKind.u64.wrap (bits BinOp.and IntKind.u64 4 (IntKind.u64.wrap (-4)) * 285870213051353865) / 288230376151711744 = 3 := by decide +kernel
set_option maxHeartbeats 400000 in
theorem tz_4 (w : World) (h : Tab w) : Calls Tryz.prog 151 #[.int .u64 4] w fun e w' => e = .returned (.int .i64 2) ∧ w' = w := by
  have hc := h.c3
  go_enter Tryz.func151, Tryz.ntmps151
  go_wp2_with (first | simp only [tzkey_4] | go_in)
  go_ret
  exact ⟨rfl, rfl⟩

theorem tzkey_8 : IntKind.u64.wrap (bits BinOp.and IntKind.u64 8 (IntKind.u64.wrap (-8)) * 285870213051353865) / 288230376151711744 = 7 := by decide +kernel
set_option maxHeartbeats 400000 in
theorem tz_8 (w : World) (h : Tab w) : Calls Tryz.prog 151 #[.int .u64 8] w fun e w' => e = .returned (.int .i64 3) ∧ w' = w := by
  have hc := h.c7
  go_enter Tryz.func151, Tryz.ntmps151
  go_wp2_with (first | simp only [tzkey_8] | go_in)
  go_ret
  exact ⟨rfl, rfl⟩


theorem Tab.below {B : Nat} {w w' : World} (h : Tab w) (hb : Below B w w') (hB : 4 < B) : Tab w' :=
  ⟨(hb.cell (p := ⟨4, 0, none⟩) hB).trans h.c0, (hb.cell (p := ⟨4, 1, none⟩) hB).trans h.c1, (hb.cell (p := ⟨4, 3, none⟩) hB).trans h.c3, (hb.cell (p := ⟨4, 7, none⟩) hB).trans h.c7⟩
theorem Tab.size {w : World} (h : Tab w) : 4 < w.heap.size := by
  exact block_lt_of_cell h.c0




theorem cv_any (w : World) (xs : List Int) (l : Nat) (hl : xs.length = l) (C : Array Value) (hC : C = (xs.map (Value.int .u8)).toArray) :
    (convert 92 9 (.slice (some ⟨w.heap.size, 0, none⟩) l l)).run Tryz.prog (w.alloc (.cells C 5)).drew = .ok (.string (strOfNums xs)) (w.alloc (.cells C 5)).drew := by
  refine run_convert_bytes_arg _ 92 5 Tryz.underlying92 Tryz.underlying5 w.heap.size 0 l l xs hl ?_ 9 Tryz.underlying9
  intro i hi
  subst hC
  rw [World.cell?_drew, World.cell?_alloc_at _ _ _ _ rfl]
  have : i < xs.length := by omega
  simp [List.getD, this]

theorem mk1 (w : World) : (Instr.makeSlice 92 (.int .i64 1) (.int .i64 1)).run Tryz.prog w = .ok (.slice (some ⟨w.heap.size, 0, none⟩) 1 1) (w.alloc (.cells #[.int .u8 0] 5)) := by kernel_rfl
theorem cv1 (w : World) (a : Int) : (convert 92 9 (.slice (some ⟨w.heap.size, 0, none⟩) 1 1)).run Tryz.prog (w.alloc (.cells #[.int .u8 a] 5)).drew = .ok (.string (strOfNums [a])) (w.alloc (.cells #[.int .u8 a] 5)).drew :=
  cv_any w [a] 1 rfl _ rfl
set_option maxHeartbeats 800000 in
theorem num_1 (n : Int) (w : World) (h0 : 0 ≤ n) (h1 : n < 64) (hT : Tab w) :
    Calls Tryz.prog 104 #[.int .i64 n] w fun e w' => e = .returned (.string (strOfNums (numI n))) ∧ Below w.heap.size w w' := by
  have hm := mk1
  have hcv := cv1
  have hsz := hT.size
  go_enter Tryz.func104, Tryz.ntmps104
  go_wp2_with (go_at_call 147; refine (size_any _ _).mono ?_; rw [qsize_1 h0 h1]; rintro e _ ⟨rfl, rfl⟩)
  refine wp_loop_rounds 2 ?_
  rw [rounds_succ]
  go_wp2
  rw [rounds_succ]
  go_wp2
  go_region_with (go_at_call 151; refine (tz_1 _ ?_).mono ?_; exact hT.below (by repeat (first | exact Below.refl _ _ | refine Below.drew ?_ | refine Below.alloc ?_ (Nat.le_refl _) _)) hsz; rintro e _ ⟨rfl, rfl⟩)
  all_goals go_wp2
  all_goals go_ret
  all_goals
    refine ⟨ret_str ?_, (((Below.refl _ _).alloc (Nat.le_refl _) _).drew)⟩
    rw [numI_1 h0 h1, (or_at _ (by omega) (by omega)).2.2.2]

theorem mk2 (w : World) : (Instr.makeSlice 92 (.int .i64 2) (.int .i64 2)).run Tryz.prog w = .ok (.slice (some ⟨w.heap.size, 0, none⟩) 2 2) (w.alloc (.cells #[.int .u8 0, .int .u8 0] 5)) := by kernel_rfl
theorem cv2 (w : World) (a b : Int) : (convert 92 9 (.slice (some ⟨w.heap.size, 0, none⟩) 2 2)).run Tryz.prog (w.alloc (.cells #[.int .u8 a, .int .u8 b] 5)).drew = .ok (.string (strOfNums [a, b])) (w.alloc (.cells #[.int .u8 a, .int .u8 b] 5)).drew :=
  cv_any w [a, b] 2 rfl _ rfl
set_option maxHeartbeats 800000 in
theorem num_2 (n : Int) (w : World) (h0 : 64 ≤ n) (h1 : n < 16384) (hT : Tab w) :
    Calls Tryz.prog 104 #[.int .i64 n] w fun e w' => e = .returned (.string (strOfNums (numI n))) ∧ Below w.heap.size w w' := by
  have hm := mk2
  have hcv := cv2
  have hsz := hT.size
  go_enter Tryz.func104, Tryz.ntmps104
  go_wp2_with (go_at_call 147; refine (size_any _ _).mono ?_; rw [qsize_2 h0 h1]; rintro e _ ⟨rfl, rfl⟩)
  refine wp_loop_rounds 3 ?_
  rw [rounds_succ]
  go_wp2
  rw [rounds_succ]
  go_wp2
  rw [rounds_succ]
  go_wp2
  go_region_with (go_at_call 151; refine (tz_2 _ ?_).mono ?_; exact hT.below (by repeat (first | exact Below.refl _ _ | refine Below.drew ?_ | refine Below.alloc ?_ (Nat.le_refl _) _)) hsz; rintro e _ ⟨rfl, rfl⟩)
  all_goals go_wp2
  all_goals go_ret
  all_goals
    refine ⟨ret_str ?_, (((Below.refl _ _).alloc (Nat.le_refl _) _).drew)⟩
    rw [numI_2 h0 h1, (or_at _ (by omega) (by omega)).1]

theorem mk4 (w : World) : (Instr.makeSlice 92 (.int .i64 4) (.int .i64 4)).run Tryz.prog w = .ok (.slice (some ⟨w.heap.size, 0, none⟩) 4 4) (w.alloc (.cells #[.int .u8 0, .int .u8 0, .int .u8 0, .int .u8 0] 5)) := by kernel_rfl
theorem cv4 (w : World) (a b c d : Int) : (convert 92 9 (.slice (some ⟨w.heap.size, 0, none⟩) 4 4)).run Tryz.prog (w.alloc (.cells #[.int .u8 a, .int .u8 b, .int .u8 c, .int .u8 d] 5)).drew = .ok (.string (strOfNums [a, b, c, d])) (w.alloc (.cells #[.int .u8 a, .int .u8 b, .int .u8 c, .int .u8 d] 5)).drew :=
  cv_any w [a, b, c, d] 4 rfl _ rfl
set_option maxHeartbeats 800000 in
theorem num_4 (n : Int) (w : World) (h0 : 16384 ≤ n) (h1 : n < 1073741824) (hT : Tab w) :
    Calls Tryz.prog 104 #[.int .i64 n] w fun e w' => e = .returned (.string (strOfNums (numI n))) ∧ Below w.heap.size w w' := by
  have hm := mk4
  have hcv := cv4
  have hsz := hT.size
  go_enter Tryz.func104, Tryz.ntmps104
  go_wp2_with (go_at_call 147; refine (size_any _ _).mono ?_; rw [qsize_4 h0 h1]; rintro e _ ⟨rfl, rfl⟩)
  refine wp_loop_rounds 5 ?_
  rw [rounds_succ]
  go_wp2
  rw [rounds_succ]
  go_wp2
  rw [rounds_succ]
  go_wp2
  rw [rounds_succ]
  go_wp2
  rw [rounds_succ]
  go_wp2
  go_region_with (go_at_call 151; refine (tz_4 _ ?_).mono ?_; exact hT.below (by repeat (first | exact Below.refl _ _ | refine Below.drew ?_ | refine Below.alloc ?_ (Nat.le_refl _) _)) hsz; rintro e _ ⟨rfl, rfl⟩)
  all_goals go_wp2
  all_goals go_ret
  all_goals
    refine ⟨ret_str ?_, (((Below.refl _ _).alloc (Nat.le_refl _) _).drew)⟩
    rw [numI_4 h0 h1, (or_at _ (by omega) (by omega)).2.1]
    all_goals (simp only [List.cons.injEq, and_true]; omega)

theorem mk8 (w : World) : (Instr.makeSlice 92 (.int .i64 8) (.int .i64 8)).run Tryz.prog w = .ok (.slice (some ⟨w.heap.size, 0, none⟩) 8 8) (w.alloc (.cells #[.int .u8 0, .int .u8 0, .int .u8 0, .int .u8 0, .int .u8 0, .int .u8 0, .int .u8 0, .int .u8 0] 5)) := by kernel_rfl
theorem cv8 (w : World) (a b c d e f g h : Int) : (convert 92 9 (.slice (some ⟨w.heap.size, 0, none⟩) 8 8)).run Tryz.prog (w.alloc (.cells #[.int .u8 a, .int .u8 b, .int .u8 c, .int .u8 d, .int .u8 e, .int .u8 f, .int .u8 g, .int .u8 h] 5)).drew = .ok (.string (strOfNums [a, b, c, d, e, f, g, h])) (w.alloc (.cells #[.int .u8 a, .int .u8 b, .int .u8 c, .int .u8 d, .int .u8 e, .int .u8 f, .int .u8 g, .int .u8 h] 5)).drew :=
  cv_any w [a, b, c, d, e, f, g, h] 8 rfl _ rfl
set_option maxHeartbeats 800000 in
theorem num_8 (n : Int) (w : World) (h0 : 1073741824 ≤ n) (h1 : n ≤ 4611686018427387903) (hT : Tab w) :
    Calls Tryz.prog 104 #[.int .i64 n] w fun e w' => e = .returned (.string (strOfNums (numI n))) ∧ Below w.heap.size w w' := by
  have hm := mk8
  have hcv := cv8
  have hsz := hT.size
  go_enter Tryz.func104, Tryz.ntmps104
  go_wp2_with (go_at_call 147; refine (size_any _ _).mono ?_; rw [qsize_8 h0 h1]; rintro e _ ⟨rfl, rfl⟩)
  refine wp_loop_rounds 9 ?_
  rw [rounds_succ]
  go_wp2
  rw [rounds_succ]
  go_wp2
  rw [rounds_succ]
  go_wp2
  rw [rounds_succ]
  go_wp2
  rw [rounds_succ]
  go_wp2
  rw [rounds_succ]
  go_wp2
  rw [rounds_succ]
  go_wp2
  rw [rounds_succ]
  go_wp2
  rw [rounds_succ]
  go_wp2
  go_region_with (go_at_call 151; refine (tz_8 _ ?_).mono ?_; exact hT.below (by repeat (first | exact Below.refl _ _ | refine Below.drew ?_ | refine Below.alloc ?_ (Nat.le_refl _) _)) hsz; rintro e _ ⟨rfl, rfl⟩)
  all_goals go_wp2
  all_goals go_ret
  all_goals
    refine ⟨ret_str ?_, (((Below.refl _ _).alloc (Nat.le_refl _) _).drew)⟩
    rw [numI_8 h0 h1, (or_at _ (by omega) (by omega)).2.2.1]
    all_goals (simp only [List.cons.injEq, and_true]; omega)

set_option maxHeartbeats 400000 in
theorem num_0 (n : Int) (w : World) (h0 : n < 0 ∨ 4611686018427387903 < n) :
    Calls Tryz.prog 104 #[.int .i64 n] w fun e w' => e = .returned (.string (strOfNums (numI n))) ∧ Below w.heap.size w w' := by
  go_enter Tryz.func104, Tryz.ntmps104
  go_wp2_with (go_at_call 147; refine (size_any _ _).mono ?_; rw [qsize_0 h0]; rintro e _ ⟨rfl, rfl⟩)
  go_ret
  exact ⟨by rw [numI_0 h0]; rfl, Below.refl _ _⟩

/-- quic.Num: the bytes of every number. -/
theorem num_any (n : Int) (w : World) (hT : Tab w) :
    Calls Tryz.prog 104 #[.int .i64 n] w fun e w' => e = .returned (.string (strOfNums (numI n))) ∧ Below w.heap.size w w' := by
  by_cases h0 : n < 0 ∨ 4611686018427387903 < n
  · exact num_0 n w h0
  by_cases h1 : n < 64
  · exact num_1 n w (by omega) h1 hT
  by_cases h2 : n < 16384
  · exact num_2 n w (by omega) h2 hT
  by_cases h4 : n < 1073741824
  · exact num_4 n w (by omega) h4 hT
  · exact num_8 n w (by omega) (by omega) hT
end Go.Proofs.YtacpllmlpmllbaaGreatDoor.Q
/- quic.Get at the front of bytes: its walk. -/
namespace Go.Proofs.YtacpllmlpmllbaaGreatDoor.Q
open Go.RowKit

theorem toList_eq (s : ByteArray) : s.toList = s.data.toList := by
  exact ByteArray.toList_eq s
theorem isEmpty_of (s : ByteArray) (h : 0 < s.size) : s.toList.isEmpty = false := by
  rw [toList_eq]
  have h' : 0 < s.data.size := h
  cases hl : s.data.toList with
  | nil => have := congrArg List.length hl; simp at this; simp [this] at h'
  | cons a t => rfl
theorem isEmpty_to (s : ByteArray) (h : s.size = 0) : s.toList.isEmpty = true := by
  rw [toList_eq]
  have h' : s.data.size = 0 := h
  cases hl : s.data.toList with
  | nil => rfl
  | cons a t => have := congrArg List.length hl; simp [h'] at this

end Go.Proofs.YtacpllmlpmllbaaGreatDoor.Q
/- quic.Get at every text; the law's examples. -/
namespace Go.Proofs.YtacpllmlpmllbaaGreatDoor.Q
open Go.RowKit

end Go.Proofs.YtacpllmlpmllbaaGreatDoor.Q
/- quic.takeFlag, takeText, wholeOf, takeItem: one item at the front of bytes. -/
namespace Go.Proofs.YtacpllmlpmllbaaGreatDoor.Q
open Go.RowKit

def tfE (s : ByteArray) : Int := if s.size = 0 then 7 else if 1 < bt s 0 then 3 else 0
def ttE (s : ByteArray) : Int := if getE s ≠ 0 then getE s else if 65536 < getV s then 2 else if ((getRest s).size : Int) < getV s then 7 else 0
def ttS (s : ByteArray) : ByteArray := if ttE s = 0 then (getRest s).extract 0 (getV s).toNat else ⟨#[]⟩
theorem size_extract (s : ByteArray) (a b : Nat) (h : b ≤ s.size) : (s.extract a b).size = b - a := by
  rw [ByteArray.size_extract]; omega
end Go.Proofs.YtacpllmlpmllbaaGreatDoor.Q
/- quic.takeItem: an item of a kind at the front of bytes. -/
namespace Go.Proofs.YtacpllmlpmllbaaGreatDoor.Q
open Go.RowKit

def tS (s : ByteArray) (k : Int) : ByteArray := if k = 4 then ttS s else ⟨#[]⟩
def tE (s : ByteArray) (k : Int) : Int := if k = 1 then getE s else if k = 2 then getE s else if k = 3 then tfE s else ttE s

end Go.Proofs.YtacpllmlpmllbaaGreatDoor.Q
/- The reference's Num, Whole, MayWhole: their walks. -/
namespace Go.Proofs.YtacpllmlpmllbaaGreatDoor.Q
open Go.RowKit

theorem info_u8 : (Tryz.prog.info? 5).map (fun i => (i.zero, i.size, i.bytes)) = some (some (.int .u8 0), 1, 1) := by kernel_rfl

/-- 'string(b)' of a row that the call owns, its first byte turned. -/
theorem cv_own0 (w : World) (g cap l : Nat) (ys xs : List Int) (hl : xs.length = l) (z : Int) (C : List Value) (hC : C = ys.map (Value.int .u8)) (hys : ∃ y t, ys = y :: t ∧ xs = z :: t) (hc : ∀ j u, C[j]? = some u → w.cell? ⟨g, j, none⟩ = some u) :
    (convert 92 9 (.slice (some ⟨g, 0, none⟩) l cap)).run Tryz.prog (w.setCell ⟨g, 0, none⟩ (.int .u8 z)) = .ok (.string (strOfNums xs)) (w.setCell ⟨g, 0, none⟩ (.int .u8 z)) := by
  obtain ⟨y, t, rfl, rfl⟩ := hys
  subst hC
  refine run_convert_bytes_arg _ 92 5 Tryz.underlying92 Tryz.underlying5 g 0 l cap (z :: t) hl ?_ 9 Tryz.underlying9
  intro i hi
  have hi' : i < (z :: t).length := by omega
  rw [Nat.zero_add]
  match i, hi' with
  | 0, _ =>
    rw [World.cell?_setCell_same _ _ _ (hc 0 (.int .u8 y) (by simp))]
    simp
  | k + 1, hk =>
    rw [World.cell?_setCell_other _ _ _ _ (by simp)]
    simp at hk
    rw [hc (k + 1) (.int .u8 (t.getD k 0)) (by simp [hk])]
    simp [hk]
theorem cv_own (w : World) (g cap l : Nat) (xs : List Int) (hl : xs.length = l) (hc : ∀ j u, (xs.map (Value.int .u8))[j]? = some u → w.cell? ⟨g, j, none⟩ = some u) :
    (convert 92 9 (.slice (some ⟨g, 0, none⟩) l cap)).run Tryz.prog w = .ok (.string (strOfNums xs)) w := by
  refine run_convert_bytes_arg _ 92 5 Tryz.underlying92 Tryz.underlying5 g 0 l cap xs hl ?_ 9 Tryz.underlying9
  intro i hi
  rw [Nat.zero_add]
  have : i < xs.length := by omega
  rw [hc i (.int .u8 (xs.getD i 0)) (by simp [this])]


set_option maxHeartbeats 1000000 in
theorem refNum_1 (n : Int) (w : World) (h0 : 0 ≤ n) (h1 : n < 64) :
    Calls Tryz.prog 58 #[.int .i64 n] w fun e w' => e = .returned (.string (strOfNums (numI n))) ∧ Below w.heap.size w w' := by
  obtain ⟨i0, hi, hz0, hz1, hz2⟩ := info_parts info_u8
  have hown0 := World.ownsRow_nil w w.heap.size 5 1
  have hb0 := Below.refl w.heap.size w
  go_enter Tryz.func58, Tryz.ntmps58
  go_wp2_with (go_at_call 106; refine (refSize_any _ _).mono ?_; rw [qsize_1 h0 h1]; rintro e _ ⟨rfl, rfl⟩)
  refine wp_loop_rounds 2 ?_
  rw [rounds_succ]
  go_wp2_with (at_builtin; refine wpl_app _ rfl (.tmp 14) (.tmp 22) 92 5 rfl i0 (.int .u8 0) 1 Tryz.underlying92 hi hz0 hz1 hz2 rfl _ _ _ _ rfl hown0 (.int .u8 _) rfl rfl (by omega) (by unfold maxLen; omega) hb0.size ?_; intro v1 w1 hown1 hb1' hne1; have hb1 := hb0.trans hb1'; clear hown0 hb0 hb1')
  obtain ⟨g, cap, rfl, hg, hcap, hcm, _, hcell, hfr⟩ := own_open hown1 (by omega)
  have hc0 := hcell 0 _ rfl
  have hf0 := hfr 0
  have hcv := cv_own w1 g cap 1 [n] rfl hcell
  clear hcell hfr hown1 hne1
  rw [rounds_succ]
  go_wp2
  go_ret
  exact ⟨ret_str (numI_1 h0 h1).symm, hb1⟩

set_option maxHeartbeats 1000000 in
theorem refNum_2 (n : Int) (w : World) (h0 : 64 ≤ n) (h1 : n < 16384) :
    Calls Tryz.prog 58 #[.int .i64 n] w fun e w' => e = .returned (.string (strOfNums (numI n))) ∧ Below w.heap.size w w' := by
  obtain ⟨i0, hi, hz0, hz1, hz2⟩ := info_parts info_u8
  have hown0 := World.ownsRow_nil w w.heap.size 5 1
  have hb0 := Below.refl w.heap.size w
  go_enter Tryz.func58, Tryz.ntmps58
  go_wp2_with (go_at_call 106; refine (refSize_any _ _).mono ?_; rw [qsize_2 h0 h1]; rintro e _ ⟨rfl, rfl⟩)
  refine wp_loop_rounds 3 ?_
  rw [rounds_succ]
  go_wp2_with (at_builtin; refine wpl_app _ rfl (.tmp 14) (.tmp 22) 92 5 rfl i0 (.int .u8 0) 1 Tryz.underlying92 hi hz0 hz1 hz2 rfl _ _ _ _ rfl hown0 (.int .u8 _) rfl rfl (by omega) (by unfold maxLen; omega) hb0.size ?_; intro v1 w1 hown1 hb1' hne1; have hb1 := hb0.trans hb1'; clear hown0 hb0 hb1')
  rw [rounds_succ]
  go_wp2_with (at_builtin; refine wpl_app _ rfl (.tmp 14) (.tmp 22) 92 5 rfl i0 (.int .u8 0) 1 Tryz.underlying92 hi hz0 hz1 hz2 rfl _ _ _ _ rfl hown1 (.int .u8 _) rfl rfl (by omega) (by unfold maxLen; omega) hb1.size ?_; intro v2 w2 hown2 hb2' hne2; have hb2 := hb1.trans hb2'; clear hown1 hb1 hb2')
  obtain ⟨g, cap, rfl, hg, hcap, hcm, _, hcell, hfr⟩ := own_open hown2 (by omega)
  have hc0 := hcell 0 _ rfl
  have hf0 := hfr 0
  have hcv := fun z => cv_own0 w2 g cap 2 [n / 256, n % 256] [z, n % 256] rfl z _ rfl ⟨_, _, rfl, rfl⟩ hcell
  clear hcell hfr hown2 hne1 hne2
  rw [rounds_succ]
  go_wp2
  go_ret
  refine ⟨ret_str ?_, hb2.setCell hg _⟩
  rw [numI_2 h0 h1]
  simp only [List.cons.injEq, and_true]
  omega

set_option maxHeartbeats 1000000 in
theorem refNum_4 (n : Int) (w : World) (h0 : 16384 ≤ n) (h1 : n < 1073741824) :
    Calls Tryz.prog 58 #[.int .i64 n] w fun e w' => e = .returned (.string (strOfNums (numI n))) ∧ Below w.heap.size w w' := by
  obtain ⟨i0, hi, hz0, hz1, hz2⟩ := info_parts info_u8
  have hown0 := World.ownsRow_nil w w.heap.size 5 1
  have hb0 := Below.refl w.heap.size w
  go_enter Tryz.func58, Tryz.ntmps58
  go_wp2_with (go_at_call 106; refine (refSize_any _ _).mono ?_; rw [qsize_4 h0 h1]; rintro e _ ⟨rfl, rfl⟩)
  refine wp_loop_rounds 5 ?_
  rw [rounds_succ]
  go_wp2_with (at_builtin; refine wpl_app _ rfl (.tmp 14) (.tmp 22) 92 5 rfl i0 (.int .u8 0) 1 Tryz.underlying92 hi hz0 hz1 hz2 rfl _ _ _ _ rfl hown0 (.int .u8 _) rfl rfl (by omega) (by unfold maxLen; omega) hb0.size ?_; intro v1 w1 hown1 hb1' hne1; have hb1 := hb0.trans hb1'; clear hown0 hb0 hb1')
  rw [rounds_succ]
  go_wp2_with (at_builtin; refine wpl_app _ rfl (.tmp 14) (.tmp 22) 92 5 rfl i0 (.int .u8 0) 1 Tryz.underlying92 hi hz0 hz1 hz2 rfl _ _ _ _ rfl hown1 (.int .u8 _) rfl rfl (by omega) (by unfold maxLen; omega) hb1.size ?_; intro v2 w2 hown2 hb2' hne2; have hb2 := hb1.trans hb2'; clear hown1 hb1 hb2')
  rw [rounds_succ]
  go_wp2_with (at_builtin; refine wpl_app _ rfl (.tmp 14) (.tmp 22) 92 5 rfl i0 (.int .u8 0) 1 Tryz.underlying92 hi hz0 hz1 hz2 rfl _ _ _ _ rfl hown2 (.int .u8 _) rfl rfl (by omega) (by unfold maxLen; omega) hb2.size ?_; intro v3 w3 hown3 hb3' hne3; have hb3 := hb2.trans hb3'; clear hown2 hb2 hb3')
  rw [rounds_succ]
  go_wp2_with (at_builtin; refine wpl_app _ rfl (.tmp 14) (.tmp 22) 92 5 rfl i0 (.int .u8 0) 1 Tryz.underlying92 hi hz0 hz1 hz2 rfl _ _ _ _ rfl hown3 (.int .u8 _) rfl rfl (by omega) (by unfold maxLen; omega) hb3.size ?_; intro v4 w4 hown4 hb4' hne4; have hb4 := hb3.trans hb4'; clear hown3 hb3 hb4')
  obtain ⟨g, cap, rfl, hg, hcap, hcm, _, hcell, hfr⟩ := own_open hown4 (by omega)
  have hc0 := hcell 0 _ rfl
  have hf0 := hfr 0
  have hcv := fun z => cv_own0 w4 g cap 4 [n / 16777216, n / 65536 % 256, n / 256 % 256, n % 256] [z, n / 65536 % 256, n / 256 % 256, n % 256] rfl z _ rfl ⟨_, _, rfl, rfl⟩ hcell
  clear hcell hfr hown4 hne1 hne2 hne3 hne4
  rw [rounds_succ]
  go_wp2
  go_ret
  refine ⟨ret_str ?_, hb4.setCell hg _⟩
  rw [numI_4 h0 h1]
  simp only [List.cons.injEq, and_true]
  omega

set_option maxHeartbeats 1000000 in
theorem refNum_8 (n : Int) (w : World) (h0 : 1073741824 ≤ n) (h1 : n ≤ 4611686018427387903) :
    Calls Tryz.prog 58 #[.int .i64 n] w fun e w' => e = .returned (.string (strOfNums (numI n))) ∧ Below w.heap.size w w' := by
  obtain ⟨i0, hi, hz0, hz1, hz2⟩ := info_parts info_u8
  have hown0 := World.ownsRow_nil w w.heap.size 5 1
  have hb0 := Below.refl w.heap.size w
  go_enter Tryz.func58, Tryz.ntmps58
  go_wp2_with (go_at_call 106; refine (refSize_any _ _).mono ?_; rw [qsize_8 h0 h1]; rintro e _ ⟨rfl, rfl⟩)
  refine wp_loop_rounds 9 ?_
  rw [rounds_succ]
  go_wp2_with (at_builtin; refine wpl_app _ rfl (.tmp 14) (.tmp 22) 92 5 rfl i0 (.int .u8 0) 1 Tryz.underlying92 hi hz0 hz1 hz2 rfl _ _ _ _ rfl hown0 (.int .u8 _) rfl rfl (by omega) (by unfold maxLen; omega) hb0.size ?_; intro v1 w1 hown1 hb1' hne1; have hb1 := hb0.trans hb1'; clear hown0 hb0 hb1')
  rw [rounds_succ]
  go_wp2_with (at_builtin; refine wpl_app _ rfl (.tmp 14) (.tmp 22) 92 5 rfl i0 (.int .u8 0) 1 Tryz.underlying92 hi hz0 hz1 hz2 rfl _ _ _ _ rfl hown1 (.int .u8 _) rfl rfl (by omega) (by unfold maxLen; omega) hb1.size ?_; intro v2 w2 hown2 hb2' hne2; have hb2 := hb1.trans hb2'; clear hown1 hb1 hb2')
  rw [rounds_succ]
  go_wp2_with (at_builtin; refine wpl_app _ rfl (.tmp 14) (.tmp 22) 92 5 rfl i0 (.int .u8 0) 1 Tryz.underlying92 hi hz0 hz1 hz2 rfl _ _ _ _ rfl hown2 (.int .u8 _) rfl rfl (by omega) (by unfold maxLen; omega) hb2.size ?_; intro v3 w3 hown3 hb3' hne3; have hb3 := hb2.trans hb3'; clear hown2 hb2 hb3')
  rw [rounds_succ]
  go_wp2_with (at_builtin; refine wpl_app _ rfl (.tmp 14) (.tmp 22) 92 5 rfl i0 (.int .u8 0) 1 Tryz.underlying92 hi hz0 hz1 hz2 rfl _ _ _ _ rfl hown3 (.int .u8 _) rfl rfl (by omega) (by unfold maxLen; omega) hb3.size ?_; intro v4 w4 hown4 hb4' hne4; have hb4 := hb3.trans hb4'; clear hown3 hb3 hb4')
  rw [rounds_succ]
  go_wp2_with (at_builtin; refine wpl_app _ rfl (.tmp 14) (.tmp 22) 92 5 rfl i0 (.int .u8 0) 1 Tryz.underlying92 hi hz0 hz1 hz2 rfl _ _ _ _ rfl hown4 (.int .u8 _) rfl rfl (by omega) (by unfold maxLen; omega) hb4.size ?_; intro v5 w5 hown5 hb5' hne5; have hb5 := hb4.trans hb5'; clear hown4 hb4 hb5')
  rw [rounds_succ]
  go_wp2_with (at_builtin; refine wpl_app _ rfl (.tmp 14) (.tmp 22) 92 5 rfl i0 (.int .u8 0) 1 Tryz.underlying92 hi hz0 hz1 hz2 rfl _ _ _ _ rfl hown5 (.int .u8 _) rfl rfl (by omega) (by unfold maxLen; omega) hb5.size ?_; intro v6 w6 hown6 hb6' hne6; have hb6 := hb5.trans hb6'; clear hown5 hb5 hb6')
  rw [rounds_succ]
  go_wp2_with (at_builtin; refine wpl_app _ rfl (.tmp 14) (.tmp 22) 92 5 rfl i0 (.int .u8 0) 1 Tryz.underlying92 hi hz0 hz1 hz2 rfl _ _ _ _ rfl hown6 (.int .u8 _) rfl rfl (by omega) (by unfold maxLen; omega) hb6.size ?_; intro v7 w7 hown7 hb7' hne7; have hb7 := hb6.trans hb7'; clear hown6 hb6 hb7')
  rw [rounds_succ]
  go_wp2_with (at_builtin; refine wpl_app _ rfl (.tmp 14) (.tmp 22) 92 5 rfl i0 (.int .u8 0) 1 Tryz.underlying92 hi hz0 hz1 hz2 rfl _ _ _ _ rfl hown7 (.int .u8 _) rfl rfl (by omega) (by unfold maxLen; omega) hb7.size ?_; intro v8 w8 hown8 hb8' hne8; have hb8 := hb7.trans hb8'; clear hown7 hb7 hb8')
  obtain ⟨g, cap, rfl, hg, hcap, hcm, _, hcell, hfr⟩ := own_open hown8 (by omega)
  have hc0 := hcell 0 _ rfl
  have hf0 := hfr 0
  have hcv := fun z => cv_own0 w8 g cap 8 [n / 72057594037927936, n / 281474976710656 % 256, n / 1099511627776 % 256, n / 4294967296 % 256, n / 16777216 % 256, n / 65536 % 256, n / 256 % 256, n % 256] [z, n / 281474976710656 % 256, n / 1099511627776 % 256, n / 4294967296 % 256, n / 16777216 % 256, n / 65536 % 256, n / 256 % 256, n % 256] rfl z _ rfl ⟨_, _, rfl, rfl⟩ hcell
  clear hcell hfr hown8 hne1 hne2 hne3 hne4 hne5 hne6 hne7 hne8
  rw [rounds_succ]
  go_wp2
  go_ret
  refine ⟨ret_str ?_, hb8.setCell hg _⟩
  rw [numI_8 h0 h1]
  simp only [List.cons.injEq, and_true]
  omega

set_option maxHeartbeats 400000 in
theorem refNum_0 (n : Int) (w : World) (h0 : n < 0 ∨ 4611686018427387903 < n) :
    Calls Tryz.prog 58 #[.int .i64 n] w fun e w' => e = .returned (.string (strOfNums (numI n))) ∧ Below w.heap.size w w' := by
  have hcv := fun w => run_convert_bytes_nil (P := Tryz.prog) w 92 5 Tryz.underlying92 Tryz.underlying5 0 0 9 Tryz.underlying9
  go_enter Tryz.func58, Tryz.ntmps58
  go_wp2_with (go_at_call 106; refine (refSize_any _ _).mono ?_; rw [qsize_0 h0]; rintro e _ ⟨rfl, rfl⟩)
  refine wp_loop_rounds 1 ?_
  rw [rounds_succ]
  go_wp2
  go_ret
  exact ⟨by rw [numI_0 h0]; rfl, Below.refl _ _⟩

/-- The reference's Num: the bytes of every number. -/
theorem refNum_any (n : Int) (w : World) :
    Calls Tryz.prog 58 #[.int .i64 n] w fun e w' => e = .returned (.string (strOfNums (numI n))) ∧ Below w.heap.size w w' := by
  by_cases h0 : n < 0 ∨ 4611686018427387903 < n
  · exact refNum_0 n w h0
  by_cases h1 : n < 64
  · exact refNum_1 n w (by omega) h1
  by_cases h2 : n < 16384
  · exact refNum_2 n w (by omega) h2
  by_cases h4 : n < 1073741824
  · exact refNum_4 n w (by omega) h4
  · exact refNum_8 n w (by omega) (by omega)

/-- A whole number's own number: what is written for it. -/
def zig (z : Int) : Int := if z < -2305843009213693952 ∨ 2305843009213693951 < z then -1 else if z < 0 then -2 * z - 1 else 2 * z

theorem zig_no {z : Int} (h : z < -2305843009213693952 ∨ 2305843009213693951 < z) : numI (zig z) = [] := by unfold zig; rw [if_pos h]; exact numI_0 (by omega)
theorem zig_neg {z : Int} (h : -2305843009213693952 ≤ z) (h1 : z < 0) : zig z = -2 * z - 1 := by unfold zig; rw [if_neg (by omega), if_pos h1]
theorem zig_pos {z : Int} (h : 0 ≤ z) (h1 : z ≤ 2305843009213693951) : zig z = 2 * z := by unfold zig; rw [if_neg (by omega), if_neg (by omega)]
set_option maxHeartbeats 400000 in
theorem whole_any (z : Int) (w : World) (hT : Tab w) :
    Calls Tryz.prog 149 #[.int .i64 z] w fun e w' => e = .returned (.string (strOfNums (numI (zig z)))) ∧ Below w.heap.size w w' := by
  by_cases h0 : z < -2305843009213693952 ∨ 2305843009213693951 < z
  · have hz : Hid (numI (zig z) = []) := zig_no h0
    rcases h0 with h0 | h0
    · go_enter Tryz.func149, Tryz.ntmps149
      go_wp2_with (first | (go_at_call 104; refine (num_any _ _ hT).mono ?_; rintro e w' ⟨rfl, hb⟩) | go_in)
      go_ret
      exact ⟨by rw [hz.out]; rfl, Below.refl _ _⟩
    · have h0' : -2305843009213693952 ≤ z := by omega
      have h0'' : (!decide (z ≤ 2305843009213693951)) = true := by simp; omega
      go_enter Tryz.func149, Tryz.ntmps149
      go_wp2_with (first | (go_at_call 104; refine (num_any _ _ hT).mono ?_; rintro e w' ⟨rfl, hb⟩) | go_in)
      go_ret
      exact ⟨by rw [hz.out]; rfl, Below.refl _ _⟩
  · have ha : -2305843009213693952 ≤ z := by omega
    have hzb : z ≤ 2305843009213693951 := by omega
    clear h0
    by_cases h1 : z < 0
    · go_enter Tryz.func149, Tryz.ntmps149
      go_wp2_with (first | (go_at_call 104; refine (num_any _ _ hT).mono ?_; rintro e w' ⟨rfl, hb⟩) | go_in)
      go_ret
      exact ⟨ret_str (congrArg numI (by have e := zig_neg ha h1; omega)), by assumption⟩
    · go_enter Tryz.func149, Tryz.ntmps149
      go_wp2_with (first | (go_at_call 104; refine (num_any _ _ hT).mono ?_; rintro e w' ⟨rfl, hb⟩) | go_in)
      go_ret
      exact ⟨ret_str (congrArg numI (by have e := zig_pos (by omega) hzb; omega)), by assumption⟩
set_option maxHeartbeats 400000 in
theorem refWhole_any (z : Int) (w : World) :
    Calls Tryz.prog 153 #[.int .i64 z] w fun e w' => e = .returned (.string (strOfNums (numI (zig z)))) ∧ Below w.heap.size w w' := by
  by_cases h0 : z < -2305843009213693952 ∨ 2305843009213693951 < z
  · have hz : Hid (numI (zig z) = []) := zig_no h0
    rcases h0 with h0 | h0
    · go_enter Tryz.func153, Tryz.ntmps153
      go_wp2_with (first | (go_at_call 58; refine (refNum_any _ _).mono ?_; rintro e w' ⟨rfl, hb⟩) | go_in)
      go_ret
      exact ⟨by rw [hz.out]; rfl, Below.refl _ _⟩
    · have h0' : -2305843009213693952 ≤ z := by omega
      have h0'' : (!decide (z ≤ 2305843009213693951)) = true := by simp; omega
      go_enter Tryz.func153, Tryz.ntmps153
      go_wp2_with (first | (go_at_call 58; refine (refNum_any _ _).mono ?_; rintro e w' ⟨rfl, hb⟩) | go_in)
      go_ret
      exact ⟨by rw [hz.out]; rfl, Below.refl _ _⟩
  · have ha : -2305843009213693952 ≤ z := by omega
    have hzb : z ≤ 2305843009213693951 := by omega
    clear h0
    by_cases h1 : z < 0
    · go_enter Tryz.func153, Tryz.ntmps153
      go_wp2_with (first | (go_at_call 58; refine (refNum_any _ _).mono ?_; rintro e w' ⟨rfl, hb⟩) | go_in)
      go_ret
      exact ⟨ret_str (congrArg numI (by have e := zig_neg ha h1; omega)), by assumption⟩
    · go_enter Tryz.func153, Tryz.ntmps153
      go_wp2_with (first | (go_at_call 58; refine (refNum_any _ _).mono ?_; rintro e w' ⟨rfl, hb⟩) | go_in)
      go_ret
      exact ⟨ret_str (congrArg numI (by have e := zig_pos (by omega) hzb; omega)), by assumption⟩
end Go.Proofs.YtacpllmlpmllbaaGreatDoor.Q
/- A strings.Builder that the call itself has made: copyCheck, WriteByte, WriteString at this program. -/
namespace Go.Proofs.YtacpllmlpmllbaaGreatDoor.Q
open Go.RowKit

theorem bSize : (Tryz.prog.info? 94).map (·.size) = some 2 := by kernel_rfl
theorem bLies : liesAt Tryz.prog Tryz.prog.depth 94 (2 / Tryz.prog.cellsOf 94) 0 94 1 = true := by kernel_rfl

set_option maxRecDepth 100000 in
set_option maxHeartbeats 1000000 in
theorem copyCheck_used (b : Nat) (w : World) (h0 : w.cell? ⟨b, 0, none⟩ = some (.pointer (some ⟨b, 0, none⟩))) :
    Calls Tryz.prog 95 #[.pointer (some ⟨b, 0, none⟩)] w fun e w' => e = .returned (.tuple #[]) ∧ w' = w := by
  obtain ⟨j, hj, _⟩ := Option.map_eq_some_iff.1 bSize
  go_enter Tryz.func95, Tryz.ntmps95
  go_wp2
  rw [Lib.run_neq_ptr_same w _ Tryz.underlying91 hj]
  go_wp2
  go_end0
  exact ⟨rfl, rfl⟩

set_option maxRecDepth 100000 in
set_option maxHeartbeats 1000000 in
theorem copyCheck_fresh (b : Nat) (w : World) (h0 : w.cell? ⟨b, 0, none⟩ = some (.pointer none)) (hsh : w.shape? b = some (94, 2)) (hfz : w.frozen? ⟨b, 0, none⟩ = false) :
    Calls Tryz.prog 95 #[.pointer (some ⟨b, 0, none⟩)] w fun e w' => e = .returned (.tuple #[]) ∧ w' = w.setCell ⟨b, 0, none⟩ (.pointer (some ⟨b, 0, none⟩)) := by
  obtain ⟨j, hj, hjs⟩ := Option.map_eq_some_iff.1 bSize
  go_enter Tryz.func95, Tryz.ntmps95
  go_wp2
  rw [Lib.run_to_unsafe w ⟨b, 0, none⟩ Tryz.underlying91 Tryz.underlying179 hj (by rw [hjs]; decide) hsh (Nat.zero_lt_succ 1)]
  simp only [Result.andThen]
  rw [Oper.upon_value]
  go_wp2
  rw [run_callFunc_extern Tryz.func143 (by kernel_rfl) (by kernel_rfl) (by kernel_rfl) (e := Extern.AbiNoEscape.same) (by kernel_rfl)]
  rw [Lib.run_noEscape]
  simp only [Result.andThen]
  rw [Oper.upon_value]
  go_wp2
  rw [Lib.run_from_unsafe w ⟨b, 0, none⟩ Tryz.underlying179 Tryz.underlying91 hj hsh bLies]
  simp only [Result.andThen]
  rw [Oper.upon_value]
  go_wp2
  go_end0
  exact ⟨rfl, rfl⟩

abbrev IsB (B b : Nat) (bs : List Value) (w : World) : Prop := Lib.IsBuilderF 94 5 B b bs w

theorem copyCheck_any (B b : Nat) (bs : List Value) (w : World) (h : IsB B b bs w) :
    Calls Tryz.prog 95 #[.pointer (some ⟨b, 0, none⟩)] w fun e w' => e = .returned (.tuple #[]) ∧ Lib.BuilderAtF 94 5 B b (.pointer (some ⟨b, 0, none⟩)) bs w' ∧ Below B w w' := by
  rcases h with h | h
  · refine (copyCheck_fresh b w h.cell0 h.shape h.frozen0).mono ?_
    rintro e w' ⟨rfl, rfl⟩
    exact ⟨rfl, h.used _, (Below.refl B w).setCell (p := ⟨b, 0, none⟩) h.1 _⟩
  · refine (copyCheck_used b w h.cell0).mono ?_
    rintro e w' ⟨rfl, rfl⟩
    exact ⟨rfl, h, Below.refl B _⟩

set_option maxRecDepth 100000 in
set_option maxHeartbeats 1000000 in
theorem writeByte_any (B b : Nat) (bs : List Value) (c : Int) (w : World) (h : IsB B b bs w) (hlen : bs.length + 1 ≤ 140737488355328) (hBw : B ≤ w.heap.size) :
    Calls Tryz.prog 145 #[.pointer (some ⟨b, 0, none⟩), .int .u8 c] w fun e w' => e = .returned .nilIface ∧ IsB B b (bs ++ [.int .u8 c]) w' ∧ Below B w w' := by
  obtain ⟨i0, hi, hz0, hz1, hz2⟩ := info_parts info_u8
  go_enter Tryz.func145, Tryz.ntmps145
  go_wp2_with (go_at_call 95; refine (copyCheck_any B b bs _ h).mono ?_)
  rintro e w1 ⟨rfl, h1, hb1⟩
  obtain ⟨hB, v, hbk, hown, hne⟩ := h1
  have c0 : w1.cell? ⟨b, 0, none⟩ = some (.pointer (some ⟨b, 0, none⟩)) := by rw [Lib.cell_of_heap hbk]; rfl
  have c1 : w1.cell? ⟨b, 1, none⟩ = some v := by rw [Lib.cell_of_heap hbk]; rfl
  go_wp2_with (at_builtin; refine wpList_append_ownF _ rfl _ _ 92 rfl B 5 i0 (.int .u8 0) 1 1 Tryz.underlying92 hi hz0 hz1 hz2 rfl (by decide) _ _ _ rfl (hown.alloc _) ⟨w1.heap.size, 0, none⟩ 1 1 [.int .u8 c] rfl rfl ?c1 ?c2 ?c3 ?c4 ?c5 ?_)
  case c1 =>
    intro j u hj
    match j, hj with
    | 0, hj => simp at hj; subst hj; simp [Addr.add]
  case c2 => intro u hu; simp at hu; subst hu; rfl
  case c3 => unfold maxLen; omega
  case c4 => omega
  case c5 => have := hb1.size; simp; omega
  intro v' w2 hown' hgrow _
  have hlt : b < w1.heap.size := (Array.getElem?_eq_some_iff.1 hbk).1
  have hb2 : w2.heap[b]? = some (.cells #[.pointer (some ⟨b, 0, none⟩), v] 94 (0, 0)) := by
    rw [hgrow.block b (by simp; omega) (fun e => hne e.symm), Lib.alloc_old w1 _ b hlt]
    exact hbk
  have d0 : w2.cell? ⟨b, 0, none⟩ = some (.pointer (some ⟨b, 0, none⟩)) := by rw [Lib.cell_of_heap hb2]; rfl
  have d1 : w2.cell? ⟨b, 1, none⟩ = some v := by rw [Lib.cell_of_heap hb2]; rfl
  have f1 : w2.frozen? ⟨b, 1, none⟩ = false := Lib.frozen_of_heap hb2 1
  obtain ⟨g, cap, rfl⟩ : ∃ g cap, v' = .slice (some ⟨g, 0, none⟩) (bs.length + 1) cap := by
    rcases hown'.2 with ⟨_, h0⟩ | ⟨g, cap, cur, fz, hv, _⟩
    · omega
    · exact ⟨g, cap, hv⟩
  go_wp2
  go_ret
  refine ⟨rfl, .inr ?_, ?_⟩
  · exact Lib.BuilderAtF.put (T := 94) (e := 5) hB hb2 (bs' := bs ++ [.int .u8 c]) (by simpa using hown') (by decide)
  · exact ((hb1.alloc (by have := hb1.size; omega) _).grown hgrow (by have := hb1.size; simp; omega) (fun k hk => (hown.lt k hk).1)).setCell (p := ⟨b, 1, none⟩) hB _

set_option maxRecDepth 100000 in
set_option maxHeartbeats 1000000 in
theorem writeString_any (B b : Nat) (bs : List Value) (s : ByteArray) (w : World) (h : IsB B b bs w) (hlen : bs.length + s.size ≤ 140737488355328) (hBw : B ≤ w.heap.size) :
    Calls Tryz.prog 52 #[.pointer (some ⟨b, 0, none⟩), .string s] w fun e w' => e = .returned (.tuple #[.int .i64 s.size, .nilIface]) ∧ IsB B b (bs ++ Lib.strCells s) w' ∧ Below B w w' := by
  obtain ⟨i0, hi, hz0, hz1, hz2⟩ := info_parts info_u8
  go_enter Tryz.func52, Tryz.ntmps52
  go_wp2_with (go_at_call 95; refine (copyCheck_any B b bs _ h).mono ?_)
  rintro e w1 ⟨rfl, h1, hb1⟩
  obtain ⟨hB, v, hbk, hown, hne⟩ := h1
  have c0 : w1.cell? ⟨b, 0, none⟩ = some (.pointer (some ⟨b, 0, none⟩)) := by rw [Lib.cell_of_heap hbk]; rfl
  have c1 : w1.cell? ⟨b, 1, none⟩ = some v := by rw [Lib.cell_of_heap hbk]; rfl
  go_wp2_with (at_builtin; refine Lib.wpList_append_own_stringF _ rfl _ _ 92 9 rfl B 5 i0 Tryz.underlying92 Tryz.underlying9 hi hz0 hz1 hz2 _ _ _ rfl hown s rfl ?c3 ?c4 ?c5 ?_)
  case c3 => unfold maxLen; omega
  case c4 => omega
  case c5 => have := hb1.size; omega
  intro v' w2 hown' hgrow _
  have hlt : b < w1.heap.size := (Array.getElem?_eq_some_iff.1 hbk).1
  have hb2 : w2.heap[b]? = some (.cells #[.pointer (some ⟨b, 0, none⟩), v] 94 (0, 0)) := by
    rw [hgrow.block b hlt (fun e => hne e.symm)]
    exact hbk
  have d0 : w2.cell? ⟨b, 0, none⟩ = some (.pointer (some ⟨b, 0, none⟩)) := by rw [Lib.cell_of_heap hb2]; rfl
  have d1 : w2.cell? ⟨b, 1, none⟩ = some v := by rw [Lib.cell_of_heap hb2]; rfl
  have f1 : w2.frozen? ⟨b, 1, none⟩ = false := Lib.frozen_of_heap hb2 1
  obtain ⟨ao, n', cap, rfl⟩ : ∃ ao n' cap, v' = .slice ao n' cap := by
    rcases hown'.2 with ⟨hv, _⟩ | ⟨g, cap, cur, fz, hv, _⟩
    · exact ⟨_, _, _, hv⟩
    · exact ⟨_, _, _, hv⟩
  go_wp2
  go_ret2
  refine ⟨rfl, .inr ?_, ?_⟩
  · exact Lib.BuilderAtF.put (T := 94) (e := 5) hB hb2 (bs' := bs ++ Lib.strCells s) (by simpa [Lib.strCells_length] using hown') (by decide)
  · exact (hb1.grown hgrow (by have := hb1.size; omega) (fun k hk => (hown.lt k hk).1)).setCell (p := ⟨b, 1, none⟩) hB _
end Go.Proofs.YtacpllmlpmllbaaGreatDoor.Q
