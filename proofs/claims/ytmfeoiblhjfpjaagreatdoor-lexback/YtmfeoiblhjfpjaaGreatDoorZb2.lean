/- The shelf's contracts that names need, at this program, laid by the shelf's tool in plain words. -/
import Derived.Shelf.Small.Strs
import Derived.Shelf.Unicode.ValidAny
import Derived.Shelf.Strings.Prefix
import Derived.Shelf.Unicode.DecodeAny
import Derived.Shelf.Small.Wraps
import Derived.Shelf.Strings.SlTrimAscii
import Derived.Shelf.Strings.Cut
import Derived.Test.YtmfeoiblhjfpjaaGreatDoorProg
import Derived.Test.YtmfeoiblhjfpjaaGreatDoorZb1
import Derived.Shelf.Strings.BuilderK
namespace Go.Proofs
open Go.Shelf
def Tryz.lays106_ren : Go.Shelf.Ren := ⟨fun | 106 => 46 | 213 => 67 | 265 => 81 | n => n, fun | 9 => 9 | 3 => 3 | n => n, fun | n => n⟩
theorem Tryz.lays106 : Go.Proofs.Lays.n106 Tryz.prog Tryz.lays106_ren := {
  mixed := by kernel_rfl
  f106 := Tryz.func46.trans (congrArg some (by kernel_rfl))
  f213 := Tryz.func67.trans (congrArg some (by kernel_rfl))
  f265 := Tryz.func81.trans (congrArg some (by kernel_rfl))
  t3 := Tryz.underlying3
  a3 := Tryz.isAgg3
  z3 := Tryz.sizeOf3
  v3 := Tryz.zeroValue3
  t9 := Tryz.underlying9
  a9 := Tryz.isAgg9
  z9 := Tryz.sizeOf9
  v9 := Tryz.zeroValue9 }
open Go.RowKit in
theorem Tryz.strings_Compare (a b : ByteArray) (w : World) :
    Calls Tryz.prog 46 #[.string a, .string b] w fun e w' => e = .returned (.int .i64 (Lib.compareBytes a.data.toList b.data.toList)) ∧ w' = w := Any.strings_Compare Tryz.lays106 a b w
def Tryz.lays196_ren : Go.Shelf.Ren := ⟨fun | 196 => 12 | 259 => 19 | n => n, fun | 9 => 9 | 4 => 4 | 3 => 3 | 5 => 5 | 12 => 12 | 119 => 53 | 0 => 0 | 46 => 57 | 139 => 56 | 138 => 55 | 53 => 74 | n => n, fun | 3 => 0 | 4 => 1 | n => n⟩
theorem Tryz.lays196 : Go.Proofs.Lays.n196 Tryz.prog Tryz.lays196_ren := {
  mixed := by kernel_rfl
  f196 := Tryz.func12.trans (congrArg some (by kernel_rfl))
  f259 := Tryz.func19.trans (congrArg some (by kernel_rfl))
  t0 := Tryz.underlying0
  a0 := Tryz.isAgg0
  z0 := Tryz.sizeOf0
  v0 := Tryz.zeroValue0
  t3 := Tryz.underlying3
  a3 := Tryz.isAgg3
  z3 := Tryz.sizeOf3
  v3 := Tryz.zeroValue3
  t4 := Tryz.underlying4
  a4 := Tryz.isAgg4
  z4 := Tryz.sizeOf4
  v4 := Tryz.zeroValue4
  t5 := Tryz.underlying5
  a5 := Tryz.isAgg5
  z5 := Tryz.sizeOf5
  v5 := Tryz.zeroValue5
  t9 := Tryz.underlying9
  a9 := Tryz.isAgg9
  z9 := Tryz.sizeOf9
  v9 := Tryz.zeroValue9
  t12 := Tryz.underlying12
  a12 := Tryz.isAgg12
  z12 := Tryz.sizeOf12
  v12 := Tryz.zeroValue12
  t46 := Tryz.underlying57
  a46 := Tryz.isAgg57
  z46 := Tryz.sizeOf57
  v46 := Tryz.zeroValue57
  t53 := Tryz.underlying74
  a53 := Tryz.isAgg74
  z53 := Tryz.sizeOf74
  v53 := Tryz.zeroValue74
  t119 := Tryz.underlying53
  a119 := Tryz.isAgg53
  z119 := Tryz.sizeOf53
  t138 := Tryz.underlying55
  a138 := Tryz.isAgg55
  z138 := Tryz.sizeOf55
  v138 := Tryz.zeroValue55
  t139 := Tryz.underlying56
  a139 := Tryz.isAgg56
  z139 := Tryz.sizeOf56
  v139 := Tryz.zeroValue56
  g3 := by kernel_rfl
  g4 := by kernel_rfl }
open Go.RowKit in
theorem Tryz.utf8_ValidString (s : ByteArray) (w : World) (hs : s.size ≤ 9223372036854775807) (hT : Lib.Utf8Tabs 0 1 w) :
    Calls Tryz.prog 12 #[.string s] w fun e w' => e = .returned (.bool (Lib.validD s.data.toList)) ∧ Below w.heap.size w w' := Any.utf8_ValidString Tryz.lays196 s w hs hT
def Tryz.lays99_ren : Go.Shelf.Ren := ⟨fun | 99 => 30 | 206 => 48 | n => n, fun | 9 => 9 | 4 => 4 | 3 => 3 | n => n, fun | n => n⟩
theorem Tryz.lays99 : Go.Proofs.Lays.n99 Tryz.prog Tryz.lays99_ren := {
  mixed := by kernel_rfl
  f99 := Tryz.func30.trans (congrArg some (by kernel_rfl))
  f206 := Tryz.func48.trans (congrArg some (by kernel_rfl))
  t3 := Tryz.underlying3
  a3 := Tryz.isAgg3
  z3 := Tryz.sizeOf3
  v3 := Tryz.zeroValue3
  t4 := Tryz.underlying4
  a4 := Tryz.isAgg4
  z4 := Tryz.sizeOf4
  v4 := Tryz.zeroValue4
  t9 := Tryz.underlying9
  a9 := Tryz.isAgg9
  z9 := Tryz.sizeOf9
  v9 := Tryz.zeroValue9 }
open Go.RowKit in
theorem Tryz.strings_HasPrefix (s p : ByteArray) (w : World) :
    Calls Tryz.prog 30 #[.string s, .string p] w fun e w' => e = .returned (.bool (Lib.hasPrefix s.data.toList p.data.toList)) ∧ w' = w := Any.strings_HasPrefix Tryz.lays99 s p w
def Tryz.lays197_ren : Go.Shelf.Ren := ⟨fun | 197 => 36 | 260 => 57 | n => n, fun | 9 => 9 | 21 => 21 | 3 => 3 | 4 => 4 | 5 => 5 | 105 => 76 | 119 => 53 | 0 => 0 | 46 => 57 | 139 => 56 | 138 => 55 | n => n, fun | 3 => 0 | 4 => 1 | n => n⟩
theorem Tryz.lays197 : Go.Proofs.Lays.n197 Tryz.prog Tryz.lays197_ren := {
  mixed := by kernel_rfl
  f197 := Tryz.func36.trans (congrArg some (by kernel_rfl))
  f260 := Tryz.func57.trans (congrArg some (by kernel_rfl))
  t0 := Tryz.underlying0
  a0 := Tryz.isAgg0
  z0 := Tryz.sizeOf0
  v0 := Tryz.zeroValue0
  t3 := Tryz.underlying3
  a3 := Tryz.isAgg3
  z3 := Tryz.sizeOf3
  v3 := Tryz.zeroValue3
  t4 := Tryz.underlying4
  a4 := Tryz.isAgg4
  z4 := Tryz.sizeOf4
  v4 := Tryz.zeroValue4
  t5 := Tryz.underlying5
  a5 := Tryz.isAgg5
  z5 := Tryz.sizeOf5
  v5 := Tryz.zeroValue5
  t9 := Tryz.underlying9
  a9 := Tryz.isAgg9
  z9 := Tryz.sizeOf9
  v9 := Tryz.zeroValue9
  t21 := Tryz.underlying21
  a21 := Tryz.isAgg21
  z21 := Tryz.sizeOf21
  v21 := Tryz.zeroValue21
  t46 := Tryz.underlying57
  a46 := Tryz.isAgg57
  z46 := Tryz.sizeOf57
  v46 := Tryz.zeroValue57
  t105 := Tryz.underlying76
  a105 := Tryz.isAgg76
  z105 := Tryz.sizeOf76
  v105 := Tryz.zeroValue76
  t119 := Tryz.underlying53
  a119 := Tryz.isAgg53
  z119 := Tryz.sizeOf53
  t138 := Tryz.underlying55
  a138 := Tryz.isAgg55
  z138 := Tryz.sizeOf55
  v138 := Tryz.zeroValue55
  t139 := Tryz.underlying56
  a139 := Tryz.isAgg56
  z139 := Tryz.sizeOf56
  v139 := Tryz.zeroValue56
  g3 := by kernel_rfl
  g4 := by kernel_rfl }
open Go.RowKit in
theorem Tryz.utf8_DecodeRuneInString (s : ByteArray) (w : World) (hT : Lib.Utf8Tabs 0 1 w) :
    Calls Tryz.prog 36 #[.string s] w fun e w' => e = .returned (.tuple #[.int .i32 (Lib.decodeGo s).1, .int .i64 (Lib.decodeGo s).2]) ∧ Below w.heap.size w w' := Any.utf8_DecodeRuneInString Tryz.lays197 s w hT
def Tryz.lays103_ren : Go.Shelf.Ren := ⟨fun | 103 => 54 | 210 => 72 | 206 => 48 | n => n, fun | 9 => 9 | 4 => 4 | 24 => 88 | 3 => 3 | n => n, fun | n => n⟩
theorem Tryz.lays103 : Go.Proofs.Lays.n103 Tryz.prog Tryz.lays103_ren := {
  mixed := by kernel_rfl
  f103 := Tryz.func54.trans (congrArg some (by kernel_rfl))
  f206 := Tryz.func48.trans (congrArg some (by kernel_rfl))
  f210 := Tryz.func72.trans (congrArg some (by kernel_rfl))
  t3 := Tryz.underlying3
  a3 := Tryz.isAgg3
  z3 := Tryz.sizeOf3
  v3 := Tryz.zeroValue3
  t4 := Tryz.underlying4
  a4 := Tryz.isAgg4
  z4 := Tryz.sizeOf4
  v4 := Tryz.zeroValue4
  t9 := Tryz.underlying9
  a9 := Tryz.isAgg9
  z9 := Tryz.sizeOf9
  v9 := Tryz.zeroValue9
  t24 := Tryz.underlying88
  a24 := Tryz.isAgg88
  z24 := Tryz.sizeOf88
  v24 := Tryz.zeroValue88 }
open Go.RowKit in
theorem Tryz.strings_CutPrefix (s p : ByteArray) (w : World) :
    Calls Tryz.prog 54 #[.string s, .string p] w fun e w' => e = .returned (.tuple #[.string ⟨(Lib.trimPrefix s.data.toList p.data.toList).toArray⟩, .bool (Lib.hasPrefix s.data.toList p.data.toList)]) ∧ w' = w := Any.strings_CutPrefix Tryz.lays103 s p w
def Tryz.lays137_ren : Go.Shelf.Ren := ⟨fun | 137 => 37 | 217 => 58 | 266 => 77 | n => n, fun | 9 => 9 | 5 => 5 | 3 => 3 | n => n, fun | n => n⟩
theorem Tryz.lays137 : Go.Proofs.Lays.n137 Tryz.prog Tryz.lays137_ren := {
  mixed := by kernel_rfl
  f137 := Tryz.func37.trans (congrArg some (by kernel_rfl))
  f217 := Tryz.func58.trans (congrArg some (by kernel_rfl))
  f266 := Tryz.func77.trans (congrArg some (by kernel_rfl))
  t3 := Tryz.underlying3
  a3 := Tryz.isAgg3
  z3 := Tryz.sizeOf3
  v3 := Tryz.zeroValue3
  t5 := Tryz.underlying5
  a5 := Tryz.isAgg5
  z5 := Tryz.sizeOf5
  v5 := Tryz.zeroValue5
  t9 := Tryz.underlying9
  a9 := Tryz.isAgg9
  z9 := Tryz.sizeOf9
  v9 := Tryz.zeroValue9 }
open Go.RowKit in
theorem Tryz.strings_IndexByte (s : ByteArray) (c : Int) (w : World) :
    Calls Tryz.prog 37 #[.string s, .int .u8 c] w fun e w' => e = .returned (.int .i64 (Lib.indexByte s.data.toList c.toNat.toUInt8)) ∧ w' = w := Any.strings_IndexByte Tryz.lays137 s c w
def Tryz.lays161_ren : Go.Shelf.Ren := ⟨fun | 161 => 55 | 231 => 73 | 227 => 74 | 233 => 75 | 235 => 76 | 228 => 85 | 197 => 36 | 151 => 86 | 260 => 57 | 152 => 95 | 137 => 37 | 119 => 104 | 224 => 93 | 225 => 92 | 217 => 58 | 266 => 77 | n => n, fun | 9 => 9 | 4 => 4 | 3 => 3 | 5 => 5 | 117 => 105 | 116 => 104 | 0 => 0 | 124 => 108 | 105 => 76 | 21 => 21 | 119 => 53 | 46 => 57 | 139 => 56 | 138 => 55 | n => n, fun | 3 => 0 | 4 => 1 | n => n⟩
theorem Tryz.lays161 : Go.Proofs.Lays.n161 Tryz.prog Tryz.lays161_ren := {
  mixed := by kernel_rfl
  f119 := Tryz.func104.trans (congrArg some (by kernel_rfl))
  f137 := Tryz.func37.trans (congrArg some (by kernel_rfl))
  f151 := Tryz.func86.trans (congrArg some (by kernel_rfl))
  f152 := Tryz.func95.trans (congrArg some (by kernel_rfl))
  f161 := Tryz.func55.trans (congrArg some (by kernel_rfl))
  f197 := Tryz.func36.trans (congrArg some (by kernel_rfl))
  f217 := Tryz.func58.trans (congrArg some (by kernel_rfl))
  f224 := Tryz.func93.trans (congrArg some (by kernel_rfl))
  f225 := Tryz.func92.trans (congrArg some (by kernel_rfl))
  f227 := Tryz.func74.trans (congrArg some (by kernel_rfl))
  f228 := Tryz.func85.trans (congrArg some (by kernel_rfl))
  f231 := Tryz.func73.trans (congrArg some (by kernel_rfl))
  f233 := Tryz.func75.trans (congrArg some (by kernel_rfl))
  f235 := Tryz.func76.trans (congrArg some (by kernel_rfl))
  f260 := Tryz.func57.trans (congrArg some (by kernel_rfl))
  f266 := Tryz.func77.trans (congrArg some (by kernel_rfl))
  t0 := Tryz.underlying0
  a0 := Tryz.isAgg0
  z0 := Tryz.sizeOf0
  v0 := Tryz.zeroValue0
  t3 := Tryz.underlying3
  a3 := Tryz.isAgg3
  z3 := Tryz.sizeOf3
  v3 := Tryz.zeroValue3
  t4 := Tryz.underlying4
  a4 := Tryz.isAgg4
  z4 := Tryz.sizeOf4
  v4 := Tryz.zeroValue4
  t5 := Tryz.underlying5
  a5 := Tryz.isAgg5
  z5 := Tryz.sizeOf5
  v5 := Tryz.zeroValue5
  t9 := Tryz.underlying9
  a9 := Tryz.isAgg9
  z9 := Tryz.sizeOf9
  v9 := Tryz.zeroValue9
  t21 := Tryz.underlying21
  a21 := Tryz.isAgg21
  z21 := Tryz.sizeOf21
  v21 := Tryz.zeroValue21
  t46 := Tryz.underlying57
  a46 := Tryz.isAgg57
  z46 := Tryz.sizeOf57
  v46 := Tryz.zeroValue57
  t105 := Tryz.underlying76
  a105 := Tryz.isAgg76
  z105 := Tryz.sizeOf76
  v105 := Tryz.zeroValue76
  t116 := Tryz.underlying104
  a116 := Tryz.isAgg104
  z116 := Tryz.sizeOf104
  t117 := Tryz.underlying105
  a117 := Tryz.isAgg105
  z117 := Tryz.sizeOf105
  v117 := Tryz.zeroValue105
  t119 := Tryz.underlying53
  a119 := Tryz.isAgg53
  z119 := Tryz.sizeOf53
  t124 := Tryz.underlying108
  a124 := Tryz.isAgg108
  z124 := Tryz.sizeOf108
  v124 := Tryz.zeroValue108
  t138 := Tryz.underlying55
  a138 := Tryz.isAgg55
  z138 := Tryz.sizeOf55
  v138 := Tryz.zeroValue55
  t139 := Tryz.underlying56
  a139 := Tryz.isAgg56
  z139 := Tryz.sizeOf56
  v139 := Tryz.zeroValue56
  g3 := by kernel_rfl
  g4 := by kernel_rfl }
open Go.RowKit in
theorem Tryz.strings_TrimLeft (s cutset : ByteArray) (w : World) (hcs : cutset.size < 4294967281) (hascii : ∀ (j : Nat) b, cutset.data.toList[j]? = some b → b.toNat < 128) :
    Calls Tryz.prog 55 #[.string s, .string cutset] w fun e w' => e = .returned (.string ⟨(Lib.trimLeftS s.data.toList cutset.data.toList).toArray⟩) ∧ Below w.heap.size w w' := Any.strings_TrimLeft_laid Tryz.lays161 (by kernel_rfl) s cutset w hcs hascii
def Tryz.lays145_ren : Go.Shelf.Ren := ⟨fun | 145 => 52 | 220 => 71 | 219 => 84 | 217 => 58 | 225 => 92 | 224 => 93 | 267 => 94 | 266 => 77 | 314 => 103 | n => n, fun | 9 => 9 | 4 => 4 | 59 => 86 | 3 => 3 | 5 => 5 | 46 => 57 | 146 => 128 | 51 => 110 | n => n, fun | 1 => 2 | n => n⟩
theorem Tryz.lays145 : Go.Proofs.Lays.n145 Tryz.prog Tryz.lays145_ren := {
  mixed := by kernel_rfl
  f145 := Tryz.func52.trans (congrArg some (by kernel_rfl))
  f217 := Tryz.func58.trans (congrArg some (by kernel_rfl))
  f219 := Tryz.func84.trans (congrArg some (by kernel_rfl))
  f220 := Tryz.func71.trans (congrArg some (by kernel_rfl))
  f224 := Tryz.func93.trans (congrArg some (by kernel_rfl))
  f225 := Tryz.func92.trans (congrArg some (by kernel_rfl))
  f266 := Tryz.func77.trans (congrArg some (by kernel_rfl))
  f267 := Tryz.func94.trans (congrArg some (by kernel_rfl))
  f314 := Tryz.func103.trans (congrArg some (by kernel_rfl))
  t3 := Tryz.underlying3
  a3 := Tryz.isAgg3
  z3 := Tryz.sizeOf3
  v3 := Tryz.zeroValue3
  t4 := Tryz.underlying4
  a4 := Tryz.isAgg4
  z4 := Tryz.sizeOf4
  v4 := Tryz.zeroValue4
  t5 := Tryz.underlying5
  a5 := Tryz.isAgg5
  z5 := Tryz.sizeOf5
  v5 := Tryz.zeroValue5
  t9 := Tryz.underlying9
  a9 := Tryz.isAgg9
  z9 := Tryz.sizeOf9
  v9 := Tryz.zeroValue9
  t46 := Tryz.underlying57
  a46 := Tryz.isAgg57
  z46 := Tryz.sizeOf57
  v46 := Tryz.zeroValue57
  t51 := Tryz.underlying110
  a51 := Tryz.isAgg110
  z51 := Tryz.sizeOf110
  v51 := Tryz.zeroValue110
  t59 := Tryz.underlying86
  a59 := Tryz.isAgg86
  z59 := Tryz.sizeOf86
  v59 := Tryz.zeroValue86
  t146 := Tryz.underlying128
  a146 := Tryz.isAgg128
  z146 := Tryz.sizeOf128
  v146 := Tryz.zeroValue128
  g1 := by kernel_rfl }
open Go.RowKit in
theorem Tryz.strings_Cut (s sep : ByteArray) (m : Int) (w : World) (hs : s.size < 4294967281) (hm : w.cell? ⟨2, 0, none⟩ = some (.int .i64 m)) :
    Calls Tryz.prog 52 #[.string s, .string sep] w fun e w' => e = .returned (.tuple #[.string ⟨(Lib.cut s.data.toList sep.data.toList).1.toArray⟩, .string ⟨(Lib.cut s.data.toList sep.data.toList).2.1.toArray⟩, .bool (Lib.cut s.data.toList sep.data.toList).2.2]) ∧ ∃ n, w' = w.drewN n := Any.strings_Cut Tryz.lays145 s sep m w hs hm
end Go.Proofs
/- value.Check: its walk. -/
namespace Go.Proofs.YtmfeoiblhjfpjaaGreatDoor
open Go.RowKit

abbrev UT (w : World) : Prop := Lib.Utf8Tabs 0 1 w
/-- A value, as the model has it. -/
abbrev vv (k n : Int) (s : ByteArray) : Value := .agg #[.int .i64 k, .int .i64 n, .string s]
/-- May it be? -/
def chkV (k n : Int) (s : ByteArray) : Bool :=
  if k = 1 then decide (s.size = 0) && decide (-9007199254740991 ≤ n ∧ n ≤ 9007199254740991)
  else if k = 2 then decide (n = 0) && (decide (s.size ≤ 200) && Lib.validD s.data.toList)
  else if k = 3 then decide (s.size = 0) && decide (n = 0 ∨ n = 1)
  else if k = 4 then decide (n = 0) && decide (s.size ≤ 200)
  else false
theorem empty_is (B : ByteArray) (h : B.size = 0) : B.toList.isEmpty = true := by
  rw [ByteArray.toList_eq]
  have : B.data.toList = [] := List.eq_nil_of_length_eq_zero (by rw [Array.length_toList]; exact h)
  rw [this]; rfl
theorem empty_not (B : ByteArray) (h : B.size ≠ 0) : B.toList.isEmpty = false := by
  rw [ByteArray.toList_eq]
  cases e : B.data.toList with
  | nil => exact absurd (by have := congrArg List.length e; rwa [Array.length_toList] at this) h
  | cons b l => rfl
theorem empty_iff (B : ByteArray) : B.toList.isEmpty = decide (B.size = 0) := by
  by_cases h : B.size = 0
  · rw [empty_is B h, decide_eq_true h]
  · rw [empty_not B h, decide_eq_false h]

set_option maxRecDepth 100000 in
set_option maxHeartbeats 2000000 in
theorem check_any (k n : Int) (s : ByteArray) (w : World) (hs : s.size ≤ 140737488355328) (hT : UT w) :
    Calls Tryz.prog 38 #[vv k n s] w fun e w' => e = .returned (.bool (chkV k n s)) ∧ Below w.heap.size w w' := by
  obtain ⟨C, HC⟩ : ∃ C, Hid (chkV k n s = C) := ⟨_, rfl⟩
  rw [HC.out]
  have hb1 : Below w.heap.size w (w.alloc (.cells #[.int .i64 k, .int .i64 n, .string s] 28)) := (Below.refl _ _).alloc (Nat.le_refl _) _
  by_cases e1 : k = 1
  · subst e1
    have hc := HC.out
    simp only [chkV, if_true] at hc
    by_cases h0 : s.size = 0
    · have he := empty_is s h0
      by_cases ha : -9007199254740991 ≤ n
      · have ha' : decide (-9007199254740991 ≤ n) = true := by simpa using ha
        have HR : Hid (decide (n ≤ 9007199254740991) = C) := by show _ = _; rw [← hc, h0]; simp [ha]
        clear hc HC
        go_enter Tryz.func38, Tryz.ntmps38
        go_wp2
        go_ret
        exact ⟨by rw [← HR.out]; rfl, hb1⟩
      · have ha' : decide (-9007199254740991 ≤ n) = false := by simpa using ha
        have HR : Hid (false = C) := by show _ = _; rw [← hc, h0]; simp [ha]
        clear hc HC
        go_enter Tryz.func38, Tryz.ntmps38
        go_wp2
        go_ret
        exact ⟨by rw [← HR.out]; rfl, hb1⟩
    · have he := empty_not s h0
      have HR : Hid (false = C) := by show _ = _; rw [← hc]; simp [h0]
      clear hc HC
      go_enter Tryz.func38, Tryz.ntmps38
      go_wp2
      go_ret
      exact ⟨by rw [← HR.out]; rfl, hb1⟩
  have f1 : (k == 1) = false := by rw [beq_eq_false_iff_ne]; exact e1
  by_cases e2 : k = 2
  · subst e2
    have hc := HC.out
    simp only [chkV, e1, if_false, if_true] at hc
    by_cases h0 : n = 0
    · subst h0
      by_cases h2 : s.size ≤ 200
      · have h2' : decide ((s.size : Int) ≤ 200) = true := by simp; omega
        have HR : Hid (Lib.validD s.data.toList = C) := by show _ = _; rw [← hc]; simp [h2]
        clear hc HC e1
        go_enter Tryz.func38, Tryz.ntmps38
        go_wp2_with fail
        refine (Tryz.utf8_ValidString s _ (by omega) (Utf8Tabs_below hT hb1)).mono ?_
        rintro e w1 ⟨rfl, hb2⟩
        rw [HR.out]
        have hb3 : Hid (Below w.heap.size w w1) := hb1.trans (hb2.mono hb1.size)
        clear hb1 hb2
        go_wp2
        go_ret
        exact ⟨rfl, hb3.out⟩
      · have h2' : decide ((s.size : Int) ≤ 200) = false := by simp; omega
        have HR : Hid (false = C) := by show _ = _; rw [← hc]; simp [h2]
        clear hc HC e1
        go_enter Tryz.func38, Tryz.ntmps38
        go_wp2
        go_ret
        exact ⟨by rw [← HR.out]; rfl, hb1⟩
    · have h0' : (n == 0) = false := by rw [beq_eq_false_iff_ne]; exact h0
      have HR : Hid (false = C) := by show _ = _; rw [← hc]; simp [h0]
      clear hc HC e1
      go_enter Tryz.func38, Tryz.ntmps38
      go_wp2
      go_ret
      exact ⟨by rw [← HR.out]; rfl, hb1⟩
  have f2 : (k == 2) = false := by rw [beq_eq_false_iff_ne]; exact e2
  by_cases e3 : k = 3
  · subst e3
    have hc := HC.out
    simp only [chkV, e1, e2, if_false, if_true] at hc
    by_cases h0 : s.size = 0
    · have he := empty_is s h0
      by_cases hn : n = 0
      · subst hn
        have HR : Hid (true = C) := by show _ = _; rw [← hc, h0]; simp
        clear hc HC e1 e2
        go_enter Tryz.func38, Tryz.ntmps38
        go_wp2
        go_ret
        exact ⟨by rw [← HR.out]; rfl, hb1⟩
      · have hn' : (n == 0) = false := by rw [beq_eq_false_iff_ne]; exact hn
        have HR : Hid ((n == 1) = C) := by
          show _ = _
          rw [← hc, h0, Bool.eq_iff_iff]
          simp [hn]
        clear hc HC e1 e2
        go_enter Tryz.func38, Tryz.ntmps38
        go_wp2
        go_ret
        exact ⟨by rw [← HR.out]; rfl, hb1⟩
    · have he := empty_not s h0
      have HR : Hid (false = C) := by show _ = _; rw [← hc]; simp [h0]
      clear hc HC e1 e2
      go_enter Tryz.func38, Tryz.ntmps38
      go_wp2
      go_ret
      exact ⟨by rw [← HR.out]; rfl, hb1⟩
  have f3 : (k == 3) = false := by rw [beq_eq_false_iff_ne]; exact e3
  by_cases e4 : k = 4
  · subst e4
    have hc := HC.out
    simp only [chkV, e1, e2, e3, if_false, if_true] at hc
    by_cases h0 : n = 0
    · subst h0
      have HR : Hid (decide (s.size ≤ 200) = C) := by show _ = _; rw [← hc]; simp
      have HQ : Hid (decide ((s.size : Int) ≤ 200) = decide (s.size ≤ 200)) := by show _ = _; rw [Bool.eq_iff_iff]; simp; omega
      clear hc HC e1 e2 e3
      go_enter Tryz.func38, Tryz.ntmps38
      go_wp2
      go_ret
      exact ⟨by rw [← HR.out]; first | rfl | (rw [← HQ.out]; rfl), hb1⟩
    · have h0' : (n == 0) = false := by rw [beq_eq_false_iff_ne]; exact h0
      have HR : Hid (false = C) := by show _ = _; rw [← hc]; simp [h0]
      clear hc HC e1 e2 e3
      go_enter Tryz.func38, Tryz.ntmps38
      go_wp2
      go_ret
      exact ⟨by rw [← HR.out]; rfl, hb1⟩
  have f4 : (k == 4) = false := by rw [beq_eq_false_iff_ne]; exact e4
  have HR : Hid (false = C) := by show _ = _; rw [← HC.out, chkV, if_neg e1, if_neg e2, if_neg e3, if_neg e4]
  clear HC e1 e2 e3 e4
  go_enter Tryz.func38, Tryz.ntmps38
  go_wp2
  go_ret
  exact ⟨by rw [← HR.out]; rfl, hb1⟩
end Go.Proofs.YtmfeoiblhjfpjaaGreatDoor
/- The shelf contract of (*strings.Builder).String at this program, laid by the shelf tool in plain words. -/
namespace Go.Proofs
open Go.Shelf
def Tryz.lays169_ren : Go.Shelf.Ren := ⟨fun | 169 => 27 | n => n, fun | 70 => 62 | 9 => 9 | 0 => 0 | 72 => 65 | 37 => 63 | 127 => 83 | 3 => 3 | 5 => 5 | n => n, fun | n => n⟩
theorem Tryz.lays169 : Go.Proofs.Lays.n169 Tryz.prog Tryz.lays169_ren := {
  mixed := by kernel_rfl
  f169 := Tryz.func27.trans (congrArg some (by kernel_rfl))
  t0 := Tryz.underlying0
  a0 := Tryz.isAgg0
  z0 := Tryz.sizeOf0
  v0 := Tryz.zeroValue0
  t3 := Tryz.underlying3
  a3 := Tryz.isAgg3
  z3 := Tryz.sizeOf3
  v3 := Tryz.zeroValue3
  t9 := Tryz.underlying9
  a9 := Tryz.isAgg9
  z9 := Tryz.sizeOf9
  v9 := Tryz.zeroValue9
  t37 := Tryz.underlying63
  a37 := Tryz.isAgg63
  z37 := Tryz.sizeOf63
  v37 := Tryz.zeroValue63
  t70 := Tryz.underlying62
  a70 := Tryz.isAgg62
  z70 := Tryz.sizeOf62
  v70 := Tryz.zeroValue62
  t72 := Tryz.underlying65
  a72 := Tryz.isAgg65
  z72 := Tryz.sizeOf65
  v72 := Tryz.zeroValue65
  t127 := Tryz.underlying83
  a127 := Tryz.isAgg83
  z127 := Tryz.sizeOf83
  v127 := Tryz.zeroValue83 }
theorem Tryz.Builder_Extra_169 : Builder.Extra Tryz.prog Tryz.lays169_ren := {
  sizeBuilder := by kernel_rfl
  liesBuilder := by kernel_rfl
  t5 := Tryz.underlying5
  a5 := Tryz.isAgg5
  z5 := Tryz.sizeOf5
  v5 := Tryz.zeroValue5
  infoByte := by kernel_rfl
  cellsByte := by kernel_rfl
  sizeByte := by kernel_rfl
  neB5 := by decide }
open Go.RowKit in
theorem Tryz.Builder_String_any_k (B b : Nat) (l : List UInt8) (w : World) (h : Lib.IsBuilderF 65 5 B b (Lib.byteCells l) w) (hBw : B ≤ w.heap.size) :
    Calls Tryz.prog 27 #[.pointer (some ⟨b, 0, none⟩)] w fun e w' => e = .returned (.string ⟨l.toArray⟩) ∧ (Lib.IsBuilderF 65 5 B b (Lib.byteCells l) w' ∧ Below B w w' ∧ Lib.OthersKept 5 (some b) w w') := Any.Builder_String_any_k Tryz.lays169 Tryz.Builder_Extra_169 B b l w h hBw
end Go.Proofs
/- value.showText, and Show of a text: walks. -/
namespace Go.Proofs.YtmfeoiblhjfpjaaGreatDoor
open Go.RowKit

theorem grown_below {w w1 : World} (hb : Below w.heap.size w w1) : w.grownBy w1 none := ⟨hb.os, hb.tape, hb.output, hb.size, fun k hk _ => hb.block k hk⟩
theorem IsB_below {B b : Nat} {bs : List Value} {w w1 : World} (h : IsB B b bs w) (hb : Below w.heap.size w w1) : IsB B b bs w1 := by
  have key : ∀ p, Lib.BuilderAtF 65 5 B b p bs w → Lib.BuilderAtF 65 5 B b p bs w1 := by
    rintro p ⟨hB, v, hbk, hown, hne⟩
    exact ⟨hB, v, (hb.block b (Array.getElem?_eq_some_iff.1 hbk).1).trans hbk, hown.kept (grown_below hb) (by cases hv : v.ownBlock <;> simp), hne⟩
  exact h.elim (fun x => .inl (key _ x)) (fun x => .inr (key _ x))
theorem IsB_alloc {B b : Nat} {bs : List Value} {w : World} (h : IsB B b bs w) (o : Obj) : IsB B b bs (w.alloc o) :=
  h.elim (fun x => .inl (x.alloc o)) (fun x => .inr (x.alloc o))
theorem IsB_iter {B b : Nat} {bs : List Value} {w : World} (h : IsB B b bs w) {k : Nat} {s : ByteArray} {p : Nat} (hk : w.heap[k]? = some (.stringIter s p)) (p' : Nat) : IsB B b bs (w.iterAt k s p') := by
  have key : ∀ q, Lib.BuilderAtF 65 5 B b q bs w → Lib.BuilderAtF 65 5 B b q bs (w.iterAt k s p') := by
    rintro q ⟨hB, v, hbk, hown, hne⟩
    have hbne : b ≠ k := fun e => by rw [e, hk] at hbk; cases hbk
    refine ⟨hB, v, (Lib.iterAt_other w k b s p' hbne).trans hbk, hown.kept (row := some k) ⟨rfl, rfl, rfl, by rw [Lib.iterAt_size]; exact Nat.le_refl _, fun j _ hj => Lib.iterAt_other w k j s p' (fun e => hj (by rw [e]))⟩ ?_, hne⟩
    refine .inr fun e => ?_
    obtain ⟨c, fz, hc⟩ := rowF_cells hown k e
    rw [hk] at hc
    cases hc
  exact h.elim (fun x => .inl (key _ x)) (fun x => .inr (key _ x))
theorem iterPos_of {w : World} {k : Nat} {s : ByteArray} {p : Nat} (h : w.heap[k]? = some (.stringIter s p)) : w.iterPos k = p := by
  simp [World.iterPos, h]
theorem iter_kept {w w' : World} {b : Nat} (ok : Lib.OthersKept 5 (some b) w w') {k : Nat} {s : ByteArray} {p : Nat} (h : w.heap[k]? = some (.stringIter s p)) (hb : k ≠ b) : w'.heap[k]? = some (.stringIter s p) :=
  ok k _ h (fun e => hb (Option.some.inj e)) (fun c fz e => by cases e)
theorem IsB_ne {B b : Nat} {bs : List Value} {w : World} (h : IsB B b bs w) {k : Nat} {s : ByteArray} {p : Nat} (hk : w.heap[k]? = some (.stringIter s p)) : k ≠ b := by
  intro e
  subst e
  rcases h with ⟨_, v, hbk, _⟩ | ⟨_, v, hbk, _⟩
  · rw [hk] at hbk; cases hbk
  · rw [hk] at hbk; cases hbk

def okR (c : Nat) : Prop := c < 16 ∨ (32 ≤ c ∧ c ≠ 127)
def shows (l : List Nat) : List UInt8 := l.flatMap showR
theorem showR_len (c : Nat) : (showR c).length ≤ 5 := by
  unfold showR
  repeat' split
  all_goals first | decide | (simp) | (have := enc_len4 c; omega)
/-- What holds of showText's loop at every round. -/
def StRel (s : ByteArray) (w : World) (k0 : Nat) (wr : World) : Prop :=
  ∃ (pos : Nat) (acc : List UInt8), IsB w.heap.size w.heap.size (Lib.byteCells (34 :: acc)) wr ∧ wr.heap[k0]? = some (.stringIter s pos) ∧ Below w.heap.size w wr ∧ w.heap.size < wr.heap.size ∧ acc ++ shows (rns (s.data.toList.drop pos)) = shows (rns s.data.toList) ∧ acc.length ≤ 5 * pos ∧ (∀ c ∈ rns (s.data.toList.drop pos), okR c)
theorem cells_byte (l : List UInt8) (x : UInt8) : Lib.byteCells l ++ [Value.int .u8 (x.toNat : Int)] = Lib.byteCells (l ++ [x]) := by rw [Lib.byteCells_append]; rfl

set_option maxRecDepth 100000 in
set_option maxHeartbeats 4000000 in
theorem showText_any (s : ByteArray) (w : World) (hs : s.size ≤ 1000000) (hT : T16 w) (hok : ∀ c ∈ rns s.data.toList, okR c) :
    Calls Tryz.prog 42 #[.string s] w fun e w' => e = .returned (.string (str (34 :: shows (rns s.data.toList) ++ [34]))) ∧ Below w.heap.size w w' := by
  have HOK : Hid (∀ c ∈ rns s.data.toList, okR c) := hok
  clear hok
  go_enter Tryz.func42, Tryz.ntmps42
  go_wp2_with fail
  refine (writeByte_k w.heap.size w.heap.size [] 34 _ (Lib.IsBuilderF.of (Lib.fresh_isBuilder _ _ w)) (by simp) (by first | simp | omega | skip)).mono ?_
  rintro e w1 ⟨rfl, hI1, hb1, ok1⟩
  have hs1 := hb1.size
  have hs1' : w.heap.size < w1.heap.size := by first | omega | (simp at hs1; omega)
  have hB1 : Below w.heap.size w w1 := ((Below.refl _ _).alloc (Nat.le_refl _) _).trans hb1
  clear hb1 ok1 hs1
  go_wp2_with fail
  go_loopw [] (fun wr => StRel s w w1.heap.size wr) (fun wr => s.size - wr.iterPos w1.heap.size)
  case atStart =>
    exact ⟨0, [], IsB_alloc hI1 _, World.iter_heap w1 s 0, hB1.alloc (by omega) _, Nat.lt_of_lt_of_le hs1' ((Below.refl w1.heap.size w1).alloc (Nat.le_refl _) (.stringIter s 0)).size, rfl, Nat.le_refl _, HOK.out⟩
  case round =>
    obtain ⟨pos, acc, hI, hit, hbw, hws, hck, hal, hokr⟩ := hrel
    have HC : Hid (acc ++ shows (rns (s.data.toList.drop pos)) = shows (rns s.data.toList)) := hck
    have HOR : Hid (∀ c ∈ rns (s.data.toList.drop pos), okR c) := hokr
    clear hck hokr
    have hsz : w1.heap.size < wr.heap.size := (Array.getElem?_eq_some_iff.1 hit).1
    by_cases hp : pos < s.size
    · have hnx : ∀ ty, (Instr.next (.pointer (some ⟨w1.heap.size, 0, none⟩)) true ty).run Tryz.prog wr = _ := fun ty => Lib.run_next_any_at wr w1.heap.size s pos ty hit hp
      have hwd := Lib.decode_width_pos s pos hp
      have hit2 := Lib.iterAt_heap wr w1.heap.size s pos (pos + (Utf8.decode s pos).2) hit
      have hbw2 := Lib.below_iterAt hbw (k := w1.heap.size) (by omega) s (pos + (Utf8.decode s pos).2)
      have hI2 := IsB_iter hI hit (pos + (Utf8.decode s pos).2)
      have hszI : (wr.iterAt w1.heap.size s (pos + (Utf8.decode s pos).2)).heap.size = wr.heap.size := Lib.iterAt_size ..
      have hrl := Lib.rune_le s pos
      have hrn : Hid (rns (s.data.toList.drop pos) = (Utf8.decode s pos).1 :: rns (s.data.toList.drop (pos + (Utf8.decode s pos).2))) := rns_at s pos hp
      have hsc : Hid (scal (Utf8.decode s pos).1) := rns_scal (s.data.toList.drop pos) _ (by rw [hrn.out]; simp)
      have hmeas : Hid (s.size - (pos + (Utf8.decode s pos).2) < s.size - wr.iterPos w1.heap.size) := by
        show _ < _
        rw [iterPos_of hit]; omega
      have hwl : pos + (Utf8.decode s pos).2 ≤ s.size := by
        have hne : s.data.toList.drop pos ≠ [] := by
          intro e
          have := congrArg List.length e
          rw [List.length_drop, Array.length_toList] at this
          have e2 : s.data.size = s.size := rfl
          simp at this
          omega
        have h1 := Lib.decodeL_le _ hne
        rw [Lib.decodeL_drop, List.length_drop, Array.length_toList] at h1
        have e2 : s.data.size = s.size := rfl
        omega
      generalize (Utf8.decode s pos).1 = c at *
      generalize (Utf8.decode s pos).2 = d at *
      generalize hW : wr.iterAt w1.heap.size s (pos + d) = W at *
      have hcl := showR_len c
      have hcok := HOR.out c (by rw [hrn.out]; simp)
      have HOR2 : Hid (∀ x ∈ rns (s.data.toList.drop (pos + d)), okR x) := fun x hx => HOR.out x (by rw [hrn.out]; exact List.mem_cons_of_mem _ hx)
      have HC2 : Hid ((acc ++ showR c) ++ shows (rns (s.data.toList.drop (pos + d))) = shows (rns s.data.toList)) := by
        show _ = _; rw [← HC.out, hrn.out]; simp [shows]
      clear HC hrn hW hI hbw HOR
      go_wp2_with fail
      refine (showRune_any c _ hsc.out hcok (T16_below hT hbw2)).mono ?_
      rintro e w3 ⟨rfl, hb3⟩
      have hI3 := IsB_below hI2 hb3
      have hit3 := (hb3.block _ (Array.getElem?_eq_some_iff.1 hit2).1).trans hit2
      have hbw3 := hbw2.trans (hb3.mono (by omega))
      have hs3 := hb3.size
      have hzs : (str (showR c)).size ≤ 5 := by rw [str_size]; exact hcl
      clear hb3 hI2 hit2 hbw2
      go_wp2_with fail
      refine (writeString_k w.heap.size w.heap.size _ (str (showR c)) _ hI3 (by rw [Lib.byteCells_length, List.length_cons]; omega) (by omega)).mono ?_
      rintro e w4 ⟨rfl, hI4, hb4, ok4⟩
      have hit4 : Hid (w4.heap[w1.heap.size]? = some (.stringIter s (pos + d))) := iter_kept ok4 hit3 (IsB_ne hI3 hit3)
      have hmW : Hid (w4.iterPos w1.heap.size = pos + d) := iterPos_of hit4.out
      have HI : Hid (IsB w.heap.size w.heap.size (Lib.byteCells (34 :: (acc ++ showR c))) w4) := by
        rw [Lib.strCells_eq, str_data, ← Lib.byteCells_append, List.cons_append] at hI4
        exact hI4
      have HB : Hid (Below w.heap.size w w4) := hbw3.trans hb4
      have hs4 := hb4.size
      clear hI4 hb4 ok4 hI3 hit3 hbw3
      go_wp2
      go_roundw
      case rel => exact ⟨pos + d, acc ++ showR c, HI.out, hit4.out, HB.out, by omega, HC2.out, by rw [List.length_append]; omega, HOR2.out⟩
      case measure => rw [hmW.out]; exact hmeas.out
    · have hnx : ∀ ty, (Instr.next (.pointer (some ⟨w1.heap.size, 0, none⟩)) true ty).run Tryz.prog wr = _ := fun ty => Lib.run_next_end_at wr w1.heap.size s pos ty hit hp
      have HC2 : Hid (acc = shows (rns s.data.toList)) := by show _ = _; rw [← HC.out, rns_end s pos hp]; simp [shows]
      have hpl : acc.length ≤ 10000000 := by
        have h3 := rns_len_le s.data.toList.length s.data.toList
        have e : s.data.toList.length = s.size := Array.length_toList
        have h4 : (rns s.data.toList).length ≤ s.data.toList.length := h3
        have h5 : ∀ l : List Nat, (shows l).length ≤ 5 * l.length := by
          intro l
          induction l with
          | nil => simp [shows]
          | cons c l ih => have := showR_len c; simp only [shows, List.flatMap_cons, List.length_append, List.length_cons] at ih ⊢; omega
        have h6 := h5 (rns s.data.toList)
        rw [HC2.out]
        omega
      clear HC HOR
      go_wp2_with fail
      refine (writeByte_k w.heap.size w.heap.size _ 34 _ hI (by rw [Lib.byteCells_length, List.length_cons]; omega) (by omega)).mono ?_
      rintro e w3 ⟨rfl, hI3, hb3, ok3⟩
      have hs3 := hb3.size
      have hI4 : IsB w.heap.size w.heap.size (Lib.byteCells (34 :: acc ++ [34])) w3 := by
        have := cells_byte (34 :: acc) 34
        rw [← this]
        exact hI3
      have hB3 := hbw.trans hb3
      clear hI3 hb3 ok3
      go_wp2_with fail
      refine (Tryz.Builder_String_any_k w.heap.size w.heap.size (34 :: acc ++ [34]) _ hI4 (by omega)).mono ?_
      rintro e w4 ⟨rfl, hI5, hb5, ok5⟩
      have HB : Hid (Below w.heap.size w w4) := hB3.trans hb5
      clear hI5 hb5 ok5 hI4
      go_wp2
      go_ret
      refine ⟨?_, HB.out⟩
      rw [← HC2.out]
      rfl

set_option maxRecDepth 100000 in
set_option maxHeartbeats 1000000 in
theorem show_text (s : ByteArray) (w : World) (hc : chkV 2 0 s = true) (hT : T16 w) (hU : UT w) (hok : ∀ c ∈ rns s.data.toList, okR c) :
    Calls Tryz.prog 24 #[vv 2 0 s] w fun e w' => e = .returned (.string (str (34 :: shows (rns s.data.toList) ++ [34]))) ∧ Below w.heap.size w w' := by
  have hz : s.size ≤ 200 := by simp [chkV] at hc; omega
  have hb1 : Below w.heap.size w (w.alloc (.cells #[.int .i64 2, .int .i64 0, .string s] 28)) := (Below.refl _ _).alloc (Nat.le_refl _) _
  have HST : Hid (∀ w, T16 w → Calls Tryz.prog 42 #[.string s] w fun e w' => e = .returned (.string (str (34 :: shows (rns s.data.toList) ++ [34]))) ∧ Below w.heap.size w w') := fun w hT => showText_any s w (by omega) hT hok
  generalize str (34 :: shows (rns s.data.toList) ++ [34]) = R at *
  clear hok
  go_enter Tryz.func24, Tryz.ntmps24
  go_wp2_with fail
  refine (check_any 2 0 s _ (by omega) (Utf8Tabs_below hU hb1)).mono ?_
  rintro e w1 ⟨rfl, hb2⟩
  rw [hc]
  have c0 : w1.cell? ⟨w.heap.size, 0, none⟩ = some (.int .i64 2) := (hb2.cell (p := ⟨w.heap.size, 0, none⟩) (by simp)).trans (by simp)
  have c2 : w1.cell? ⟨w.heap.size, 2, none⟩ = some (.string s) := (hb2.cell (p := ⟨w.heap.size, 2, none⟩) (by simp)).trans (by simp)
  have hb3 := hb1.trans (hb2.mono hb1.size)
  clear hb1 hb2
  go_wp2_with fail
  refine (HST.out _ (T16_below hT hb3)).mono ?_
  rintro e w2 ⟨rfl, hb4⟩
  have hb5 : Hid (Below w.heap.size w w2) := hb3.trans (hb4.mono hb3.size)
  clear hb3 hb4
  go_wp2
  go_ret
  exact ⟨rfl, hb5.out⟩
end Go.Proofs.YtmfeoiblhjfpjaaGreatDoor
/- value.showBytes: its walk. -/
namespace Go.Proofs.YtmfeoiblhjfpjaaGreatDoor
open Go.RowKit

/-- A byte in two digits. -/
def hex2 (b : UInt8) : List UInt8 := [dg (b.toNat / 16), dg (b.toNat % 16)]
def hexs (l : List UInt8) : List UInt8 := l.flatMap hex2
theorem hexs_len (l : List UInt8) : (hexs l).length = 2 * l.length := by
  induction l with
  | nil => rfl
  | cons b l ih =>
    have e : hexs (b :: l) = hex2 b ++ hexs l := rfl
    have e2 : (hex2 b).length = 2 := rfl
    rw [e, List.length_append, ih, e2, List.length_cons]
    omega
abbrev HXb : ByteArray := ⟨#[48, 49, 50, 51, 52, 53, 54, 55, 56, 57, 97, 98, 99, 100, 101, 102]⟩
theorem hx_at : ∀ n : Fin 16, HXb[n.val]'(by have := n.isLt; show n.val < 16; omega) = dg n.val := by decide
theorem and15 : ∀ n : Fin 256, bits BinOp.and IntKind.u8 (n.val : Int) 15 = ((n.val % 16 : Nat) : Int) := by decide +kernel

set_option maxRecDepth 100000 in
set_option maxHeartbeats 4000000 in
theorem showBytes_any (s : ByteArray) (w : World) (hs : s.size ≤ 1000000) :
    Calls Tryz.prog 41 #[.string s] w fun e w' => e = .returned (.string (str (120 :: 39 :: hexs s.data.toList ++ [39]))) ∧ Below w.heap.size w w' := by
  go_enter Tryz.func41, Tryz.ntmps41
  go_wp2_with fail
  refine (writeString_k w.heap.size w.heap.size [] ⟨#[120, 39]⟩ _ (Lib.IsBuilderF.of (Lib.fresh_isBuilder _ _ w)) (by decide) (by first | simp | omega | skip)).mono ?_
  rintro e w1 ⟨rfl, hI1, hb1, ok1⟩
  have hs1 := hb1.size
  have hs1' : w.heap.size < w1.heap.size := by first | omega | (simp at hs1; omega)
  have hB1 : Below w.heap.size w w1 := ((Below.refl _ _).alloc (Nat.le_refl _) _).trans hb1
  clear hb1 ok1 hs1
  go_wp2_with fail
  go_loopw [8] (fun i wr => ∃ j : Nat, j ≤ s.size ∧ i = .int .i64 j ∧ IsB w.heap.size w.heap.size (Lib.byteCells (120 :: 39 :: hexs (s.data.toList.take j))) wr ∧ Below w.heap.size w wr ∧ w.heap.size < wr.heap.size) (fun i _ => s.size - (intOf i).toNat)
  case atStart => exact ⟨0, Nat.zero_le _, rfl, hI1, hB1, hs1'⟩
  case round =>
    obtain ⟨j, hj, rfl, hI, hbw, hws⟩ := hrel
    by_cases hlt : j < s.size
    · have hi : (j : Int) < s.size := by omega
      have hlen : (Lib.byteCells (120 :: 39 :: hexs (s.data.toList.take j))).length ≤ 2 * j + 2 := by
        rw [Lib.byteCells_length, List.length_cons, List.length_cons, hexs_len, List.length_take]
        omega
      have HT : Hid (s.data.toList.take (j + 1) = s.data.toList.take j ++ [s[j]]) := List.take_succ_eq_append_getElem (by rw [Array.length_toList]; exact hlt)
      generalize hc : s[j] = c at *
      have hn := c.toNat_lt
      have a15 : bits BinOp.and IntKind.u8 (c.toNat : Int) 15 = ((c.toNat % 16 : Nat) : Int) := and15 ⟨c.toNat, hn⟩
      have hx1 := hx_at ⟨c.toNat / 16, by omega⟩
      have hx2 := hx_at ⟨c.toNat % 16, by omega⟩
      go_wp2_with fail
      refine (writeByte_k w.heap.size w.heap.size _ _ _ hI (by omega) (by omega)).mono ?_
      rintro e w2 ⟨rfl, hI2, hb2, ok2⟩
      have hbw2 := hbw.trans hb2
      have hs2 := hb2.size
      clear hb2 ok2 hI hbw
      go_wp2_with fail
      refine (writeByte_k w.heap.size w.heap.size _ _ _ hI2 (by rw [List.length_append]; simp; omega) (by omega)).mono ?_
      rintro e w3 ⟨rfl, hI3, hb3, ok3⟩
      have HI : Hid (IsB w.heap.size w.heap.size (Lib.byteCells (120 :: 39 :: hexs (s.data.toList.take (j + 1)))) w3) := by
        show IsB _ _ _ _
        rw [cells_byte, cells_byte] at hI3
        rw [HT.out]
        simpa [hexs, hex2] using hI3
      have HB : Hid (Below w.heap.size w w3) := hbw2.trans hb3
      have hs3 := hb3.size
      have hs3' : w.heap.size < w3.heap.size := by omega
      clear hI3 hb3 ok3 hI2 hbw2
      go_wp2
      go_roundw
      case rel => exact ⟨j + 1, by omega, by go_num, HI.out, HB.out, hs3'⟩
      case measure => simp [intOf]; omega
    · have hj' : j = s.size := by omega
      subst hj'
      have hfull : s.data.toList.take s.size = s.data.toList := List.take_of_length_le (by rw [Array.length_toList]; exact Nat.le_refl _)
      rw [hfull] at hI
      have hlen : (Lib.byteCells (120 :: 39 :: hexs s.data.toList)).length = 2 * s.size + 2 := by
        rw [Lib.byteCells_length, List.length_cons, List.length_cons, hexs_len, Array.length_toList]
        rfl
      clear hfull
      go_wp2_with fail
      refine (writeByte_k w.heap.size w.heap.size _ _ _ hI (by omega) (by omega)).mono ?_
      rintro e w2 ⟨rfl, hI2, hb2, ok2⟩
      have hb5 := hbw.trans hb2
      rw [show (39 : Int) = (((39 : UInt8).toNat : Nat) : Int) from rfl, cells_byte] at hI2
      clear hb2 ok2 hI hbw
      go_wp2_with fail
      have hs2 : w.heap.size ≤ w2.heap.size := hb5.size
      refine (Tryz.Builder_String_any_k w.heap.size w.heap.size (120 :: 39 :: hexs s.data.toList ++ [39]) _ hI2 hs2).mono ?_
      rintro e w4 ⟨rfl, hI5, hb6, ok5⟩
      have HB : Hid (Below w.heap.size w w4) := hb5.trans hb6
      clear hI5 hb6 ok5 hI2 hb5
      go_wp2
      go_ret
      exact ⟨rfl, HB.out⟩
end Go.Proofs.YtmfeoiblhjfpjaaGreatDoor
