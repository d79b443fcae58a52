/- The shelf's contracts that names need, at this program, laid by the shelf's tool in plain words. -/
import Derived.Shelf.Small.Strs
import Derived.Shelf.Unicode.ValidAny
import Derived.Shelf.Strings.Prefix
import Derived.Shelf.Unicode.DecodeAny
import Derived.Shelf.Small.Wraps
import Derived.Shelf.Strings.SlTrimAscii
import Derived.Shelf.Strings.Cut
import Derived.Test.YtdendpckihckeaaDoorProg
import Derived.Test.YtdendpckihckeaaDoorZb1
import Derived.Shelf.Strings.BuilderK
import Derived.Lib.Strings
namespace Go.Proofs
open Go.Shelf
def Tryd.lays106_ren : Go.Shelf.Ren := ⟨fun | 106 => 29 | 213 => 45 | 265 => 59 | n => n, fun | 9 => 9 | 3 => 3 | n => n, fun | n => n⟩
theorem Tryd.lays106 : Go.Proofs.Lays.n106 Tryd.prog Tryd.lays106_ren := {
  mixed := by kernel_rfl
  f106 := Tryd.func29.trans (congrArg some (by kernel_rfl))
  f213 := Tryd.func45.trans (congrArg some (by kernel_rfl))
  f265 := Tryd.func59.trans (congrArg some (by kernel_rfl))
  t3 := Tryd.underlying3
  a3 := Tryd.isAgg3
  z3 := Tryd.sizeOf3
  v3 := Tryd.zeroValue3
  t9 := Tryd.underlying9
  a9 := Tryd.isAgg9
  z9 := Tryd.sizeOf9
  v9 := Tryd.zeroValue9 }
open Go.RowKit in
theorem Tryd.strings_Compare (a b : ByteArray) (w : World) :
    Calls Tryd.prog 29 #[.string a, .string b] w fun e w' => e = .returned (.int .i64 (Lib.compareBytes a.data.toList b.data.toList)) ∧ w' = w := Any.strings_Compare Tryd.lays106 a b w
def Tryd.lays196_ren : Go.Shelf.Ren := ⟨fun | 196 => 10 | 259 => 14 | n => n, fun | 9 => 9 | 4 => 4 | 3 => 3 | 5 => 5 | 12 => 12 | 119 => 46 | 0 => 0 | 46 => 50 | 139 => 49 | 138 => 48 | 53 => 55 | n => n, fun | 3 => 0 | 4 => 1 | n => n⟩
theorem Tryd.lays196 : Go.Proofs.Lays.n196 Tryd.prog Tryd.lays196_ren := {
  mixed := by kernel_rfl
  f196 := Tryd.func10.trans (congrArg some (by kernel_rfl))
  f259 := Tryd.func14.trans (congrArg some (by kernel_rfl))
  t0 := Tryd.underlying0
  a0 := Tryd.isAgg0
  z0 := Tryd.sizeOf0
  v0 := Tryd.zeroValue0
  t3 := Tryd.underlying3
  a3 := Tryd.isAgg3
  z3 := Tryd.sizeOf3
  v3 := Tryd.zeroValue3
  t4 := Tryd.underlying4
  a4 := Tryd.isAgg4
  z4 := Tryd.sizeOf4
  v4 := Tryd.zeroValue4
  t5 := Tryd.underlying5
  a5 := Tryd.isAgg5
  z5 := Tryd.sizeOf5
  v5 := Tryd.zeroValue5
  t9 := Tryd.underlying9
  a9 := Tryd.isAgg9
  z9 := Tryd.sizeOf9
  v9 := Tryd.zeroValue9
  t12 := Tryd.underlying12
  a12 := Tryd.isAgg12
  z12 := Tryd.sizeOf12
  v12 := Tryd.zeroValue12
  t46 := Tryd.underlying50
  a46 := Tryd.isAgg50
  z46 := Tryd.sizeOf50
  v46 := Tryd.zeroValue50
  t53 := Tryd.underlying55
  a53 := Tryd.isAgg55
  z53 := Tryd.sizeOf55
  v53 := Tryd.zeroValue55
  t119 := Tryd.underlying46
  a119 := Tryd.isAgg46
  z119 := Tryd.sizeOf46
  t138 := Tryd.underlying48
  a138 := Tryd.isAgg48
  z138 := Tryd.sizeOf48
  v138 := Tryd.zeroValue48
  t139 := Tryd.underlying49
  a139 := Tryd.isAgg49
  z139 := Tryd.sizeOf49
  v139 := Tryd.zeroValue49
  g3 := by kernel_rfl
  g4 := by kernel_rfl }
open Go.RowKit in
theorem Tryd.utf8_ValidString (s : ByteArray) (w : World) (hs : s.size ≤ 9223372036854775807) (hT : Lib.Utf8Tabs 0 1 w) :
    Calls Tryd.prog 10 #[.string s] w fun e w' => e = .returned (.bool (Lib.validD s.data.toList)) ∧ Below w.heap.size w w' := Any.utf8_ValidString Tryd.lays196 s w hs hT
def Tryd.lays99_ren : Go.Shelf.Ren := ⟨fun | 99 => 20 | 206 => 31 | n => n, fun | 9 => 9 | 4 => 4 | 3 => 3 | n => n, fun | n => n⟩
theorem Tryd.lays99 : Go.Proofs.Lays.n99 Tryd.prog Tryd.lays99_ren := {
  mixed := by kernel_rfl
  f99 := Tryd.func20.trans (congrArg some (by kernel_rfl))
  f206 := Tryd.func31.trans (congrArg some (by kernel_rfl))
  t3 := Tryd.underlying3
  a3 := Tryd.isAgg3
  z3 := Tryd.sizeOf3
  v3 := Tryd.zeroValue3
  t4 := Tryd.underlying4
  a4 := Tryd.isAgg4
  z4 := Tryd.sizeOf4
  v4 := Tryd.zeroValue4
  t9 := Tryd.underlying9
  a9 := Tryd.isAgg9
  z9 := Tryd.sizeOf9
  v9 := Tryd.zeroValue9 }
open Go.RowKit in
theorem Tryd.strings_HasPrefix (s p : ByteArray) (w : World) :
    Calls Tryd.prog 20 #[.string s, .string p] w fun e w' => e = .returned (.bool (Lib.hasPrefix s.data.toList p.data.toList)) ∧ w' = w := Any.strings_HasPrefix Tryd.lays99 s p w
def Tryd.lays197_ren : Go.Shelf.Ren := ⟨fun | 197 => 26 | 260 => 41 | n => n, fun | 9 => 9 | 21 => 21 | 3 => 3 | 4 => 4 | 5 => 5 | 105 => 57 | 119 => 46 | 0 => 0 | 46 => 50 | 139 => 49 | 138 => 48 | n => n, fun | 3 => 0 | 4 => 1 | n => n⟩
theorem Tryd.lays197 : Go.Proofs.Lays.n197 Tryd.prog Tryd.lays197_ren := {
  mixed := by kernel_rfl
  f197 := Tryd.func26.trans (congrArg some (by kernel_rfl))
  f260 := Tryd.func41.trans (congrArg some (by kernel_rfl))
  t0 := Tryd.underlying0
  a0 := Tryd.isAgg0
  z0 := Tryd.sizeOf0
  v0 := Tryd.zeroValue0
  t3 := Tryd.underlying3
  a3 := Tryd.isAgg3
  z3 := Tryd.sizeOf3
  v3 := Tryd.zeroValue3
  t4 := Tryd.underlying4
  a4 := Tryd.isAgg4
  z4 := Tryd.sizeOf4
  v4 := Tryd.zeroValue4
  t5 := Tryd.underlying5
  a5 := Tryd.isAgg5
  z5 := Tryd.sizeOf5
  v5 := Tryd.zeroValue5
  t9 := Tryd.underlying9
  a9 := Tryd.isAgg9
  z9 := Tryd.sizeOf9
  v9 := Tryd.zeroValue9
  t21 := Tryd.underlying21
  a21 := Tryd.isAgg21
  z21 := Tryd.sizeOf21
  v21 := Tryd.zeroValue21
  t46 := Tryd.underlying50
  a46 := Tryd.isAgg50
  z46 := Tryd.sizeOf50
  v46 := Tryd.zeroValue50
  t105 := Tryd.underlying57
  a105 := Tryd.isAgg57
  z105 := Tryd.sizeOf57
  v105 := Tryd.zeroValue57
  t119 := Tryd.underlying46
  a119 := Tryd.isAgg46
  z119 := Tryd.sizeOf46
  t138 := Tryd.underlying48
  a138 := Tryd.isAgg48
  z138 := Tryd.sizeOf48
  v138 := Tryd.zeroValue48
  t139 := Tryd.underlying49
  a139 := Tryd.isAgg49
  z139 := Tryd.sizeOf49
  v139 := Tryd.zeroValue49
  g3 := by kernel_rfl
  g4 := by kernel_rfl }
open Go.RowKit in
theorem Tryd.utf8_DecodeRuneInString (s : ByteArray) (w : World) (hT : Lib.Utf8Tabs 0 1 w) :
    Calls Tryd.prog 26 #[.string s] w fun e w' => e = .returned (.tuple #[.int .i32 (Lib.decodeGo s).1, .int .i64 (Lib.decodeGo s).2]) ∧ Below w.heap.size w w' := Any.utf8_DecodeRuneInString Tryd.lays197 s w hT
def Tryd.lays103_ren : Go.Shelf.Ren := ⟨fun | 103 => 38 | 210 => 52 | 206 => 31 | n => n, fun | 9 => 9 | 4 => 4 | 24 => 72 | 3 => 3 | n => n, fun | n => n⟩
theorem Tryd.lays103 : Go.Proofs.Lays.n103 Tryd.prog Tryd.lays103_ren := {
  mixed := by kernel_rfl
  f103 := Tryd.func38.trans (congrArg some (by kernel_rfl))
  f206 := Tryd.func31.trans (congrArg some (by kernel_rfl))
  f210 := Tryd.func52.trans (congrArg some (by kernel_rfl))
  t3 := Tryd.underlying3
  a3 := Tryd.isAgg3
  z3 := Tryd.sizeOf3
  v3 := Tryd.zeroValue3
  t4 := Tryd.underlying4
  a4 := Tryd.isAgg4
  z4 := Tryd.sizeOf4
  v4 := Tryd.zeroValue4
  t9 := Tryd.underlying9
  a9 := Tryd.isAgg9
  z9 := Tryd.sizeOf9
  v9 := Tryd.zeroValue9
  t24 := Tryd.underlying72
  a24 := Tryd.isAgg72
  z24 := Tryd.sizeOf72
  v24 := Tryd.zeroValue72 }
open Go.RowKit in
theorem Tryd.strings_CutPrefix (s p : ByteArray) (w : World) :
    Calls Tryd.prog 38 #[.string s, .string p] w fun e w' => e = .returned (.tuple #[.string ⟨(Lib.trimPrefix s.data.toList p.data.toList).toArray⟩, .bool (Lib.hasPrefix s.data.toList p.data.toList)]) ∧ w' = w := Any.strings_CutPrefix Tryd.lays103 s p w
def Tryd.lays137_ren : Go.Shelf.Ren := ⟨fun | 137 => 27 | 217 => 42 | 266 => 57 | n => n, fun | 9 => 9 | 5 => 5 | 3 => 3 | n => n, fun | n => n⟩
theorem Tryd.lays137 : Go.Proofs.Lays.n137 Tryd.prog Tryd.lays137_ren := {
  mixed := by kernel_rfl
  f137 := Tryd.func27.trans (congrArg some (by kernel_rfl))
  f217 := Tryd.func42.trans (congrArg some (by kernel_rfl))
  f266 := Tryd.func57.trans (congrArg some (by kernel_rfl))
  t3 := Tryd.underlying3
  a3 := Tryd.isAgg3
  z3 := Tryd.sizeOf3
  v3 := Tryd.zeroValue3
  t5 := Tryd.underlying5
  a5 := Tryd.isAgg5
  z5 := Tryd.sizeOf5
  v5 := Tryd.zeroValue5
  t9 := Tryd.underlying9
  a9 := Tryd.isAgg9
  z9 := Tryd.sizeOf9
  v9 := Tryd.zeroValue9 }
open Go.RowKit in
theorem Tryd.strings_IndexByte (s : ByteArray) (c : Int) (w : World) :
    Calls Tryd.prog 27 #[.string s, .int .u8 c] w fun e w' => e = .returned (.int .i64 (Lib.indexByte s.data.toList c.toNat.toUInt8)) ∧ w' = w := Any.strings_IndexByte Tryd.lays137 s c w
def Tryd.lays161_ren : Go.Shelf.Ren := ⟨fun | 161 => 39 | 231 => 53 | 227 => 54 | 233 => 55 | 235 => 56 | 228 => 65 | 197 => 26 | 151 => 66 | 260 => 41 | 152 => 72 | 137 => 27 | 119 => 80 | 224 => 70 | 225 => 69 | 217 => 42 | 266 => 57 | n => n, fun | 9 => 9 | 4 => 4 | 3 => 3 | 5 => 5 | 117 => 86 | 116 => 85 | 0 => 0 | 124 => 89 | 105 => 57 | 21 => 21 | 119 => 46 | 46 => 50 | 139 => 49 | 138 => 48 | n => n, fun | 3 => 0 | 4 => 1 | n => n⟩
theorem Tryd.lays161 : Go.Proofs.Lays.n161 Tryd.prog Tryd.lays161_ren := {
  mixed := by kernel_rfl
  f119 := Tryd.func80.trans (congrArg some (by kernel_rfl))
  f137 := Tryd.func27.trans (congrArg some (by kernel_rfl))
  f151 := Tryd.func66.trans (congrArg some (by kernel_rfl))
  f152 := Tryd.func72.trans (congrArg some (by kernel_rfl))
  f161 := Tryd.func39.trans (congrArg some (by kernel_rfl))
  f197 := Tryd.func26.trans (congrArg some (by kernel_rfl))
  f217 := Tryd.func42.trans (congrArg some (by kernel_rfl))
  f224 := Tryd.func70.trans (congrArg some (by kernel_rfl))
  f225 := Tryd.func69.trans (congrArg some (by kernel_rfl))
  f227 := Tryd.func54.trans (congrArg some (by kernel_rfl))
  f228 := Tryd.func65.trans (congrArg some (by kernel_rfl))
  f231 := Tryd.func53.trans (congrArg some (by kernel_rfl))
  f233 := Tryd.func55.trans (congrArg some (by kernel_rfl))
  f235 := Tryd.func56.trans (congrArg some (by kernel_rfl))
  f260 := Tryd.func41.trans (congrArg some (by kernel_rfl))
  f266 := Tryd.func57.trans (congrArg some (by kernel_rfl))
  t0 := Tryd.underlying0
  a0 := Tryd.isAgg0
  z0 := Tryd.sizeOf0
  v0 := Tryd.zeroValue0
  t3 := Tryd.underlying3
  a3 := Tryd.isAgg3
  z3 := Tryd.sizeOf3
  v3 := Tryd.zeroValue3
  t4 := Tryd.underlying4
  a4 := Tryd.isAgg4
  z4 := Tryd.sizeOf4
  v4 := Tryd.zeroValue4
  t5 := Tryd.underlying5
  a5 := Tryd.isAgg5
  z5 := Tryd.sizeOf5
  v5 := Tryd.zeroValue5
  t9 := Tryd.underlying9
  a9 := Tryd.isAgg9
  z9 := Tryd.sizeOf9
  v9 := Tryd.zeroValue9
  t21 := Tryd.underlying21
  a21 := Tryd.isAgg21
  z21 := Tryd.sizeOf21
  v21 := Tryd.zeroValue21
  t46 := Tryd.underlying50
  a46 := Tryd.isAgg50
  z46 := Tryd.sizeOf50
  v46 := Tryd.zeroValue50
  t105 := Tryd.underlying57
  a105 := Tryd.isAgg57
  z105 := Tryd.sizeOf57
  v105 := Tryd.zeroValue57
  t116 := Tryd.underlying85
  a116 := Tryd.isAgg85
  z116 := Tryd.sizeOf85
  t117 := Tryd.underlying86
  a117 := Tryd.isAgg86
  z117 := Tryd.sizeOf86
  v117 := Tryd.zeroValue86
  t119 := Tryd.underlying46
  a119 := Tryd.isAgg46
  z119 := Tryd.sizeOf46
  t124 := Tryd.underlying89
  a124 := Tryd.isAgg89
  z124 := Tryd.sizeOf89
  v124 := Tryd.zeroValue89
  t138 := Tryd.underlying48
  a138 := Tryd.isAgg48
  z138 := Tryd.sizeOf48
  v138 := Tryd.zeroValue48
  t139 := Tryd.underlying49
  a139 := Tryd.isAgg49
  z139 := Tryd.sizeOf49
  v139 := Tryd.zeroValue49
  g3 := by kernel_rfl
  g4 := by kernel_rfl }
open Go.RowKit in
theorem Tryd.strings_TrimLeft (s cutset : ByteArray) (w : World) (hcs : cutset.size < 4294967281) (hascii : ∀ (j : Nat) b, cutset.data.toList[j]? = some b → b.toNat < 128) :
    Calls Tryd.prog 39 #[.string s, .string cutset] w fun e w' => e = .returned (.string ⟨(Lib.trimLeftS s.data.toList cutset.data.toList).toArray⟩) ∧ Below w.heap.size w w' := Any.strings_TrimLeft_laid Tryd.lays161 (by kernel_rfl) s cutset w hcs hascii
def Tryd.lays145_ren : Go.Shelf.Ren := ⟨fun | 145 => 36 | 220 => 51 | 219 => 64 | 217 => 42 | 225 => 69 | 224 => 70 | 267 => 71 | 266 => 57 | 314 => 79 | n => n, fun | 9 => 9 | 4 => 4 | 59 => 70 | 3 => 3 | 5 => 5 | 46 => 50 | 146 => 107 | 51 => 93 | n => n, fun | 1 => 2 | n => n⟩
theorem Tryd.lays145 : Go.Proofs.Lays.n145 Tryd.prog Tryd.lays145_ren := {
  mixed := by kernel_rfl
  f145 := Tryd.func36.trans (congrArg some (by kernel_rfl))
  f217 := Tryd.func42.trans (congrArg some (by kernel_rfl))
  f219 := Tryd.func64.trans (congrArg some (by kernel_rfl))
  f220 := Tryd.func51.trans (congrArg some (by kernel_rfl))
  f224 := Tryd.func70.trans (congrArg some (by kernel_rfl))
  f225 := Tryd.func69.trans (congrArg some (by kernel_rfl))
  f266 := Tryd.func57.trans (congrArg some (by kernel_rfl))
  f267 := Tryd.func71.trans (congrArg some (by kernel_rfl))
  f314 := Tryd.func79.trans (congrArg some (by kernel_rfl))
  t3 := Tryd.underlying3
  a3 := Tryd.isAgg3
  z3 := Tryd.sizeOf3
  v3 := Tryd.zeroValue3
  t4 := Tryd.underlying4
  a4 := Tryd.isAgg4
  z4 := Tryd.sizeOf4
  v4 := Tryd.zeroValue4
  t5 := Tryd.underlying5
  a5 := Tryd.isAgg5
  z5 := Tryd.sizeOf5
  v5 := Tryd.zeroValue5
  t9 := Tryd.underlying9
  a9 := Tryd.isAgg9
  z9 := Tryd.sizeOf9
  v9 := Tryd.zeroValue9
  t46 := Tryd.underlying50
  a46 := Tryd.isAgg50
  z46 := Tryd.sizeOf50
  v46 := Tryd.zeroValue50
  t51 := Tryd.underlying93
  a51 := Tryd.isAgg93
  z51 := Tryd.sizeOf93
  v51 := Tryd.zeroValue93
  t59 := Tryd.underlying70
  a59 := Tryd.isAgg70
  z59 := Tryd.sizeOf70
  v59 := Tryd.zeroValue70
  t146 := Tryd.underlying107
  a146 := Tryd.isAgg107
  z146 := Tryd.sizeOf107
  v146 := Tryd.zeroValue107
  g1 := by kernel_rfl }
open Go.RowKit in
theorem Tryd.strings_Cut (s sep : ByteArray) (m : Int) (w : World) (hs : s.size < 4294967281) (hm : w.cell? ⟨2, 0, none⟩ = some (.int .i64 m)) :
    Calls Tryd.prog 36 #[.string s, .string sep] w fun e w' => e = .returned (.tuple #[.string ⟨(Lib.cut s.data.toList sep.data.toList).1.toArray⟩, .string ⟨(Lib.cut s.data.toList sep.data.toList).2.1.toArray⟩, .bool (Lib.cut s.data.toList sep.data.toList).2.2]) ∧ ∃ n, w' = w.drewN n := Any.strings_Cut Tryd.lays145 s sep m w hs hm
end Go.Proofs
/- value.Check: its walk. -/
namespace Go.Proofs.YtdendpckihckeaaDoor
open Go.RowKit

abbrev UT (w : World) : Prop := Lib.Utf8Tabs 0 1 w
/-- A value, as the model has it. -/
abbrev vv (k n : Int) (s : ByteArray) : Value := .agg #[.int .i64 k, .int .i64 n, .string s]
/-- May it be? -/
def chkV (k n : Int) (s : ByteArray) : Bool :=
  if k = 1 then decide (s.size = 0) && decide (-9007199254740991 ≤ n ∧ n ≤ 9007199254740991)
  else if k = 2 then decide (n = 0) && (decide (s.size ≤ 200) && Lib.validD s.data.toList)
  else if k = 3 then decide (s.size = 0) && decide (n = 0 ∨ n = 1)
  else if k = 4 then decide (n = 0) && decide (s.size ≤ 200)
  else false
theorem empty_is (B : ByteArray) (h : B.size = 0) : B.toList.isEmpty = true := by
  rw [ByteArray.toList_eq]
  have : B.data.toList = [] := List.eq_nil_of_length_eq_zero (by rw [Array.length_toList]; exact h)
  rw [this]; rfl
theorem empty_not (B : ByteArray) (h : B.size ≠ 0) : B.toList.isEmpty = false := by
  rw [ByteArray.toList_eq]
  cases e : B.data.toList with
  | nil => exact absurd (by have := congrArg List.length e; rwa [Array.length_toList] at this) h
  | cons b l => rfl
theorem empty_iff (B : ByteArray) : B.toList.isEmpty = decide (B.size = 0) := by
  by_cases h : B.size = 0
  · rw [empty_is B h, decide_eq_true h]
  · rw [empty_not B h, decide_eq_false h]

end Go.Proofs.YtdendpckihckeaaDoor
/- The shelf contract of (*strings.Builder).String at this program, laid by the shelf tool in plain words. -/
namespace Go.Proofs
open Go.Shelf
def Tryd.lays169_ren : Go.Shelf.Ren := ⟨fun | 169 => 35 | n => n, fun | 70 => 61 | 9 => 9 | 0 => 0 | 72 => 63 | 37 => 22 | 127 => 82 | 3 => 3 | 5 => 5 | n => n, fun | n => n⟩
theorem Tryd.lays169 : Go.Proofs.Lays.n169 Tryd.prog Tryd.lays169_ren := {
  mixed := by kernel_rfl
  f169 := Tryd.func35.trans (congrArg some (by kernel_rfl))
  t0 := Tryd.underlying0
  a0 := Tryd.isAgg0
  z0 := Tryd.sizeOf0
  v0 := Tryd.zeroValue0
  t3 := Tryd.underlying3
  a3 := Tryd.isAgg3
  z3 := Tryd.sizeOf3
  v3 := Tryd.zeroValue3
  t9 := Tryd.underlying9
  a9 := Tryd.isAgg9
  z9 := Tryd.sizeOf9
  v9 := Tryd.zeroValue9
  t37 := Tryd.underlying22
  a37 := Tryd.isAgg22
  z37 := Tryd.sizeOf22
  v37 := Tryd.zeroValue22
  t70 := Tryd.underlying61
  a70 := Tryd.isAgg61
  z70 := Tryd.sizeOf61
  v70 := Tryd.zeroValue61
  t72 := Tryd.underlying63
  a72 := Tryd.isAgg63
  z72 := Tryd.sizeOf63
  v72 := Tryd.zeroValue63
  t127 := Tryd.underlying82
  a127 := Tryd.isAgg82
  z127 := Tryd.sizeOf82
  v127 := Tryd.zeroValue82 }
theorem Tryd.Builder_Extra_169 : Builder.Extra Tryd.prog Tryd.lays169_ren := {
  sizeBuilder := by kernel_rfl
  liesBuilder := by kernel_rfl
  t5 := Tryd.underlying5
  a5 := Tryd.isAgg5
  z5 := Tryd.sizeOf5
  v5 := Tryd.zeroValue5
  infoByte := by kernel_rfl
  cellsByte := by kernel_rfl
  sizeByte := by kernel_rfl
  neB5 := by decide }
open Go.RowKit in
theorem Tryd.Builder_String_any_k (B b : Nat) (l : List UInt8) (w : World) (h : Lib.IsBuilderF 63 5 B b (Lib.byteCells l) w) (hBw : B ≤ w.heap.size) :
    Calls Tryd.prog 35 #[.pointer (some ⟨b, 0, none⟩)] w fun e w' => e = .returned (.string ⟨l.toArray⟩) ∧ (Lib.IsBuilderF 63 5 B b (Lib.byteCells l) w' ∧ Below B w w' ∧ Lib.OthersKept 5 (some b) w w') := Any.Builder_String_any_k Tryd.lays169 Tryd.Builder_Extra_169 B b l w h hBw
end Go.Proofs
/- value.showText, and Show of a text: walks. -/
namespace Go.Proofs.YtdendpckihckeaaDoor
open Go.RowKit

theorem grown_below {w w1 : World} (hb : Below w.heap.size w w1) : w.grownBy w1 none := ⟨hb.os, hb.tape, hb.output, hb.size, fun k hk _ => hb.block k hk⟩
theorem IsB_below {B b : Nat} {bs : List Value} {w w1 : World} (h : IsB B b bs w) (hb : Below w.heap.size w w1) : IsB B b bs w1 := by
  have key : ∀ p, Lib.BuilderAtF 63 5 B b p bs w → Lib.BuilderAtF 63 5 B b p bs w1 := by
    rintro p ⟨hB, v, hbk, hown, hne⟩
    exact ⟨hB, v, (hb.block b (Array.getElem?_eq_some_iff.1 hbk).1).trans hbk, hown.kept (grown_below hb) (by cases hv : v.ownBlock <;> simp), hne⟩
  exact h.elim (fun x => .inl (key _ x)) (fun x => .inr (key _ x))
theorem IsB_alloc {B b : Nat} {bs : List Value} {w : World} (h : IsB B b bs w) (o : Obj) : IsB B b bs (w.alloc o) :=
  h.elim (fun x => .inl (x.alloc o)) (fun x => .inr (x.alloc o))
theorem IsB_iter {B b : Nat} {bs : List Value} {w : World} (h : IsB B b bs w) {k : Nat} {s : ByteArray} {p : Nat} (hk : w.heap[k]? = some (.stringIter s p)) (p' : Nat) : IsB B b bs (w.iterAt k s p') := by
  have key : ∀ q, Lib.BuilderAtF 63 5 B b q bs w → Lib.BuilderAtF 63 5 B b q bs (w.iterAt k s p') := by
    rintro q ⟨hB, v, hbk, hown, hne⟩
    have hbne : b ≠ k := fun e => by rw [e, hk] at hbk; cases hbk
    refine ⟨hB, v, (Lib.iterAt_other w k b s p' hbne).trans hbk, hown.kept (row := some k) ⟨rfl, rfl, rfl, by rw [Lib.iterAt_size]; exact Nat.le_refl _, fun j _ hj => Lib.iterAt_other w k j s p' (fun e => hj (by rw [e]))⟩ ?_, hne⟩
    refine .inr fun e => ?_
    obtain ⟨c, fz, hc⟩ := rowF_cells hown k e
    rw [hk] at hc
    cases hc
  exact h.elim (fun x => .inl (key _ x)) (fun x => .inr (key _ x))
theorem iterPos_of {w : World} {k : Nat} {s : ByteArray} {p : Nat} (h : w.heap[k]? = some (.stringIter s p)) : w.iterPos k = p := by
  simp [World.iterPos, h]
theorem iter_kept {w w' : World} {b : Nat} (ok : Lib.OthersKept 5 (some b) w w') {k : Nat} {s : ByteArray} {p : Nat} (h : w.heap[k]? = some (.stringIter s p)) (hb : k ≠ b) : w'.heap[k]? = some (.stringIter s p) :=
  ok k _ h (fun e => hb (Option.some.inj e)) (fun c fz e => by cases e)
theorem IsB_ne {B b : Nat} {bs : List Value} {w : World} (h : IsB B b bs w) {k : Nat} {s : ByteArray} {p : Nat} (hk : w.heap[k]? = some (.stringIter s p)) : k ≠ b := by
  intro e
  subst e
  rcases h with ⟨_, v, hbk, _⟩ | ⟨_, v, hbk, _⟩
  · rw [hk] at hbk; cases hbk
  · rw [hk] at hbk; cases hbk

def okR (c : Nat) : Prop := c < 16 ∨ (32 ≤ c ∧ c ≠ 127)
def shows (l : List Nat) : List UInt8 := l.flatMap showR
theorem showR_len (c : Nat) : (showR c).length ≤ 5 := by
  unfold showR
  repeat' split
  all_goals first | decide | (simp) | (have := enc_len4 c; omega)
/-- What holds of showText's loop at every round. -/
def StRel (s : ByteArray) (w : World) (k0 : Nat) (wr : World) : Prop :=
  ∃ (pos : Nat) (acc : List UInt8), IsB w.heap.size w.heap.size (Lib.byteCells (34 :: acc)) wr ∧ wr.heap[k0]? = some (.stringIter s pos) ∧ Below w.heap.size w wr ∧ w.heap.size < wr.heap.size ∧ acc ++ shows (rns (s.data.toList.drop pos)) = shows (rns s.data.toList) ∧ acc.length ≤ 5 * pos ∧ (∀ c ∈ rns (s.data.toList.drop pos), okR c)
theorem cells_byte (l : List UInt8) (x : UInt8) : Lib.byteCells l ++ [Value.int .u8 (x.toNat : Int)] = Lib.byteCells (l ++ [x]) := by rw [Lib.byteCells_append]; rfl

end Go.Proofs.YtdendpckihckeaaDoor
/- value.showBytes: its walk. -/
namespace Go.Proofs.YtdendpckihckeaaDoor
open Go.RowKit

/-- A byte in two digits. -/
def hex2 (b : UInt8) : List UInt8 := [dg (b.toNat / 16), dg (b.toNat % 16)]
def hexs (l : List UInt8) : List UInt8 := l.flatMap hex2
theorem hexs_len (l : List UInt8) : (hexs l).length = 2 * l.length := by
  induction l with
  | nil => rfl
  | cons b l ih =>
    have e : hexs (b :: l) = hex2 b ++ hexs l := rfl
    have e2 : (hex2 b).length = 2 := rfl
    rw [e, List.length_append, ih, e2, List.length_cons]
    omega
abbrev HXb : ByteArray := ⟨#[48, 49, 50, 51, 52, 53, 54, 55, 56, 57, 97, 98, 99, 100, 101, 102]⟩
theorem hx_at : ∀ n : Fin 16, HXb[n.val]'(by have := n.isLt; show n.val < 16; omega) = dg n.val := by decide
theorem and15 : ∀ n : Fin 256, bits BinOp.and IntKind.u8 (n.val : Int) 15 = ((n.val % 16 : Nat) : Int) := by decide +kernel

end Go.Proofs.YtdendpckihckeaaDoor
/- strconv.FormatInt at base 16 of numbers of two digits; value.showRune, showText and Show of a text, at any. -/
namespace Go.Proofs.YtdendpckihckeaaDoor
open Go.RowKit

theorem and15' : ∀ n : Fin 256, bits BinOp.and IntKind.u64 (n.val : Int) 15 = ((n.val % 16 : Nat) : Int) := by decide +kernel
abbrev Z65y (x y : Int) : Obj := .cells #[.int .u8 0, .int .u8 0, .int .u8 0, .int .u8 0, .int .u8 0, .int .u8 0, .int .u8 0, .int .u8 0, .int .u8 0, .int .u8 0, .int .u8 0, .int .u8 0, .int .u8 0, .int .u8 0, .int .u8 0, .int .u8 0, .int .u8 0, .int .u8 0, .int .u8 0, .int .u8 0, .int .u8 0, .int .u8 0, .int .u8 0, .int .u8 0, .int .u8 0, .int .u8 0, .int .u8 0, .int .u8 0, .int .u8 0, .int .u8 0, .int .u8 0, .int .u8 0, .int .u8 0, .int .u8 0, .int .u8 0, .int .u8 0, .int .u8 0, .int .u8 0, .int .u8 0, .int .u8 0, .int .u8 0, .int .u8 0, .int .u8 0, .int .u8 0, .int .u8 0, .int .u8 0, .int .u8 0, .int .u8 0, .int .u8 0, .int .u8 0, .int .u8 0, .int .u8 0, .int .u8 0, .int .u8 0, .int .u8 0, .int .u8 0, .int .u8 0, .int .u8 0, .int .u8 0, .int .u8 0, .int .u8 0, .int .u8 0, .int .u8 0, .int .u8 x, .int .u8 y] 116
theorem conv_two (w : World) (x y : Int) : (convert 22 9 (.slice (some ⟨w.heap.size, 63, none⟩) 2 2)).run Tryd.prog (w.alloc (Z65y x y)) = .ok (.string (strOfNums [x, y])) (w.alloc (Z65y x y)) :=
  run_convert_bytes_arg (P := Tryd.prog) _ 22 5 Tryd.underlying22 Tryd.underlying5 w.heap.size 63 2 2 [x, y] rfl (fun i hi => by
    match i, hi with
    | 0, _ => simp
    | 1, _ => simp) 9 Tryd.underlying9
set_option maxRecDepth 100000 in
set_option maxHeartbeats 2000000 in
theorem formatBits_two (n : Nat) (w : World) (h1 : 16 ≤ n) (h2 : n < 256) (h : T16 w) :
    Calls Tryd.prog 78 #[.slice none 0 0, .int .u64 (n : Int), .int .i64 16, .bool false, .bool false] w fun e w' => e = .returned (.tuple #[.slice none 0 0, .string (strOfNums [((dg (n / 16)).toNat : Int), ((dg (n % 16)).toNat : Int)])]) ∧ Below w.heap.size w w' := by
  have hT := T16_below h ((Below.refl _ _).alloc (Nat.le_refl _) Z65)
  go_enter Tryd.func78, Tryd.ntmps78
  go_wp2_with (first | (go_at_call 90; refine (pow2_16 _).mono ?_; rintro e w' ⟨rfl, rfl⟩) | (go_at_call 91; refine (tz_16 _ ?_).mono ?_; exact hT; rintro e w' ⟨rfl, rfl⟩))
  go_loopw [1, 13] (fun u i wr => (u = .int .u64 (n : Int) ∧ i = .int .i64 65 ∧ wr = w.alloc Z65) ∨ (u = .int .u64 ((n / 16 : Nat) : Int) ∧ i = .int .i64 64 ∧ wr = w.alloc (Z65x ((dg (n % 16)).toNat : Int)))) (fun _ i _ => (intOf i).toNat)
  case atStart => exact .inl ⟨rfl, rfl, rfl⟩
  case round =>
    rcases hrel with ⟨rfl, rfl, rfl⟩ | ⟨rfl, rfl, rfl⟩
    · have hd : decide ((16 : Int) ≤ n) = true := by simp; omega
      have hix : n % 16 < DG.size := by have : DG.size = 36 := rfl; omega
      have a15 := and15' ⟨n, h2⟩
      have hdg := dg_at (n % 16) hix
      go_wp2
      exact ⟨.inr ⟨by simp, rfl, trivial⟩, by decide⟩
    · have hd : decide ((16 : Int) ≤ ((n / 16 : Nat) : Int)) = false := by simp; omega
      have hix : n / 16 < DG.size := by have : DG.size = 36 := rfl; omega
      have hdg := dg_at (n / 16) hix
      go_wp2
      rw [conv_two]
      go_wp2
      go_ret2
      exact ⟨rfl, (Below.refl _ _).alloc (Nat.le_refl _) _⟩

theorem formatInt_i2 (n : Nat) (w : World) (h1 : 16 ≤ n) (h2 : n < 256) (h : T16 w) :
    Calls Tryd.prog 68 #[.int .i64 (n : Int), .int .i64 16] w fun e w' => e = .returned (.string (strOfNums [((dg (n / 16)).toNat : Int), ((dg (n % 16)).toNat : Int)])) ∧ Below w.heap.size w w' := by
  have hd : decide ((n : Int) < 0) = false := by simp
  go_enter Tryd.func68, Tryd.ntmps68
  go_wp2_with fail
  refine (formatBits_two n _ h1 h2 h).mono ?_
  rintro e w1 ⟨rfl, hb1⟩
  go_wp2
  go_ret
  exact ⟨rfl, hb1⟩
theorem formatInt_2 (n : Nat) (w : World) (h1 : 16 ≤ n) (h2 : n < 256) (h : T16 w) :
    Calls Tryd.prog 61 #[.int .i64 (n : Int), .int .i64 16] w fun e w' => e = .returned (.string (strOfNums [((dg (n / 16)).toNat : Int), ((dg (n % 16)).toNat : Int)])) ∧ Below w.heap.size w w' := by
  go_enter Tryd.func61, Tryd.ntmps61
  go_wp2_with fail
  refine (formatInt_i2 n _ h1 h2 h).mono ?_
  rintro e w1 ⟨rfl, hb1⟩
  go_wp2
  go_ret
  exact ⟨rfl, hb1⟩
/-- How a rune is shown. -/
def shR (c : Nat) : List UInt8 :=
  if c = 34 then [92, 34] else if c = 92 then [92, 92] else if c = 10 then [92, 110] else if c = 9 then [92, 116] else if c = 13 then [92, 114]
  else if c < 16 then [92, 117, 123, dg c, 125] else if c < 32 ∨ c = 127 then [92, 117, 123, dg (c / 16), dg (c % 16), 125] else enc c
theorem shR_old {c : Nat} (h : c < 16 ∨ (32 ≤ c ∧ c ≠ 127)) : shR c = showR c := by
  unfold shR showR
  by_cases h6 : c < 16
  · simp [h6]
  · rw [if_neg (show ¬ (c < 32 ∨ c = 127) by omega)]
theorem num2 (x y : UInt8) : strOfNums [(x.toNat : Int), (y.toNat : Int)] = str [x, y] := by
  unfold strOfNums str
  simp
theorem brace2 (x y : UInt8) : ((⟨#[92, 117, 123]⟩ : ByteArray) ++ str [x, y]) ++ (⟨#[125]⟩ : ByteArray) = str [92, 117, 123, x, y, 125] := ba_eq (by
  rw [ba_append, ba_append, str_data, str_data]
  rfl)
set_option maxRecDepth 100000 in
set_option maxHeartbeats 2000000 in
theorem showRune_two (c : Nat) (w : World) (ho : (16 ≤ c ∧ c < 32) ∨ c = 127) (hT : T16 w) :
    Calls Tryd.prog 48 #[.int .i32 (c : Int)] w fun e w' => e = .returned (.string (str (shR c))) ∧ Below w.heap.size w w' := by
  have e : shR c = [92, 117, 123, dg (c / 16), dg (c % 16), 125] := by
    unfold shR
    rw [if_neg (by omega), if_neg (by omega), if_neg (by omega), if_neg (by omega), if_neg (by omega), if_neg (by omega), if_pos (by omega)]
  rw [e]
  clear e
  have k1 : ((c : Int) == 34) = false := by rw [beq_eq_false_iff_ne]; omega
  have k2 : ((c : Int) == 92) = false := by rw [beq_eq_false_iff_ne]; omega
  have k3 : ((c : Int) == 10) = false := by rw [beq_eq_false_iff_ne]; omega
  have k4 : ((c : Int) == 9) = false := by rw [beq_eq_false_iff_ne]; omega
  have k5 : ((c : Int) == 13) = false := by rw [beq_eq_false_iff_ne]; omega
  have HF := formatInt_2 c w (by omega) (by omega) hT
  rw [num2] at HF
  have HB := brace2 (dg (c / 16)) (dg (c % 16))
  have hz : (str [dg (c / 16), dg (c % 16)]).size = 2 := rfl
  generalize str [dg (c / 16), dg (c % 16)] = X at *
  rw [← HB]
  rcases ho with ⟨h1, h2⟩ | rfl
  · have k6 : decide ((c : Int) < 32) = true := by simp; omega
    clear HB
    go_enter Tryd.func48, Tryd.ntmps48
    go_wp2_with fail
    refine Calls.mono HF ?_
    rintro e w1 ⟨rfl, hb1⟩
    go_wp2
    go_ret
    exact ⟨rfl, hb1⟩
  · clear HB
    go_enter Tryd.func48, Tryd.ntmps48
    go_wp2_with fail
    refine Calls.mono HF ?_
    rintro e w1 ⟨rfl, hb1⟩
    go_wp2
    go_ret
    exact ⟨rfl, hb1⟩
theorem showRune_all (c : Nat) (w : World) (hs : scal c) (hT : T16 w) :
    Calls Tryd.prog 48 #[.int .i32 (c : Int)] w fun e w' => e = .returned (.string (str (shR c))) ∧ Below w.heap.size w w' := by
  by_cases ho : c < 16 ∨ (32 ≤ c ∧ c ≠ 127)
  · rw [shR_old ho]
    exact showRune_any c w hs ho hT
  · exact showRune_two c w (by omega) hT
end Go.Proofs.YtdendpckihckeaaDoor
/- Literals, read: which value stands at the front of a text, what stands behind it, or the error. Plain, of no program. -/
namespace Go.Proofs.YtdendpckihckeaaDoor
open Go.Lib
set_option maxRecDepth 100000

/-- What reading a literal answers: the value's kind, number and bytes; what stands behind it; the error. -/
structure Sc where
  k : Int
  n : Int
  s : List UInt8
  r : List UInt8
  e : Int
abbrev Sc.bad (e : Int) : Sc := ⟨0, 0, [], [], e⟩

def isD (b : UInt8) : Bool := decide (48 ≤ b.toNat ∧ b.toNat ≤ 57)
/-- The digits at the front. -/
def digs (l : List UInt8) : List UInt8 := l.takeWhile isD
def numOf (l : List UInt8) : Nat := l.foldl (fun n b => 10 * n + (b.toNat - 48)) 0
def scI (neg : Bool) (l : List UInt8) : Sc :=
  if digs l = [] ∨ ((digs l).head? = some 48 ∧ (neg = true ∨ 1 < (digs l).length)) then .bad 3
  else if 16 < (digs l).length ∨ 9007199254740991 < numOf (digs l) then .bad 2
  else ⟨1, if neg = true then -(numOf (digs l) : Int) else numOf (digs l), [], l.drop (digs l).length, 0⟩

/-- A digit of 0 to 9, a to f. -/
def hxd (b : UInt8) : Option Nat := if 48 ≤ b.toNat ∧ b.toNat ≤ 57 then some (b.toNat - 48) else if 97 ≤ b.toNat ∧ b.toNat ≤ 102 then some (b.toNat - 87) else none
/-- The bytes that pairs of digits say, up to the closing mark, and what stands behind that. -/
def hxs : List UInt8 → Option (List UInt8 × List UInt8)
  | [] => none
  | [a] => if a = 39 then some ([], []) else none
  | a :: b :: t => if a = 39 then some ([], b :: t) else
    match hxd a, hxd b with
    | some x, some y => (hxs t).map fun p => (UInt8.ofNat (16 * x + y) :: p.1, p.2)
    | _, _ => none
/-- The same, of the digits alone. -/
def hxp : List UInt8 → Option (List UInt8)
  | [] => some []
  | [_] => none
  | a :: b :: t =>
    match hxd a, hxd b with
    | some x, some y => (hxp t).map fun p => UInt8.ofNat (16 * x + y) :: p
    | _, _ => none
def scX (l : List UInt8) : Sc :=
  match hxs l with
  | none => .bad 3
  | some p => if 200 < p.1.length then .bad 2 else ⟨4, 0, p.1, p.2, 0⟩

/-- The rune whose writing with a back stroke stands at the front. -/
def escL (l : List UInt8) : Option Nat := (List.range 128).find? fun c => decide ((shR c).head? = some 92) && (shR c).isPrefixOf l
/-- The rune at the front of what stands within a text's literal, and how many bytes it is written in. -/
def runeL (l : List UInt8) : Option (Nat × Nat) :=
  if l.head? = some 92 then (escL l).map fun c => (c, (shR c).length)
  else if l = [] ∨ ((decodeL l).1 = 65533 ∧ (decodeL l).2 = 1) ∨ (decodeL l).1 < 32 ∨ (decodeL l).1 = 127 then none else some (decodeL l)
def txGo : Nat → List UInt8 → List UInt8 → Option (List UInt8 × List UInt8)
  | 0, _, _ => none
  | n + 1, acc, l => if l.head? = some 34 then some (acc, l.drop 1) else
    match runeL l with
    | none => none
    | some p => txGo n (acc ++ enc p.1) (l.drop p.2)
/-- The bytes that a text's literal says, behind others, up to the closing mark, and what stands behind that. -/
def txs (acc l : List UInt8) : Option (List UInt8 × List UInt8) := txGo (l.length + 1) acc l
def scT (l : List UInt8) : Sc :=
  match txs [] l with
  | none => .bad 3
  | some p => if 200 < p.1.length then .bad 2 else ⟨2, 0, p.1, p.2, 0⟩

/-- Does a word go on at the front? -/
def goesL (l : List UInt8) : Bool := letterN (decodeL l).1 || (decide (48 ≤ (decodeL l).1 ∧ (decodeL l).1 ≤ 57) || ((decodeL l).1 == 95 || (decodeL l).1 == 45))
def scB (n : Int) (l : List UInt8) : Sc := if goesL l = true then .bad 3 else ⟨3, n, [], l, 0⟩
def scn (l : List UInt8) : Sc :=
  if hasPrefix l [34] = true then scT (l.drop 1)
  else if hasPrefix l [120, 39] = true then scX (l.drop 2)
  else if hasPrefix l [116, 114, 117, 101] = true then scB 1 (l.drop 4)
  else if hasPrefix l [102, 97, 108, 115, 101] = true then scB 0 (l.drop 5)
  else if hasPrefix l [45] = true then scI true (l.drop 1) else scI false l

/-! ### digits -/
theorem isD_mem : ∀ b : UInt8, isD b = [48, 49, 50, 51, 52, 53, 54, 55, 56, 57].contains b := by
  intro b
  have key : ∀ n : Fin 256, isD (UInt8.ofNat n.val) = [48, 49, 50, 51, 52, 53, 54, 55, 56, 57].contains (UInt8.ofNat n.val) := by decide +kernel
  have := key ⟨b.toNat, UInt8.toNat_lt b⟩
  simpa using this
theorem digs_drop (l : List UInt8) : l.drop (digs l).length = l.dropWhile isD := by
  unfold digs
  induction l with
  | nil => rfl
  | cons b t ih =>
    by_cases h : isD b = true
    · rw [List.takeWhile_cons_of_pos h, List.dropWhile_cons_of_pos h]
      exact ih
    · rw [List.takeWhile_cons_of_neg h, List.dropWhile_cons_of_neg h]
      rfl
theorem digs_app (l : List UInt8) : digs l ++ l.dropWhile isD = l := List.takeWhile_append_dropWhile
theorem digs_all (l : List UInt8) : ∀ b ∈ digs l, isD b = true := fun b hb => by
  unfold digs at hb
  have h := List.all_takeWhile (p := isD) (l := l)
  exact List.all_eq_true.1 h b hb
theorem numOf_snoc (l : List UInt8) (b : UInt8) : numOf (l ++ [b]) = 10 * numOf l + (b.toNat - 48) := by
  unfold numOf
  rw [List.foldl_append]
  rfl
theorem numOf_lt : ∀ (m : Nat) (l : List UInt8), l.length = m → (∀ b ∈ l, isD b = true) → numOf l < 10 ^ m
  | 0, l, h, _ => by
    obtain rfl : l = [] := List.eq_nil_of_length_eq_zero h
    decide
  | m + 1, l, h, hd => by
    obtain ⟨i, b, rfl⟩ : ∃ i b, l = i ++ [b] := by
      have hne : l ≠ [] := fun e => by subst e; simp at h
      exact ⟨l.dropLast, l.getLast hne, (List.dropLast_concat_getLast hne).symm⟩
    have h1 := numOf_lt m i (by simpa using h) (fun x hx => hd x (List.mem_append_left _ hx))
    have h2 := hd b (by simp)
    simp only [isD, decide_eq_true_eq] at h2
    rw [numOf_snoc, Nat.pow_succ]
    omega
end Go.Proofs.YtdendpckihckeaaDoor
