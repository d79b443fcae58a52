/- The shelf's contracts that names need, at this program, laid by the shelf's tool in plain words. -/
import Derived.Shelf.Small.Strs
import Derived.Shelf.Unicode.ValidAny
import Derived.Shelf.Utf8.RuneCount
import Derived.Shelf.Strings.Prefix
import Derived.Shelf.Unicode.DecodeAny
import Derived.Shelf.Small.Wraps
import Derived.Shelf.Strings.SlTrimAscii
import Derived.Shelf.Strings.Cut
import Derived.Shelf.Strings.Split
import Derived.Test.YtjamkfkbajhefaaGreatDoorProg
import Derived.Test.YtjamkfkbajhefaaGreatDoorZk0
import Derived.Lib.Bytealg
import Derived.RegionTactic
import Derived.Deep.QuietTactic
import Derived.BigQuiet
import Derived.Lib.RuneCountTail
namespace Go.Proofs
open Go.Shelf
def Tryz.lays106_ren : Go.Shelf.Ren := ⟨fun | 106 => 48 | 213 => 79 | 265 => 107 | n => n, fun | 9 => 9 | 3 => 3 | n => n, fun | n => n⟩
theorem Tryz.lays106 : Go.Proofs.Lays.n106 Tryz.prog Tryz.lays106_ren := {
  mixed := by kernel_rfl
  f106 := Tryz.func48.trans (congrArg some (by kernel_rfl))
  f213 := Tryz.func79.trans (congrArg some (by kernel_rfl))
  f265 := Tryz.func107.trans (congrArg some (by kernel_rfl))
  t3 := Tryz.underlying3
  a3 := Tryz.isAgg3
  z3 := Tryz.sizeOf3
  v3 := Tryz.zeroValue3
  t9 := Tryz.underlying9
  a9 := Tryz.isAgg9
  z9 := Tryz.sizeOf9
  v9 := Tryz.zeroValue9 }
open Go.RowKit in
theorem Tryz.strings_Compare (a b : ByteArray) (w : World) :
    Calls Tryz.prog 48 #[.string a, .string b] w fun e w' => e = .returned (.int .i64 (Lib.compareBytes a.data.toList b.data.toList)) ∧ w' = w := Any.strings_Compare Tryz.lays106 a b w
def Tryz.lays196_ren : Go.Shelf.Ren := ⟨fun | 196 => 46 | 259 => 75 | n => n, fun | 9 => 9 | 4 => 4 | 3 => 3 | 5 => 5 | 12 => 12 | 119 => 130 | 0 => 0 | 46 => 134 | 139 => 133 | 138 => 132 | 53 => 171 | n => n, fun | 3 => 0 | 4 => 1 | n => n⟩
theorem Tryz.lays196 : Go.Proofs.Lays.n196 Tryz.prog Tryz.lays196_ren := {
  mixed := by kernel_rfl
  f196 := Tryz.func46.trans (congrArg some (by kernel_rfl))
  f259 := Tryz.func75.trans (congrArg some (by kernel_rfl))
  t0 := Tryz.underlying0
  a0 := Tryz.isAgg0
  z0 := Tryz.sizeOf0
  v0 := Tryz.zeroValue0
  t3 := Tryz.underlying3
  a3 := Tryz.isAgg3
  z3 := Tryz.sizeOf3
  v3 := Tryz.zeroValue3
  t4 := Tryz.underlying4
  a4 := Tryz.isAgg4
  z4 := Tryz.sizeOf4
  v4 := Tryz.zeroValue4
  t5 := Tryz.underlying5
  a5 := Tryz.isAgg5
  z5 := Tryz.sizeOf5
  v5 := Tryz.zeroValue5
  t9 := Tryz.underlying9
  a9 := Tryz.isAgg9
  z9 := Tryz.sizeOf9
  v9 := Tryz.zeroValue9
  t12 := Tryz.underlying12
  a12 := Tryz.isAgg12
  z12 := Tryz.sizeOf12
  v12 := Tryz.zeroValue12
  t46 := Tryz.underlying134
  a46 := Tryz.isAgg134
  z46 := Tryz.sizeOf134
  v46 := Tryz.zeroValue134
  t53 := Tryz.underlying171
  a53 := Tryz.isAgg171
  z53 := Tryz.sizeOf171
  v53 := Tryz.zeroValue171
  t119 := Tryz.underlying130
  a119 := Tryz.isAgg130
  z119 := Tryz.sizeOf130
  t138 := Tryz.underlying132
  a138 := Tryz.isAgg132
  z138 := Tryz.sizeOf132
  v138 := Tryz.zeroValue132
  t139 := Tryz.underlying133
  a139 := Tryz.isAgg133
  z139 := Tryz.sizeOf133
  v139 := Tryz.zeroValue133
  g3 := by kernel_rfl
  g4 := by kernel_rfl }
open Go.RowKit in
theorem Tryz.utf8_ValidString (s : ByteArray) (w : World) (hs : s.size ≤ 9223372036854775807) (hT : Lib.Utf8Tabs 0 1 w) :
    Calls Tryz.prog 46 #[.string s] w fun e w' => e = .returned (.bool (Lib.validD s.data.toList)) ∧ Below w.heap.size w w' := Any.utf8_ValidString Tryz.lays196 s w hs hT
def Tryz.lays99_ren : Go.Shelf.Ren := ⟨fun | 99 => 90 | 206 => 117 | n => n, fun | 9 => 9 | 4 => 4 | 3 => 3 | n => n, fun | n => n⟩
theorem Tryz.lays99 : Go.Proofs.Lays.n99 Tryz.prog Tryz.lays99_ren := {
  mixed := by kernel_rfl
  f99 := Tryz.func90.trans (congrArg some (by kernel_rfl))
  f206 := Tryz.func117.trans (congrArg some (by kernel_rfl))
  t3 := Tryz.underlying3
  a3 := Tryz.isAgg3
  z3 := Tryz.sizeOf3
  v3 := Tryz.zeroValue3
  t4 := Tryz.underlying4
  a4 := Tryz.isAgg4
  z4 := Tryz.sizeOf4
  v4 := Tryz.zeroValue4
  t9 := Tryz.underlying9
  a9 := Tryz.isAgg9
  z9 := Tryz.sizeOf9
  v9 := Tryz.zeroValue9 }
open Go.RowKit in
theorem Tryz.strings_HasPrefix (s p : ByteArray) (w : World) :
    Calls Tryz.prog 90 #[.string s, .string p] w fun e w' => e = .returned (.bool (Lib.hasPrefix s.data.toList p.data.toList)) ∧ w' = w := Any.strings_HasPrefix Tryz.lays99 s p w
def Tryz.lays197_ren : Go.Shelf.Ren := ⟨fun | 197 => 76 | 260 => 105 | n => n, fun | 9 => 9 | 21 => 21 | 3 => 3 | 4 => 4 | 5 => 5 | 105 => 135 | 119 => 130 | 0 => 0 | 46 => 134 | 139 => 133 | 138 => 132 | n => n, fun | 3 => 0 | 4 => 1 | n => n⟩
theorem Tryz.lays197 : Go.Proofs.Lays.n197 Tryz.prog Tryz.lays197_ren := {
  mixed := by kernel_rfl
  f197 := Tryz.func76.trans (congrArg some (by kernel_rfl))
  f260 := Tryz.func105.trans (congrArg some (by kernel_rfl))
  t0 := Tryz.underlying0
  a0 := Tryz.isAgg0
  z0 := Tryz.sizeOf0
  v0 := Tryz.zeroValue0
  t3 := Tryz.underlying3
  a3 := Tryz.isAgg3
  z3 := Tryz.sizeOf3
  v3 := Tryz.zeroValue3
  t4 := Tryz.underlying4
  a4 := Tryz.isAgg4
  z4 := Tryz.sizeOf4
  v4 := Tryz.zeroValue4
  t5 := Tryz.underlying5
  a5 := Tryz.isAgg5
  z5 := Tryz.sizeOf5
  v5 := Tryz.zeroValue5
  t9 := Tryz.underlying9
  a9 := Tryz.isAgg9
  z9 := Tryz.sizeOf9
  v9 := Tryz.zeroValue9
  t21 := Tryz.underlying21
  a21 := Tryz.isAgg21
  z21 := Tryz.sizeOf21
  v21 := Tryz.zeroValue21
  t46 := Tryz.underlying134
  a46 := Tryz.isAgg134
  z46 := Tryz.sizeOf134
  v46 := Tryz.zeroValue134
  t105 := Tryz.underlying135
  a105 := Tryz.isAgg135
  z105 := Tryz.sizeOf135
  v105 := Tryz.zeroValue135
  t119 := Tryz.underlying130
  a119 := Tryz.isAgg130
  z119 := Tryz.sizeOf130
  t138 := Tryz.underlying132
  a138 := Tryz.isAgg132
  z138 := Tryz.sizeOf132
  v138 := Tryz.zeroValue132
  t139 := Tryz.underlying133
  a139 := Tryz.isAgg133
  z139 := Tryz.sizeOf133
  v139 := Tryz.zeroValue133
  g3 := by kernel_rfl
  g4 := by kernel_rfl }
open Go.RowKit in
theorem Tryz.utf8_DecodeRuneInString (s : ByteArray) (w : World) (hT : Lib.Utf8Tabs 0 1 w) :
    Calls Tryz.prog 76 #[.string s] w fun e w' => e = .returned (.tuple #[.int .i32 (Lib.decodeGo s).1, .int .i64 (Lib.decodeGo s).2]) ∧ Below w.heap.size w w' := Any.utf8_DecodeRuneInString Tryz.lays197 s w hT
def Tryz.lays103_ren : Go.Shelf.Ren := ⟨fun | 103 => 140 | 210 => 168 | 206 => 117 | n => n, fun | 9 => 9 | 4 => 4 | 24 => 195 | 3 => 3 | n => n, fun | n => n⟩
theorem Tryz.lays103 : Go.Proofs.Lays.n103 Tryz.prog Tryz.lays103_ren := {
  mixed := by kernel_rfl
  f103 := Tryz.func140.trans (congrArg some (by kernel_rfl))
  f206 := Tryz.func117.trans (congrArg some (by kernel_rfl))
  f210 := Tryz.func168.trans (congrArg some (by kernel_rfl))
  t3 := Tryz.underlying3
  a3 := Tryz.isAgg3
  z3 := Tryz.sizeOf3
  v3 := Tryz.zeroValue3
  t4 := Tryz.underlying4
  a4 := Tryz.isAgg4
  z4 := Tryz.sizeOf4
  v4 := Tryz.zeroValue4
  t9 := Tryz.underlying9
  a9 := Tryz.isAgg9
  z9 := Tryz.sizeOf9
  v9 := Tryz.zeroValue9
  t24 := Tryz.underlying195
  a24 := Tryz.isAgg195
  z24 := Tryz.sizeOf195
  v24 := Tryz.zeroValue195 }
open Go.RowKit in
theorem Tryz.strings_CutPrefix (s p : ByteArray) (w : World) :
    Calls Tryz.prog 140 #[.string s, .string p] w fun e w' => e = .returned (.tuple #[.string ⟨(Lib.trimPrefix s.data.toList p.data.toList).toArray⟩, .bool (Lib.hasPrefix s.data.toList p.data.toList)]) ∧ w' = w := Any.strings_CutPrefix Tryz.lays103 s p w
def Tryz.lays137_ren : Go.Shelf.Ren := ⟨fun | 137 => 123 | 217 => 142 | 266 => 173 | n => n, fun | 9 => 9 | 5 => 5 | 3 => 3 | n => n, fun | n => n⟩
theorem Tryz.lays137 : Go.Proofs.Lays.n137 Tryz.prog Tryz.lays137_ren := {
  mixed := by kernel_rfl
  f137 := Tryz.func123.trans (congrArg some (by kernel_rfl))
  f217 := Tryz.func142.trans (congrArg some (by kernel_rfl))
  f266 := Tryz.func173.trans (congrArg some (by kernel_rfl))
  t3 := Tryz.underlying3
  a3 := Tryz.isAgg3
  z3 := Tryz.sizeOf3
  v3 := Tryz.zeroValue3
  t5 := Tryz.underlying5
  a5 := Tryz.isAgg5
  z5 := Tryz.sizeOf5
  v5 := Tryz.zeroValue5
  t9 := Tryz.underlying9
  a9 := Tryz.isAgg9
  z9 := Tryz.sizeOf9
  v9 := Tryz.zeroValue9 }
open Go.RowKit in
theorem Tryz.strings_IndexByte (s : ByteArray) (c : Int) (w : World) :
    Calls Tryz.prog 123 #[.string s, .int .u8 c] w fun e w' => e = .returned (.int .i64 (Lib.indexByte s.data.toList c.toNat.toUInt8)) ∧ w' = w := Any.strings_IndexByte Tryz.lays137 s c w
def Tryz.lays122_ren : Go.Shelf.Ren := ⟨fun | 122 => 116 | 215 => 134 | n => n, fun | 3 => 3 | 4 => 4 | n => n, fun | n => n⟩
theorem Tryz.lays122 : Go.Proofs.Lays.n122 Tryz.prog Tryz.lays122_ren := {
  mixed := by kernel_rfl
  f122 := Tryz.func116.trans (congrArg some (by kernel_rfl))
  f215 := Tryz.func134.trans (congrArg some (by kernel_rfl))
  t3 := Tryz.underlying3
  a3 := Tryz.isAgg3
  z3 := Tryz.sizeOf3
  v3 := Tryz.zeroValue3
  t4 := Tryz.underlying4
  a4 := Tryz.isAgg4
  z4 := Tryz.sizeOf4
  v4 := Tryz.zeroValue4 }
open Go.RowKit in
theorem Tryz.cmp_Compare_int (x y : Int) (w : World) :
    Calls Tryz.prog 116 #[.int .i64 x, .int .i64 y] w fun e w' => e = .returned (.int .i64 (Lib.compareInt x y)) ∧ w' = w := Any.cmp_Compare_int Tryz.lays122 x y w
def Tryz.lays161_ren : Go.Shelf.Ren := ⟨fun | 161 => 141 | 231 => 169 | 227 => 170 | 233 => 171 | 235 => 172 | 228 => 189 | 197 => 76 | 151 => 190 | 260 => 105 | 152 => 203 | 137 => 123 | 119 => 209 | 224 => 161 | 225 => 160 | 217 => 142 | 266 => 173 | n => n, fun | 9 => 9 | 4 => 4 | 3 => 3 | 5 => 5 | 117 => 222 | 116 => 221 | 0 => 0 | 124 => 225 | 105 => 135 | 21 => 21 | 119 => 130 | 46 => 134 | 139 => 133 | 138 => 132 | n => n, fun | 3 => 0 | 4 => 1 | n => n⟩
theorem Tryz.lays161 : Go.Proofs.Lays.n161 Tryz.prog Tryz.lays161_ren := {
  mixed := by kernel_rfl
  f119 := Tryz.func209.trans (congrArg some (by kernel_rfl))
  f137 := Tryz.func123.trans (congrArg some (by kernel_rfl))
  f151 := Tryz.func190.trans (congrArg some (by kernel_rfl))
  f152 := Tryz.func203.trans (congrArg some (by kernel_rfl))
  f161 := Tryz.func141.trans (congrArg some (by kernel_rfl))
  f197 := Tryz.func76.trans (congrArg some (by kernel_rfl))
  f217 := Tryz.func142.trans (congrArg some (by kernel_rfl))
  f224 := Tryz.func161.trans (congrArg some (by kernel_rfl))
  f225 := Tryz.func160.trans (congrArg some (by kernel_rfl))
  f227 := Tryz.func170.trans (congrArg some (by kernel_rfl))
  f228 := Tryz.func189.trans (congrArg some (by kernel_rfl))
  f231 := Tryz.func169.trans (congrArg some (by kernel_rfl))
  f233 := Tryz.func171.trans (congrArg some (by kernel_rfl))
  f235 := Tryz.func172.trans (congrArg some (by kernel_rfl))
  f260 := Tryz.func105.trans (congrArg some (by kernel_rfl))
  f266 := Tryz.func173.trans (congrArg some (by kernel_rfl))
  t0 := Tryz.underlying0
  a0 := Tryz.isAgg0
  z0 := Tryz.sizeOf0
  v0 := Tryz.zeroValue0
  t3 := Tryz.underlying3
  a3 := Tryz.isAgg3
  z3 := Tryz.sizeOf3
  v3 := Tryz.zeroValue3
  t4 := Tryz.underlying4
  a4 := Tryz.isAgg4
  z4 := Tryz.sizeOf4
  v4 := Tryz.zeroValue4
  t5 := Tryz.underlying5
  a5 := Tryz.isAgg5
  z5 := Tryz.sizeOf5
  v5 := Tryz.zeroValue5
  t9 := Tryz.underlying9
  a9 := Tryz.isAgg9
  z9 := Tryz.sizeOf9
  v9 := Tryz.zeroValue9
  t21 := Tryz.underlying21
  a21 := Tryz.isAgg21
  z21 := Tryz.sizeOf21
  v21 := Tryz.zeroValue21
  t46 := Tryz.underlying134
  a46 := Tryz.isAgg134
  z46 := Tryz.sizeOf134
  v46 := Tryz.zeroValue134
  t105 := Tryz.underlying135
  a105 := Tryz.isAgg135
  z105 := Tryz.sizeOf135
  v105 := Tryz.zeroValue135
  t116 := Tryz.underlying221
  a116 := Tryz.isAgg221
  z116 := Tryz.sizeOf221
  t117 := Tryz.underlying222
  a117 := Tryz.isAgg222
  z117 := Tryz.sizeOf222
  v117 := Tryz.zeroValue222
  t119 := Tryz.underlying130
  a119 := Tryz.isAgg130
  z119 := Tryz.sizeOf130
  t124 := Tryz.underlying225
  a124 := Tryz.isAgg225
  z124 := Tryz.sizeOf225
  v124 := Tryz.zeroValue225
  t138 := Tryz.underlying132
  a138 := Tryz.isAgg132
  z138 := Tryz.sizeOf132
  v138 := Tryz.zeroValue132
  t139 := Tryz.underlying133
  a139 := Tryz.isAgg133
  z139 := Tryz.sizeOf133
  v139 := Tryz.zeroValue133
  g3 := by kernel_rfl
  g4 := by kernel_rfl }
open Go.RowKit in
theorem Tryz.strings_TrimLeft (s cutset : ByteArray) (w : World) (hcs : cutset.size < 4294967281) (hascii : ∀ (j : Nat) b, cutset.data.toList[j]? = some b → b.toNat < 128) :
    Calls Tryz.prog 141 #[.string s, .string cutset] w fun e w' => e = .returned (.string ⟨(Lib.trimLeftS s.data.toList cutset.data.toList).toArray⟩) ∧ Below w.heap.size w w' := Any.strings_TrimLeft_laid Tryz.lays161 (by kernel_rfl) s cutset w hcs hascii
def Tryz.lays145_ren : Go.Shelf.Ren := ⟨fun | 145 => 138 | 220 => 167 | 219 => 132 | 217 => 142 | 225 => 160 | 224 => 161 | 267 => 162 | 266 => 173 | 314 => 184 | n => n, fun | 9 => 9 | 4 => 4 | 59 => 193 | 3 => 3 | 5 => 5 | 46 => 134 | 146 => 237 | 51 => 215 | n => n, fun | 1 => 2 | n => n⟩
theorem Tryz.lays145 : Go.Proofs.Lays.n145 Tryz.prog Tryz.lays145_ren := {
  mixed := by kernel_rfl
  f145 := Tryz.func138.trans (congrArg some (by kernel_rfl))
  f217 := Tryz.func142.trans (congrArg some (by kernel_rfl))
  f219 := Tryz.func132.trans (congrArg some (by kernel_rfl))
  f220 := Tryz.func167.trans (congrArg some (by kernel_rfl))
  f224 := Tryz.func161.trans (congrArg some (by kernel_rfl))
  f225 := Tryz.func160.trans (congrArg some (by kernel_rfl))
  f266 := Tryz.func173.trans (congrArg some (by kernel_rfl))
  f267 := Tryz.func162.trans (congrArg some (by kernel_rfl))
  f314 := Tryz.func184.trans (congrArg some (by kernel_rfl))
  t3 := Tryz.underlying3
  a3 := Tryz.isAgg3
  z3 := Tryz.sizeOf3
  v3 := Tryz.zeroValue3
  t4 := Tryz.underlying4
  a4 := Tryz.isAgg4
  z4 := Tryz.sizeOf4
  v4 := Tryz.zeroValue4
  t5 := Tryz.underlying5
  a5 := Tryz.isAgg5
  z5 := Tryz.sizeOf5
  v5 := Tryz.zeroValue5
  t9 := Tryz.underlying9
  a9 := Tryz.isAgg9
  z9 := Tryz.sizeOf9
  v9 := Tryz.zeroValue9
  t46 := Tryz.underlying134
  a46 := Tryz.isAgg134
  z46 := Tryz.sizeOf134
  v46 := Tryz.zeroValue134
  t51 := Tryz.underlying215
  a51 := Tryz.isAgg215
  z51 := Tryz.sizeOf215
  v51 := Tryz.zeroValue215
  t59 := Tryz.underlying193
  a59 := Tryz.isAgg193
  z59 := Tryz.sizeOf193
  v59 := Tryz.zeroValue193
  t146 := Tryz.underlying237
  a146 := Tryz.isAgg237
  z146 := Tryz.sizeOf237
  v146 := Tryz.zeroValue237
  g1 := by kernel_rfl }
open Go.RowKit in
theorem Tryz.strings_Cut (s sep : ByteArray) (m : Int) (w : World) (hs : s.size < 4294967281) (hm : w.cell? ⟨2, 0, none⟩ = some (.int .i64 m)) :
    Calls Tryz.prog 138 #[.string s, .string sep] w fun e w' => e = .returned (.tuple #[.string ⟨(Lib.cut s.data.toList sep.data.toList).1.toArray⟩, .string ⟨(Lib.cut s.data.toList sep.data.toList).2.1.toArray⟩, .bool (Lib.cut s.data.toList sep.data.toList).2.2]) ∧ ∃ n, w' = w.drewN n := Any.strings_Cut Tryz.lays145 s sep m w hs hm
def Tryz.lays146_ren : Go.Shelf.Ren := ⟨fun | 146 => 114 | 221 => 133 | 268 => 163 | 138 => 164 | 143 => 113 | 195 => 185 | 197 => 76 | 218 => 186 | 219 => 132 | 260 => 105 | 217 => 142 | 225 => 160 | 224 => 161 | 267 => 162 | 266 => 173 | 314 => 184 | n => n, fun | 9 => 9 | 31 => 36 | 3 => 3 | 4 => 4 | 0 => 0 | 105 => 135 | 21 => 21 | 5 => 5 | 46 => 134 | 119 => 130 | 139 => 133 | 138 => 132 | 146 => 237 | 51 => 215 | n => n, fun | 1 => 2 | 3 => 0 | 4 => 1 | n => n⟩
theorem Tryz.lays146 : Go.Proofs.Lays.n146 Tryz.prog Tryz.lays146_ren := {
  mixed := by kernel_rfl
  f138 := Tryz.func164.trans (congrArg some (by kernel_rfl))
  f143 := Tryz.func113.trans (congrArg some (by kernel_rfl))
  f146 := Tryz.func114.trans (congrArg some (by kernel_rfl))
  f195 := Tryz.func185.trans (congrArg some (by kernel_rfl))
  f197 := Tryz.func76.trans (congrArg some (by kernel_rfl))
  f217 := Tryz.func142.trans (congrArg some (by kernel_rfl))
  f218 := Tryz.func186.trans (congrArg some (by kernel_rfl))
  f219 := Tryz.func132.trans (congrArg some (by kernel_rfl))
  f221 := Tryz.func133.trans (congrArg some (by kernel_rfl))
  f224 := Tryz.func161.trans (congrArg some (by kernel_rfl))
  f225 := Tryz.func160.trans (congrArg some (by kernel_rfl))
  f260 := Tryz.func105.trans (congrArg some (by kernel_rfl))
  f266 := Tryz.func173.trans (congrArg some (by kernel_rfl))
  f267 := Tryz.func162.trans (congrArg some (by kernel_rfl))
  f268 := Tryz.func163.trans (congrArg some (by kernel_rfl))
  f314 := Tryz.func184.trans (congrArg some (by kernel_rfl))
  t0 := Tryz.underlying0
  a0 := Tryz.isAgg0
  z0 := Tryz.sizeOf0
  v0 := Tryz.zeroValue0
  t3 := Tryz.underlying3
  a3 := Tryz.isAgg3
  z3 := Tryz.sizeOf3
  v3 := Tryz.zeroValue3
  t4 := Tryz.underlying4
  a4 := Tryz.isAgg4
  z4 := Tryz.sizeOf4
  v4 := Tryz.zeroValue4
  t5 := Tryz.underlying5
  a5 := Tryz.isAgg5
  z5 := Tryz.sizeOf5
  v5 := Tryz.zeroValue5
  t9 := Tryz.underlying9
  a9 := Tryz.isAgg9
  z9 := Tryz.sizeOf9
  v9 := Tryz.zeroValue9
  t21 := Tryz.underlying21
  a21 := Tryz.isAgg21
  z21 := Tryz.sizeOf21
  v21 := Tryz.zeroValue21
  t31 := Tryz.underlying36
  a31 := Tryz.isAgg36
  z31 := Tryz.sizeOf36
  v31 := Tryz.zeroValue36
  t46 := Tryz.underlying134
  a46 := Tryz.isAgg134
  z46 := Tryz.sizeOf134
  v46 := Tryz.zeroValue134
  t51 := Tryz.underlying215
  a51 := Tryz.isAgg215
  z51 := Tryz.sizeOf215
  v51 := Tryz.zeroValue215
  t105 := Tryz.underlying135
  a105 := Tryz.isAgg135
  z105 := Tryz.sizeOf135
  v105 := Tryz.zeroValue135
  t119 := Tryz.underlying130
  a119 := Tryz.isAgg130
  z119 := Tryz.sizeOf130
  t138 := Tryz.underlying132
  a138 := Tryz.isAgg132
  z138 := Tryz.sizeOf132
  v138 := Tryz.zeroValue132
  t139 := Tryz.underlying133
  a139 := Tryz.isAgg133
  z139 := Tryz.sizeOf133
  v139 := Tryz.zeroValue133
  t146 := Tryz.underlying237
  a146 := Tryz.isAgg237
  z146 := Tryz.sizeOf237
  v146 := Tryz.zeroValue237
  g1 := by kernel_rfl
  g3 := by kernel_rfl
  g4 := by kernel_rfl }
open Go.RowKit in
theorem Tryz.strings_Split (s sep : ByteArray) (m : Int) (w : World) (hs : s.size < 4294967281) (hm : w.cell? ⟨2, 0, none⟩ = some (.int .i64 m)) (h1 : 1 ≤ sep.size) :
    Calls Tryz.prog 114 #[.string s, .string sep] w fun e w' =>
      e = .returned (.slice (some ⟨w.heap.size, 0, none⟩) (Lib.countB s sep + 1) (Lib.countB s sep + 1)) ∧ w' = w.alloc (.cells ((Lib.splitB sep 0 (Lib.countB s sep) s).map Value.string).toArray 9) := Any.strings_Split Tryz.lays146 (by kernel_rfl) s sep m w hs hm h1
end Go.Proofs
/- name.smalls, Fold, Key, Compare, Same, Runes: walks. -/
namespace Go.Proofs.YtjamkfkbajhefaaGreatDoor
open Go.RowKit

abbrev UT (w : World) : Prop := Lib.Utf8Tabs 0 1 w

/-- An append of one element onto a row that the call owns; every other block stays. -/
theorem wpl_apps {P : Program} (wr : World) {ops : Array Oper} {rest : List Oper} {o : Oper} {a : Act} {Q : Exit → Act → World → Prop} (hgd : o.guard = none) (s x : Operand) (t e : TypeId)
    (ho : o.op = .call { callee := .builtin .append, args := #[s, x], argTypes := #[t, t] })
    (i : TypeInfo) (z : Value) (bytes : Nat) (ht : P.underlying t = some (.slice e)) (hi : P.info? e = some i) (hz : i.zero = some z)
    (hsize : i.size = 1) (hby : i.bytes = bytes) (hzs : z.cells.size = 1)
    (base : Nat) (v : Value) (n : Nat) (xs : List Value) (hs : a.eval s = v) (hown : wr.ownsRow base e 1 v n xs)
    (el : Value) (N : Nat) (hN : N = wr.heap.size) (hx : a.eval x = .slice (some ⟨N, 0, none⟩) 1 1) (h1 : el.oneCell' = true)
    (hbytes : (n + 1) * bytes ≤ 140737488355328) (h63 : n + 1 ≤ maxLen) (hbase : base ≤ wr.heap.size)
    (h : ∀ v' w', w'.ownsRow base e 1 v' (n + 1) (xs ++ [el]) → Below base wr w' → (∀ b, b < wr.heap.size → v.ownBlock ≠ some b → w'.heap[b]? = wr.heap[b]?) → wpList P ops Q rest (a.put o.dst v') w') :
    wpList P ops Q (o :: rest) a (wr.alloc (.cells #[el] e)) := by
  subst hN
  refine wpList_append_own _ hgd s x t ho base e i z 1 bytes ht hi hz hsize hby hzs (by omega) v n xs hs (hown.alloc _) ⟨wr.heap.size, 0, none⟩ 1 1 [el] hx rfl ?_ ?_ h63 hbytes ?_ ?_
  · intro j u hj
    match j, hj with
    | 0, hj => simp at hj; subst hj; simp [Addr.add]
  · intro u hu; simp at hu; subst hu; exact h1
  · simp; omega
  · intro v' w' h2 h3 h4
    refine h v' w' h2 ?_ ?_
    · exact ((Below.refl _ _).alloc hbase _).grown h3 (by simp; omega) (fun k hk => (hown.lt k hk).1)
    · intro b hb hne
      rw [h3.block b (by simp; omega) (fun e => hne e.symm)]
      exact Below.heap_alloc _ _ _ hb

theorem own_ne_iter {w : World} {base : Nat} {e : TypeId} {sz : Nat} {v : Value} {n : Nat} {xs : List Value} (h : w.ownsRow base e sz v n xs) {k : Nat} {s : ByteArray} {p : Nat} (hk : w.heap[k]? = some (.stringIter s p)) : v.ownBlock ≠ some k := by
  obtain ⟨_, h2⟩ := h
  rcases h2 with ⟨rfl, _⟩ | ⟨g, cap, cur, rfl, _, hg, _⟩
  · simp [Value.ownBlock]
  · intro e1
    simp [Value.ownBlock] at e1
    subst e1
    rw [hk] at hg
    cases hg
theorem own_iter {w : World} {base : Nat} {e : TypeId} {sz : Nat} {v : Value} {n : Nat} {xs : List Value} (h : w.ownsRow base e sz v n xs) {k : Nat} {s : ByteArray} {p : Nat} (hk : w.heap[k]? = some (.stringIter s p)) (p' : Nat) : (w.iterAt k s p').ownsRow base e sz v n xs :=
  h.kept (row := some k) ⟨rfl, rfl, rfl, by rw [Lib.iterAt_size]; exact Nat.le_refl _, fun j _ hj => Lib.iterAt_other w k j s p' (fun e => hj (by rw [e]))⟩ (.inr (own_ne_iter h hk))

def rcells (l : List Nat) : List Value := l.map fun (c : Nat) => Value.int .i32 (c : Int)
theorem info_rune : (Tryz.prog.info? 21).map (fun i => (i.zero, i.size, i.bytes)) = some (some (.int .i32 0), 1, 4) := by kernel_rfl

/-- What smalls leaves. -/
def SmPost (l : List Nat) (w : World) (e : Ending) (w' : World) : Prop :=
  ∃ v, e = .returned v ∧ IsRow w' 1 v l.length (rcells l) ∧ Below w.heap.size w w'
def SmRel (s : ByteArray) (w w1 : World) (t : Value) (wr : World) : Prop :=
  ∃ (pos : Nat) (acc : List Nat), wr.ownsRow w.heap.size 21 1 t acc.length (rcells acc) ∧ wr.heap[w1.heap.size]? = some (.stringIter s pos) ∧ Below w.heap.size w wr ∧ acc ++ (rns (s.data.toList.drop pos)).map smallN = (rns s.data.toList).map smallN ∧ acc.length ≤ pos

set_option maxRecDepth 100000 in
set_option maxHeartbeats 2000000 in
theorem smalls_any (s : ByteArray) (w : World) (hs : s.size ≤ 1000000) :
    Calls Tryz.prog 80 #[.string s] w fun e w' => SmPost ((rns s.data.toList).map smallN) w e w' := by
  obtain ⟨i0, hi0, hz0, hz1, hz2⟩ := info_parts info_rune
  obtain ⟨w1, hmk, hown, hgr⟩ := run_make_own (P := Tryz.prog) w w.heap.size 139 21 i0 _ 1 Tryz.underlying139 hi0 hz0 hz1 .i64 .i64 s.size (by rw [hz2]; omega) (by unfold maxLen; omega) (Nat.le_refl _)
  have hb1 : Below w.heap.size w w1 := (Below.refl w.heap.size w).grown hgr (Nat.le_refl _) (fun k hk => by cases hk)
  have hs1 := hb1.size
  clear hgr
  go_enter Tryz.func80, Tryz.ntmps80
  go_wp2
  go_loopw [3] (fun t wr => SmRel s w w1 t wr) (fun _ wr => s.size - wr.iterPos w1.heap.size)
  case atStart =>
    exact ⟨0, [], hown.alloc (.stringIter s 0), World.iter_heap w1 s 0, hb1.alloc (by omega) (.stringIter s 0), rfl, Nat.le_refl _⟩
  case round =>
    obtain ⟨pos, acc, hown, hit, hbw, hck, hal⟩ := hrel
    have HC : Hid (acc ++ (rns (s.data.toList.drop pos)).map smallN = (rns s.data.toList).map smallN) := hck
    clear hck
    have hsz : w1.heap.size < wr.heap.size := (Array.getElem?_eq_some_iff.1 hit).1
    by_cases hp : pos < s.size
    · have hnx : ∀ ty, (Instr.next (.pointer (some ⟨w1.heap.size, 0, none⟩)) true ty).run Tryz.prog wr = _ := fun ty => Lib.run_next_any_at wr w1.heap.size s pos ty hit hp
      have hwd := Lib.decode_width_pos s pos hp
      have hit2 := Lib.iterAt_heap wr w1.heap.size s pos (pos + (Utf8.decode s pos).2) hit
      have hbw2 := Lib.below_iterAt hbw (k := w1.heap.size) hs1 s (pos + (Utf8.decode s pos).2)
      have hown2 := own_iter hown hit (pos + (Utf8.decode s pos).2)
      have hrl := Lib.rune_le s pos
      have hrn : Hid (rns (s.data.toList.drop pos) = (Utf8.decode s pos).1 :: rns (s.data.toList.drop (pos + (Utf8.decode s pos).2))) := rns_at s pos hp
      have hmeas : Hid (s.size - (pos + (Utf8.decode s pos).2) < s.size - wr.iterPos w1.heap.size) := by
        show _ < _
        rw [iterPos_of hit]; omega
      generalize (Utf8.decode s pos).1 = c at *
      generalize (Utf8.decode s pos).2 = d at *
      generalize hW : wr.iterAt w1.heap.size s (pos + d) = W at *
      have hszW : w1.heap.size < W.heap.size := (Array.getElem?_eq_some_iff.1 hit2).1
      have hne := own_ne_iter hown2 hit2
      have HC2 : Hid ((acc ++ [smallN c]) ++ (rns (s.data.toList.drop (pos + d))).map smallN = (rns s.data.toList).map smallN) := by
        show _ = _; rw [← HC.out, hrn.out]; simp
      have HX : Hid (rcells acc ++ [Value.int .i32 (smallN c : Nat)] = rcells (acc ++ [smallN c])) := by show _ = _; simp [rcells]
      clear HC hrn hW hown
      go_wp2_with (first | (go_at_call 78; refine (small_any _ _ (by omega) (by omega)).mono ?_; rintro e w' ⟨rfl, rfl⟩; rw [smallZ_nat]) | (at_builtin; refine wpl_apps _ rfl (.tmp 14) (.tmp 17) 139 21 rfl i0 _ 4 Tryz.underlying139 hi0 hz0 hz1 hz2 rfl _ _ _ _ rfl hown2 (.int .i32 (smallN c : Nat)) _ rfl rfl rfl (by omega) (by unfold maxLen; omega) (by omega) ?_; intro v3 w3 hown3 hb3 hst3))
      have hit3 : Hid (w3.heap[w1.heap.size]? = some (.stringIter s (pos + d))) := (hst3 _ hszW hne).trans hit2
      have hmW : Hid (w3.iterPos w1.heap.size = pos + d) := iterPos_of hit3.out
      have HO : Hid (w3.ownsRow w.heap.size 21 1 v3 (acc ++ [smallN c]).length (rcells (acc ++ [smallN c]))) := by
        show World.ownsRow _ _ _ _ _ _ _
        rw [← HX.out, List.length_append]
        exact hown3
      have HB : Hid (Below w.heap.size w w3) := hbw2.trans hb3
      clear hst3 hown3 hb3 hown2 hit2 hbw2
      go_wp2
      go_roundw
      case rel => exact ⟨pos + d, acc ++ [smallN c], HO.out, hit3.out, HB.out, HC2.out, by simp; omega⟩
      case measure => rw [hmW.out]; exact hmeas.out
    · have hnx : ∀ ty, (Instr.next (.pointer (some ⟨w1.heap.size, 0, none⟩)) true ty).run Tryz.prog wr = _ := fun ty => Lib.run_next_end_at wr w1.heap.size s pos ty hit hp
      have HC2 : Hid (acc = (rns s.data.toList).map smallN) := by show _ = _; rw [← HC.out, rns_end s pos hp]; simp
      have HO : Hid (IsRow wr 1 u3 acc.length (rcells acc)) := IsRow.own hown
      clear HC hown
      go_wp2
      go_ret
      refine ⟨_, rfl, ?_, hbw⟩
      rw [← HC2.out]
      exact HO.out
end Go.Proofs.YtjamkfkbajhefaaGreatDoor
/- name.Fold, Key, Compare, Same, Runes; the law's awake: walks. -/
namespace Go.Proofs.YtjamkfkbajhefaaGreatDoor
open Go.RowKit

theorem ba_eq {a b : ByteArray} (h : a.data.toList = b.data.toList) : a = b := by
  cases a; cases b
  simp only [Array.toList_inj] at h
  rw [h]
theorem ba_append (a b : ByteArray) : (a ++ b).data.toList = a.data.toList ++ b.data.toList := by
  rw [ByteArray.data_append, Array.toList_append]
set_option maxRecDepth 100000 in
theorem runesBytes_enc : ∀ (l : List Nat) (s : ByteArray), ((l.map fun (c : Nat) => (c : Int)).foldl (fun r n => r ++ Utf8.encode n) s).data.toList = s.data.toList ++ l.flatMap enc
  | [], s => by simp
  | c :: l, s => by
    rw [List.map_cons, List.foldl_cons, runesBytes_enc l, ba_append, List.flatMap_cons, List.append_assoc]
    rfl
/-- Bytes as a text. -/
def str (l : List UInt8) : ByteArray := ⟨l.toArray⟩
theorem str_data (l : List UInt8) : (str l).data.toList = l := by simp [str]
theorem str_of (s : ByteArray) : str s.data.toList = s := by cases s; simp [str]
theorem str_size (l : List UInt8) : (str l).size = l.length := by simp [str, ByteArray.size]
theorem conv_runes {w : World} {v : Value} {l : List Nat} (h : IsRow w 1 v l.length (rcells l)) :
    (convert 139 9 v).run Tryz.prog w = .ok (.string (str (l.flatMap enc))) w := by
  have e : runesBytes (l.map fun (c : Nat) => (c : Int)) = str (l.flatMap enc) := ba_eq (by
    rw [str_data]
    unfold runesBytes
    rw [runesBytes_enc]
    rfl)
  rw [← e]
  rcases h.2 with ⟨h0, a, cap, rfl⟩ | ⟨b, off, cap, rfl, hb, hc, hm, hcell⟩
  · have hl : l = [] := List.eq_nil_of_length_eq_zero h0
    subst hl
    cases a with
    | none => exact run_convert_runes_nil w _ _ 21 _ _ Tryz.underlying139 Tryz.underlying21 Tryz.underlying9
    | some a => exact run_convert_runes w _ _ 21 a 0 cap [] (by simp) Tryz.underlying139 Tryz.underlying21 Tryz.underlying9 (by intro j hj; simp at hj)
  · have := run_convert_runes (P := Tryz.prog) w 139 9 21 ⟨b, off, none⟩ l.length cap (l.map fun (c : Nat) => (c : Int)) (by simp) Tryz.underlying139 Tryz.underlying21 Tryz.underlying9 (by
      intro j hj
      have hj' : j < l.length := by simpa using hj
      have e1 : (⟨b, off, none⟩ : Addr).add j = ⟨b, off + j, none⟩ := by unfold Addr.add; split <;> simp_all
      rw [e1, hcell j (.int .i32 (l[j] : Nat)) (by simp [rcells, hj'])]
      simp [List.getD, hj'])
    rw [this]
    have e2 : (l.map fun (c : Nat) => (c : Int)).take l.length = l.map fun (c : Nat) => (c : Int) := List.take_of_length_le (by simp)
    rw [e2]

set_option maxHeartbeats 1000000 in
theorem fold_any (s : ByteArray) (w : World) (hs : s.size ≤ 1000000) (hT : UT w) :
    Calls Tryz.prog 49 #[.string s] w fun e w' => e = .returned (.string (str (foldL s.data.toList))) ∧ Below w.heap.size w w' := by
  by_cases hv : Lib.validD s.data.toList = true
  · have HF : Hid (str (((rns s.data.toList).map smallN).flatMap enc) = str (foldL s.data.toList)) := by show _ = _; rw [foldL, if_pos hv]
    go_enter Tryz.func49, Tryz.ntmps49
    go_wp2_with fail
    refine (Tryz.utf8_ValidString s _ (by omega) hT).mono ?_
    rintro e w1 ⟨rfl, hb1⟩
    rw [hv]
    go_wp2_with fail
    refine (smalls_any s _ hs).mono ?_
    rintro e w2 ⟨v2, rfl, hv2, hb2⟩
    have hcv := conv_runes hv2
    rw [HF.out] at hcv
    have hb : Hid (Below w.heap.size w w2) := hb1.trans (hb2.mono hb1.size)
    clear hb1 hb2 hv2
    go_wp2
    go_ret
    exact ⟨rfl, hb.out⟩
  · have hv' : Lib.validD s.data.toList = false := by simpa using hv
    have HF : Hid (s = str (foldL s.data.toList)) := by show _ = _; rw [foldL, if_neg hv, str_of]
    go_enter Tryz.func49, Tryz.ntmps49
    go_wp2_with fail
    refine (Tryz.utf8_ValidString s _ (by omega) hT).mono ?_
    rintro e w1 ⟨rfl, hb1⟩
    rw [hv']
    go_wp2
    go_ret
    exact ⟨by rw [← HF.out]; rfl, hb1⟩

def cmpL (a b : List UInt8) : Int := Lib.compareBytes (foldL a) (foldL b)
def sameL (a b : List UInt8) : Bool := decide (foldL a = foldL b)
end Go.Proofs.YtjamkfkbajhefaaGreatDoor
/- The bytes of UTF-8 stand as the runes do: plain, of no program. -/
namespace Go.Proofs.YtjamkfkbajhefaaGreatDoor
open Go.Lib
set_option maxRecDepth 100000

/-- How rows of runes stand. -/
def cmpR : List Nat → List Nat → Int
  | [], [] => 0
  | [], _ :: _ => -1
  | _ :: _, [] => 1
  | a :: k, b :: l => if a < b then -1 else if b < a then 1 else cmpR k l
theorem cb_lt {m n : Nat} (hn : n < 256) (h : m < n) (x y : List UInt8) : compareBytes (UInt8.ofNat m :: x) (UInt8.ofNat n :: y) = -1 := by
  have e : UInt8.ofNat m < UInt8.ofNat n := by
    rw [UInt8.lt_iff_toNat_lt, toNat_of (by omega), toNat_of hn]
    exact h
  simp [compareBytes, e]
theorem cb_eq (b : UInt8) (x y : List UInt8) : compareBytes (b :: x) (b :: y) = compareBytes x y := by
  simp [compareBytes]
theorem cb_pre : ∀ (p x y : List UInt8), compareBytes (p ++ x) (p ++ y) = compareBytes x y
  | [], _, _ => rfl
  | b :: p, x, y => by rw [List.cons_append, List.cons_append, cb_eq, cb_pre p x y]
/-- Of two first bytes, and what stands behind them. -/
theorem cb_step {m n : Nat} (hn : n < 256) (x y : List UInt8) (h : m < n ∨ (m = n ∧ compareBytes x y = -1)) : compareBytes (UInt8.ofNat m :: x) (UInt8.ofNat n :: y) = -1 := by
  rcases h with h | ⟨rfl, h⟩
  · exact cb_lt hn h x y
  · rw [cb_eq]; exact h
theorem enc_lt {c d : Nat} (hc : scal c) (hd : scal d) (h : c < d) (x y : List UInt8) : compareBytes (enc c ++ x) (enc d ++ y) = -1 := by
  have hd' := hd
  unfold scal at hd'
  by_cases d1 : d < 128
  · rw [enc1 d1, enc1 (by omega)]
    exact cb_lt (by omega) h _ _
  by_cases d2 : d < 2048
  · rw [enc2 (by omega) d2]
    by_cases c1 : c < 128
    · rw [enc1 c1]
      exact cb_lt (by omega) (by omega) _ _
    · rw [enc2 (by omega) (by omega)]
      refine cb_step (by omega) _ _ ?_
      by_cases e : c / 64 = d / 64
      · exact .inr ⟨by omega, cb_step (by omega) _ _ (.inl (by omega))⟩
      · exact .inl (by omega)
  by_cases d3 : d < 65536
  · rw [enc3 (by omega) d3 hd]
    by_cases c1 : c < 128
    · rw [enc1 c1]
      exact cb_lt (by omega) (by omega) _ _
    by_cases c2 : c < 2048
    · rw [enc2 (by omega) (by omega)]
      exact cb_lt (by omega) (by omega) _ _
    · rw [enc3 (by omega) (by omega) hc]
      refine cb_step (by omega) _ _ ?_
      by_cases e : c / 4096 = d / 4096
      · refine .inr ⟨by omega, cb_step (by omega) _ _ ?_⟩
        by_cases e2 : c / 64 % 64 = d / 64 % 64
        · exact .inr ⟨by omega, cb_step (by omega) _ _ (.inl (by omega))⟩
        · exact .inl (by omega)
      · exact .inl (by omega)
  · rw [enc4 (by omega) hd]
    by_cases c1 : c < 128
    · rw [enc1 c1]
      exact cb_lt (by omega) (by omega) _ _
    by_cases c2 : c < 2048
    · rw [enc2 (by omega) (by omega)]
      exact cb_lt (by omega) (by omega) _ _
    by_cases c3 : c < 65536
    · rw [enc3 (by omega) (by omega) hc]
      exact cb_lt (by omega) (by omega) _ _
    · rw [enc4 (by omega) hc]
      refine cb_step (by omega) _ _ ?_
      by_cases e : c / 262144 = d / 262144
      · refine .inr ⟨by omega, cb_step (by omega) _ _ ?_⟩
        by_cases e2 : c / 4096 % 64 = d / 4096 % 64
        · refine .inr ⟨by omega, cb_step (by omega) _ _ ?_⟩
          by_cases e3 : c / 64 % 64 = d / 64 % 64
          · exact .inr ⟨by omega, cb_step (by omega) _ _ (.inl (by omega))⟩
          · exact .inl (by omega)
        · exact .inl (by omega)
      · exact .inl (by omega)
theorem cb_anti : ∀ (a b : List UInt8), compareBytes a b = - compareBytes b a
  | [], [] => rfl
  | [], b :: l => by simp [compareBytes]
  | a :: k, [] => by simp [compareBytes]
  | a :: k, b :: l => by
    simp only [compareBytes]
    by_cases h1 : a < b
    · have h2 : ¬ b < a := UInt8.lt_asymm h1
      simp [h1, h2]
    · by_cases h2 : b < a
      · simp [h1, h2]
      · simp [h1, h2, cb_anti k l]
theorem enc_cons (c : Nat) : ∃ b t, enc c = b :: t := by
  have := enc_len c
  cases h : enc c with
  | nil => rw [h] at this; simp at this
  | cons b t => exact ⟨b, t, rfl⟩
/-- The bytes of runes stand as the runes. -/
theorem cmp_enc : ∀ (a b : List Nat), (∀ c ∈ a, scal c) → (∀ c ∈ b, scal c) → compareBytes (a.flatMap enc) (b.flatMap enc) = cmpR a b
  | [], [], _, _ => rfl
  | [], b :: l, _, _ => by
    obtain ⟨x, t, e⟩ := enc_cons b
    rw [List.flatMap_cons, e]
    rfl
  | a :: k, [], _, _ => by
    obtain ⟨x, t, e⟩ := enc_cons a
    rw [List.flatMap_cons, e]
    rfl
  | a :: k, b :: l, ha, hb => by
    have ih := cmp_enc k l (fun x hx => ha x (List.mem_cons_of_mem _ hx)) (fun x hx => hb x (List.mem_cons_of_mem _ hx))
    rw [List.flatMap_cons, List.flatMap_cons, cmpR]
    by_cases h1 : a < b
    · rw [if_pos h1]
      exact enc_lt (ha a (by simp)) (hb b (by simp)) h1 _ _
    · by_cases h2 : b < a
      · rw [if_neg h1, if_pos h2, cb_anti, enc_lt (hb b (by simp)) (ha a (by simp)) h2]
        rfl
      · have e : a = b := by omega
        subst e
        rw [if_neg h1, if_neg h2, cb_pre, ih]
end Go.Proofs.YtjamkfkbajhefaaGreatDoor
/- The reference's tail and First: walks. -/
namespace Go.Proofs.YtjamkfkbajhefaaGreatDoor
open Go.RowKit Go.Lib

/-- A byte by its number; 0 beyond the end. -/
def gN (s : ByteArray) (i : Nat) : Nat := (s.get! i).toNat
theorem gN_lt (s : ByteArray) (i : Nat) : gN s i < 256 := (s.get! i).toNat_lt
theorem gN_of (s : ByteArray) (i : Nat) (h : i < s.size) : (s[i]'h).toNat = gN s i := by
  cases s with
  | mk d =>
    show (d[i]'h).toNat = (d[i]!).toNat
    rw [getElem!_pos d i h]
def tl (s : ByteArray) (i : Nat) : Bool := decide (i < s.size ∧ 128 ≤ gN s i ∧ gN s i < 192)

/-- The rune at the front and its width; (0, 0): there is none. -/
def fst (s : ByteArray) : Nat × Nat := if s.size = 0 ∨ ((Utf8.decode s 0).1 = 65533 ∧ (Utf8.decode s 0).2 = 1) then (0, 0) else Utf8.decode s 0
theorem below_dN {B : Nat} {a w : World} (h : Below B a w) : ∀ q, Below B a (w.drewN q)
  | 0 => h
  | q + 1 => (below_dN h q).drew
end Go.Proofs.YtjamkfkbajhefaaGreatDoor
/- The reference's Valid and Runes: walks. -/
namespace Go.Proofs.YtjamkfkbajhefaaGreatDoor
open Go.RowKit Go.Lib

theorem ext_list (s : ByteArray) (pos : Nat) : (s.extract pos s.size).data.toList = s.data.toList.drop pos := by
  rw [extract_data]
  apply List.take_of_length_le
  rw [List.length_drop, Array.length_toList]
  exact Nat.le_refl _
theorem drop_ne (s : ByteArray) (pos : Nat) (h : pos < s.size) : s.data.toList.drop pos ≠ [] := by
  intro e
  have := congrArg List.length e
  rw [List.length_drop, Array.length_toList] at this
  have e2 : s.data.size = s.size := rfl
  simp at this
  omega
theorem width_le (s : ByteArray) (pos : Nat) (h : pos < s.size) : pos + (Utf8.decode s pos).2 ≤ s.size := by
  have h1 := decodeL_le _ (drop_ne s pos h)
  rw [decodeL_drop, List.length_drop, Array.length_toList] at h1
  have e2 : s.data.size = s.size := rfl
  omega
def icells (l : List Nat) : List Value := l.map fun (c : Nat) => Value.int .i64 (c : Int)
end Go.Proofs.YtjamkfkbajhefaaGreatDoor
