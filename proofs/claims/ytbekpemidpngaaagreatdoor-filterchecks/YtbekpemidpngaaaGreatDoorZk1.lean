/- name.Check and name.Hash: walks, at every text. -/
import Derived.Test.YtbekpemidpngaaaGreatDoorZk0
import Derived.Lib.OthersKept
import Derived.BigCall
import Derived.Shelf.Small.Strs
import Derived.Shelf.Unicode.ValidAny
import Derived.Shelf.Utf8.RuneCount
import Derived.Shelf.Strings.Prefix
import Derived.Shelf.Unicode.DecodeAny
import Derived.Shelf.Small.Wraps
import Derived.Shelf.Strings.SlTrimAscii
import Derived.Shelf.Strings.Cut
import Derived.Shelf.Strings.Split
import Derived.Test.YtbekpemidpngaaaGreatDoorProg
namespace Go.Proofs.YtbekpemidpngaaaGreatDoor
open Go.RowKit

/-- What holds of Check's loop at every round. -/
def CkRel (s : ByteArray) (w : World) (p r f : Value) (wr : World) : Prop :=
  ∃ (pos P R : Nat) (F : Bool), p = .int .i64 P ∧ r = .int .i64 R ∧ f = .bool F ∧ wr.heap[w.heap.size]? = some (.stringIter s pos) ∧ Below w.heap.size w wr ∧ chk P R F (rns (s.data.toList.drop pos)) = checkL s.data.toList ∧ P ≤ pos + 1 ∧ R ≤ pos

set_option maxRecDepth 100000 in
set_option maxHeartbeats 2000000 in
theorem check_any (s : ByteArray) (w : World) (hs : s.size ≤ 140737488355328) :
    Calls Tryz.prog 49 #[.string s] w fun e w' => e = .returned (.int .i64 (checkL s.data.toList)) ∧ Below w.heap.size w w' := by
  go_enter Tryz.func49, Tryz.ntmps49
  go_wp2
  go_loopw [3, 4, 5] (fun p r f wr => CkRel s w p r f wr) (fun _ _ _ wr => s.size - wr.iterPos w.heap.size)
  case atStart =>
    refine ⟨0, 1, 0, true, rfl, rfl, rfl, ?_, (Below.refl _ _).alloc (Nat.le_refl _) _, rfl, by omega, by omega⟩
    have := World.iter_heap w s 0
    simpa using this
  case round =>
    obtain ⟨pos, P, R, F, rfl, rfl, rfl, hit, hbw, hck, hP, hR⟩ := hrel
    have HC : Hid (chk P R F (rns (s.data.toList.drop pos)) = checkL s.data.toList) := hck
    clear hck
    have hsz : w.heap.size < wr.heap.size := (Array.getElem?_eq_some_iff.1 hit).1
    by_cases hp : pos < s.size
    · have hnx : ∀ ty, (Instr.next (.pointer (some ⟨w.heap.size, 0, none⟩)) true ty).run Tryz.prog wr = _ := fun ty => Lib.run_next_any_at wr w.heap.size s pos ty hit hp
      have hwd := Lib.decode_width_pos s pos hp
      have hit2 := Lib.iterAt_heap wr w.heap.size s pos (pos + (Utf8.decode s pos).2) hit
      have hbw2 := Lib.below_iterAt hbw (k := w.heap.size) (Nat.le_refl _) s (pos + (Utf8.decode s pos).2)
      have hrn : Hid (rns (s.data.toList.drop pos) = (Utf8.decode s pos).1 :: rns (s.data.toList.drop (pos + (Utf8.decode s pos).2))) := rns_at s pos hp
      have hmeas : Hid (s.size - (pos + (Utf8.decode s pos).2) < s.size - wr.iterPos w.heap.size) := by
        show _ < _
        rw [iterPos_of hit]; omega
      generalize (Utf8.decode s pos).1 = c at *
      generalize (Utf8.decode s pos).2 = d at *
      generalize hW : wr.iterAt w.heap.size s (pos + d) = W at *
      have hmW : Hid (W.iterPos w.heap.size = pos + d) := iterPos_of hit2
      have HC2 : Hid (chk P R F (c :: rns (s.data.toList.drop (pos + d))) = checkL s.data.toList) := by show _ = _; rw [← hrn.out]; exact HC.out
      have hbz := beginsZ_nat c
      by_cases hb : beginsN c = true
      · rw [hb] at hbz
        have HC3 : Hid (chk P (R + 1) false (rns (s.data.toList.drop (pos + d))) = checkL s.data.toList) := by
          show _ = _; rw [← HC2.out]; simp [chk, hb]
        clear HC HC2 hrn hb
        go_wp2_with (go_at_call 83; refine (begins_any _ _).mono ?_; rintro e w' ⟨rfl, rfl⟩)
        go_roundw
        case rel => exact ⟨pos + d, P, R + 1, false, rfl, by go_num, rfl, hit2, hbw2, HC3.out, by omega, by omega⟩
        case measure => rw [hmW.out]; exact hmeas.out
      · have hb' : beginsN c = false := by simpa using hb
        rw [hb'] at hbz
        cases F
        · by_cases h46 : c = 46
          · have h46' : ((c : Int) == 46) = true := by rw [beq_iff_eq]; omega
            have HC3 : Hid (chk (P + 1) (R + 1) true (rns (s.data.toList.drop (pos + d))) = checkL s.data.toList) := by
              show _ = _; rw [← HC2.out]; simp [chk, h46, show beginsN 46 = false by decide]
            clear HC HC2 hrn hb hb' h46
            go_wp2_with (go_at_call 83; refine (begins_any _ _).mono ?_; rintro e w' ⟨rfl, rfl⟩)
            go_roundw
            case rel => exact ⟨pos + d, P + 1, R + 1, true, by go_num, by go_num, rfl, hit2, hbw2, HC3.out, by omega, by omega⟩
            case measure => rw [hmW.out]; exact hmeas.out
          · have h46' : ((c : Int) == 46) = false := by rw [beq_eq_false_iff_ne]; omega
            by_cases h45 : c = 45
            · have h45' : ((c : Int) != 45) = false := by rw [bne_eq_false_iff_eq]; omega
              have HC3 : Hid (chk P (R + 1) false (rns (s.data.toList.drop (pos + d))) = checkL s.data.toList) := by
                show _ = _; rw [← HC2.out]; simp [chk, h45, show beginsN 45 = false by decide]
              clear HC HC2 hrn hb hb' h46 h45
              go_wp2_with (first | (go_at_call 83; refine (begins_any _ _).mono ?_; rintro e w' ⟨rfl, rfl⟩) | (go_at_call 84; refine (within_any _ _ _ _).mono ?_; rintro e w' ⟨rfl, rfl⟩))
              go_roundw
              case rel => exact ⟨pos + d, P, R + 1, false, rfl, by go_num, rfl, hit2, hbw2, HC3.out, by omega, by omega⟩
              case measure => rw [hmW.out]; exact hmeas.out
            · have h45' : ((c : Int) != 45) = true := by rw [bne_iff_ne]; omega
              by_cases hdg : 48 ≤ c ∧ c ≤ 57
              · have hin : inR (c : Int) 48 57 = true := by simp only [inR, decide_eq_true_eq]; omega
                have HC3 : Hid (chk P (R + 1) false (rns (s.data.toList.drop (pos + d))) = checkL s.data.toList) := by
                  show _ = _; rw [← HC2.out]; simp [chk, hb', h46, hdg]
                clear HC HC2 hrn hb hb' h46 h45 hdg
                go_wp2_with (first | (go_at_call 83; refine (begins_any _ _).mono ?_; rintro e w' ⟨rfl, rfl⟩) | (go_at_call 84; refine (within_any _ _ _ _).mono ?_; rintro e w' ⟨rfl, rfl⟩))
                go_roundw
                case rel => exact ⟨pos + d, P, R + 1, false, rfl, by go_num, rfl, hit2, hbw2, HC3.out, by omega, by omega⟩
                case measure => rw [hmW.out]; exact hmeas.out
              · have hin : inR (c : Int) 48 57 = false := by simp only [inR, decide_eq_false_iff_not]; omega
                have HC3 : Hid (3 = checkL s.data.toList) := by
                  show _ = _; rw [← HC2.out]; simp [chk, hb', h46, h45, hdg]
                clear HC HC2 hrn hb hb' h46 h45 hdg
                go_wp2_with (first | (go_at_call 83; refine (begins_any _ _).mono ?_; rintro e w' ⟨rfl, rfl⟩) | (go_at_call 84; refine (within_any _ _ _ _).mono ?_; rintro e w' ⟨rfl, rfl⟩))
                go_ret
                exact ⟨by rw [← HC3.out]; rfl, hbw2⟩
        · have HC3 : Hid (3 = checkL s.data.toList) := by
            show _ = _; rw [← HC2.out]; simp [chk, hb']
          clear HC HC2 hrn hb hb'
          go_wp2_with (go_at_call 83; refine (begins_any _ _).mono ?_; rintro e w' ⟨rfl, rfl⟩)
          go_ret
          exact ⟨by rw [← HC3.out]; rfl, hbw2⟩
    · have hnx : ∀ ty, (Instr.next (.pointer (some ⟨w.heap.size, 0, none⟩)) true ty).run Tryz.prog wr = _ := fun ty => Lib.run_next_end_at wr w.heap.size s pos ty hit hp
      have HC2 : Hid (chk P R F [] = checkL s.data.toList) := by show _ = _; rw [← HC.out, rns_end s pos hp]
      clear HC
      cases F
      · by_cases h5 : 5 < P
        · have h5' : (5 : Int) < P := by omega
          have HC3 : Hid (2 = checkL s.data.toList) := by show _ = _; rw [← HC2.out]; simp [chk, h5]
          clear HC2
          go_wp2
          go_ret
          exact ⟨by rw [← HC3.out]; rfl, hbw⟩
        · have h5' : decide ((5 : Int) < P) = false := by simp; omega
          by_cases h40 : 40 < R
          · have h40' : decide ((40 : Int) < R) = true := by simp; omega
            have HC3 : Hid (2 = checkL s.data.toList) := by show _ = _; rw [← HC2.out]; simp [chk, h40]
            clear HC2
            go_wp2
            go_ret
            exact ⟨by rw [← HC3.out]; rfl, hbw⟩
          · have h40' : decide ((40 : Int) < R) = false := by simp; omega
            have HC3 : Hid (0 = checkL s.data.toList) := by show _ = _; rw [← HC2.out]; simp [chk, h40, h5]
            clear HC2
            go_wp2
            go_ret
            exact ⟨by rw [← HC3.out]; rfl, hbw⟩
      · have HC3 : Hid (3 = checkL s.data.toList) := by show _ = _; rw [← HC2.out]; simp [chk]
        clear HC2
        go_wp2
        go_ret
        exact ⟨by rw [← HC3.out]; rfl, hbw⟩

theorem take_byte (s : ByteArray) (k : Nat) (h : k < s.size) : s.data.toList.take (k + 1) = s.data.toList.take k ++ [s[k]] := by
  rw [List.take_succ_eq_append_getElem (show k < s.data.toList.length by rw [Array.length_toList]; exact h)]
  rfl
theorem take_bytes (s : ByteArray) : s.data.toList.take s.size = s.data.toList := List.take_of_length_le (by rw [Array.length_toList]; exact Nat.le_refl _)

end Go.Proofs.YtbekpemidpngaaaGreatDoor
/- The shelf's contracts that names need, at this program, laid by the shelf's tool in plain words. -/
namespace Go.Proofs
open Go.Shelf
def Tryz.lays106_ren : Go.Shelf.Ren := ⟨fun | 106 => 67 | 213 => 100 | 265 => 130 | n => n, fun | 9 => 9 | 3 => 3 | n => n, fun | n => n⟩
theorem Tryz.lays106 : Go.Proofs.Lays.n106 Tryz.prog Tryz.lays106_ren := {
  mixed := by kernel_rfl
  f106 := Tryz.func67.trans (congrArg some (by kernel_rfl))
  f213 := Tryz.func100.trans (congrArg some (by kernel_rfl))
  f265 := Tryz.func130.trans (congrArg some (by kernel_rfl))
  t3 := Tryz.underlying3
  a3 := Tryz.isAgg3
  z3 := Tryz.sizeOf3
  v3 := Tryz.zeroValue3
  t9 := Tryz.underlying9
  a9 := Tryz.isAgg9
  z9 := Tryz.sizeOf9
  v9 := Tryz.zeroValue9 }
open Go.RowKit in
theorem Tryz.strings_Compare (a b : ByteArray) (w : World) :
    Calls Tryz.prog 67 #[.string a, .string b] w fun e w' => e = .returned (.int .i64 (Lib.compareBytes a.data.toList b.data.toList)) ∧ w' = w := Any.strings_Compare Tryz.lays106 a b w
def Tryz.lays196_ren : Go.Shelf.Ren := ⟨fun | 196 => 65 | 259 => 96 | n => n, fun | 9 => 9 | 4 => 4 | 3 => 3 | 5 => 5 | 12 => 12 | 119 => 143 | 0 => 0 | 46 => 147 | 139 => 146 | 138 => 145 | 53 => 184 | n => n, fun | 3 => 0 | 4 => 1 | n => n⟩
theorem Tryz.lays196 : Go.Proofs.Lays.n196 Tryz.prog Tryz.lays196_ren := {
  mixed := by kernel_rfl
  f196 := Tryz.func65.trans (congrArg some (by kernel_rfl))
  f259 := Tryz.func96.trans (congrArg some (by kernel_rfl))
  t0 := Tryz.underlying0
  a0 := Tryz.isAgg0
  z0 := Tryz.sizeOf0
  v0 := Tryz.zeroValue0
  t3 := Tryz.underlying3
  a3 := Tryz.isAgg3
  z3 := Tryz.sizeOf3
  v3 := Tryz.zeroValue3
  t4 := Tryz.underlying4
  a4 := Tryz.isAgg4
  z4 := Tryz.sizeOf4
  v4 := Tryz.zeroValue4
  t5 := Tryz.underlying5
  a5 := Tryz.isAgg5
  z5 := Tryz.sizeOf5
  v5 := Tryz.zeroValue5
  t9 := Tryz.underlying9
  a9 := Tryz.isAgg9
  z9 := Tryz.sizeOf9
  v9 := Tryz.zeroValue9
  t12 := Tryz.underlying12
  a12 := Tryz.isAgg12
  z12 := Tryz.sizeOf12
  v12 := Tryz.zeroValue12
  t46 := Tryz.underlying147
  a46 := Tryz.isAgg147
  z46 := Tryz.sizeOf147
  v46 := Tryz.zeroValue147
  t53 := Tryz.underlying184
  a53 := Tryz.isAgg184
  z53 := Tryz.sizeOf184
  v53 := Tryz.zeroValue184
  t119 := Tryz.underlying143
  a119 := Tryz.isAgg143
  z119 := Tryz.sizeOf143
  t138 := Tryz.underlying145
  a138 := Tryz.isAgg145
  z138 := Tryz.sizeOf145
  v138 := Tryz.zeroValue145
  t139 := Tryz.underlying146
  a139 := Tryz.isAgg146
  z139 := Tryz.sizeOf146
  v139 := Tryz.zeroValue146
  g3 := by kernel_rfl
  g4 := by kernel_rfl }
open Go.RowKit in
theorem Tryz.utf8_ValidString (s : ByteArray) (w : World) (hs : s.size ≤ 9223372036854775807) (hT : Lib.Utf8Tabs 0 1 w) :
    Calls Tryz.prog 65 #[.string s] w fun e w' => e = .returned (.bool (Lib.validD s.data.toList)) ∧ Below w.heap.size w w' := Any.utf8_ValidString Tryz.lays196 s w hs hT
def Tryz.lays99_ren : Go.Shelf.Ren := ⟨fun | 99 => 93 | 206 => 125 | n => n, fun | 9 => 9 | 4 => 4 | 3 => 3 | n => n, fun | n => n⟩
theorem Tryz.lays99 : Go.Proofs.Lays.n99 Tryz.prog Tryz.lays99_ren := {
  mixed := by kernel_rfl
  f99 := Tryz.func93.trans (congrArg some (by kernel_rfl))
  f206 := Tryz.func125.trans (congrArg some (by kernel_rfl))
  t3 := Tryz.underlying3
  a3 := Tryz.isAgg3
  z3 := Tryz.sizeOf3
  v3 := Tryz.zeroValue3
  t4 := Tryz.underlying4
  a4 := Tryz.isAgg4
  z4 := Tryz.sizeOf4
  v4 := Tryz.zeroValue4
  t9 := Tryz.underlying9
  a9 := Tryz.isAgg9
  z9 := Tryz.sizeOf9
  v9 := Tryz.zeroValue9 }
open Go.RowKit in
theorem Tryz.strings_HasPrefix (s p : ByteArray) (w : World) :
    Calls Tryz.prog 93 #[.string s, .string p] w fun e w' => e = .returned (.bool (Lib.hasPrefix s.data.toList p.data.toList)) ∧ w' = w := Any.strings_HasPrefix Tryz.lays99 s p w
def Tryz.lays197_ren : Go.Shelf.Ren := ⟨fun | 197 => 97 | 260 => 128 | n => n, fun | 9 => 9 | 21 => 21 | 3 => 3 | 4 => 4 | 5 => 5 | 105 => 148 | 119 => 143 | 0 => 0 | 46 => 147 | 139 => 146 | 138 => 145 | n => n, fun | 3 => 0 | 4 => 1 | n => n⟩
theorem Tryz.lays197 : Go.Proofs.Lays.n197 Tryz.prog Tryz.lays197_ren := {
  mixed := by kernel_rfl
  f197 := Tryz.func97.trans (congrArg some (by kernel_rfl))
  f260 := Tryz.func128.trans (congrArg some (by kernel_rfl))
  t0 := Tryz.underlying0
  a0 := Tryz.isAgg0
  z0 := Tryz.sizeOf0
  v0 := Tryz.zeroValue0
  t3 := Tryz.underlying3
  a3 := Tryz.isAgg3
  z3 := Tryz.sizeOf3
  v3 := Tryz.zeroValue3
  t4 := Tryz.underlying4
  a4 := Tryz.isAgg4
  z4 := Tryz.sizeOf4
  v4 := Tryz.zeroValue4
  t5 := Tryz.underlying5
  a5 := Tryz.isAgg5
  z5 := Tryz.sizeOf5
  v5 := Tryz.zeroValue5
  t9 := Tryz.underlying9
  a9 := Tryz.isAgg9
  z9 := Tryz.sizeOf9
  v9 := Tryz.zeroValue9
  t21 := Tryz.underlying21
  a21 := Tryz.isAgg21
  z21 := Tryz.sizeOf21
  v21 := Tryz.zeroValue21
  t46 := Tryz.underlying147
  a46 := Tryz.isAgg147
  z46 := Tryz.sizeOf147
  v46 := Tryz.zeroValue147
  t105 := Tryz.underlying148
  a105 := Tryz.isAgg148
  z105 := Tryz.sizeOf148
  v105 := Tryz.zeroValue148
  t119 := Tryz.underlying143
  a119 := Tryz.isAgg143
  z119 := Tryz.sizeOf143
  t138 := Tryz.underlying145
  a138 := Tryz.isAgg145
  z138 := Tryz.sizeOf145
  v138 := Tryz.zeroValue145
  t139 := Tryz.underlying146
  a139 := Tryz.isAgg146
  z139 := Tryz.sizeOf146
  v139 := Tryz.zeroValue146
  g3 := by kernel_rfl
  g4 := by kernel_rfl }
open Go.RowKit in
theorem Tryz.utf8_DecodeRuneInString (s : ByteArray) (w : World) (hT : Lib.Utf8Tabs 0 1 w) :
    Calls Tryz.prog 97 #[.string s] w fun e w' => e = .returned (.tuple #[.int .i32 (Lib.decodeGo s).1, .int .i64 (Lib.decodeGo s).2]) ∧ Below w.heap.size w w' := Any.utf8_DecodeRuneInString Tryz.lays197 s w hT
def Tryz.lays103_ren : Go.Shelf.Ren := ⟨fun | 103 => 159 | 210 => 173 | 206 => 125 | n => n, fun | 9 => 9 | 4 => 4 | 24 => 202 | 3 => 3 | n => n, fun | n => n⟩
theorem Tryz.lays103 : Go.Proofs.Lays.n103 Tryz.prog Tryz.lays103_ren := {
  mixed := by kernel_rfl
  f103 := Tryz.func159.trans (congrArg some (by kernel_rfl))
  f206 := Tryz.func125.trans (congrArg some (by kernel_rfl))
  f210 := Tryz.func173.trans (congrArg some (by kernel_rfl))
  t3 := Tryz.underlying3
  a3 := Tryz.isAgg3
  z3 := Tryz.sizeOf3
  v3 := Tryz.zeroValue3
  t4 := Tryz.underlying4
  a4 := Tryz.isAgg4
  z4 := Tryz.sizeOf4
  v4 := Tryz.zeroValue4
  t9 := Tryz.underlying9
  a9 := Tryz.isAgg9
  z9 := Tryz.sizeOf9
  v9 := Tryz.zeroValue9
  t24 := Tryz.underlying202
  a24 := Tryz.isAgg202
  z24 := Tryz.sizeOf202
  v24 := Tryz.zeroValue202 }
open Go.RowKit in
theorem Tryz.strings_CutPrefix (s p : ByteArray) (w : World) :
    Calls Tryz.prog 159 #[.string s, .string p] w fun e w' => e = .returned (.tuple #[.string ⟨(Lib.trimPrefix s.data.toList p.data.toList).toArray⟩, .bool (Lib.hasPrefix s.data.toList p.data.toList)]) ∧ w' = w := Any.strings_CutPrefix Tryz.lays103 s p w
def Tryz.lays137_ren : Go.Shelf.Ren := ⟨fun | 137 => 135 | 217 => 146 | 266 => 166 | n => n, fun | 9 => 9 | 5 => 5 | 3 => 3 | n => n, fun | n => n⟩
theorem Tryz.lays137 : Go.Proofs.Lays.n137 Tryz.prog Tryz.lays137_ren := {
  mixed := by kernel_rfl
  f137 := Tryz.func135.trans (congrArg some (by kernel_rfl))
  f217 := Tryz.func146.trans (congrArg some (by kernel_rfl))
  f266 := Tryz.func166.trans (congrArg some (by kernel_rfl))
  t3 := Tryz.underlying3
  a3 := Tryz.isAgg3
  z3 := Tryz.sizeOf3
  v3 := Tryz.zeroValue3
  t5 := Tryz.underlying5
  a5 := Tryz.isAgg5
  z5 := Tryz.sizeOf5
  v5 := Tryz.zeroValue5
  t9 := Tryz.underlying9
  a9 := Tryz.isAgg9
  z9 := Tryz.sizeOf9
  v9 := Tryz.zeroValue9 }
open Go.RowKit in
theorem Tryz.strings_IndexByte (s : ByteArray) (c : Int) (w : World) :
    Calls Tryz.prog 135 #[.string s, .int .u8 c] w fun e w' => e = .returned (.int .i64 (Lib.indexByte s.data.toList c.toNat.toUInt8)) ∧ w' = w := Any.strings_IndexByte Tryz.lays137 s c w
def Tryz.lays122_ren : Go.Shelf.Ren := ⟨fun | 122 => 124 | 215 => 152 | n => n, fun | 3 => 3 | 4 => 4 | n => n, fun | n => n⟩
theorem Tryz.lays122 : Go.Proofs.Lays.n122 Tryz.prog Tryz.lays122_ren := {
  mixed := by kernel_rfl
  f122 := Tryz.func124.trans (congrArg some (by kernel_rfl))
  f215 := Tryz.func152.trans (congrArg some (by kernel_rfl))
  t3 := Tryz.underlying3
  a3 := Tryz.isAgg3
  z3 := Tryz.sizeOf3
  v3 := Tryz.zeroValue3
  t4 := Tryz.underlying4
  a4 := Tryz.isAgg4
  z4 := Tryz.sizeOf4
  v4 := Tryz.zeroValue4 }
open Go.RowKit in
theorem Tryz.cmp_Compare_int (x y : Int) (w : World) :
    Calls Tryz.prog 124 #[.int .i64 x, .int .i64 y] w fun e w' => e = .returned (.int .i64 (Lib.compareInt x y)) ∧ w' = w := Any.cmp_Compare_int Tryz.lays122 x y w
def Tryz.lays161_ren : Go.Shelf.Ren := ⟨fun | 161 => 160 | 231 => 174 | 227 => 175 | 233 => 176 | 235 => 177 | 228 => 188 | 197 => 97 | 151 => 189 | 260 => 128 | 152 => 205 | 137 => 135 | 119 => 215 | 224 => 148 | 225 => 147 | 217 => 146 | 266 => 166 | n => n, fun | 9 => 9 | 4 => 4 | 3 => 3 | 5 => 5 | 117 => 218 | 116 => 217 | 0 => 0 | 124 => 221 | 105 => 148 | 21 => 21 | 119 => 143 | 46 => 147 | 139 => 146 | 138 => 145 | n => n, fun | 3 => 0 | 4 => 1 | n => n⟩
theorem Tryz.lays161 : Go.Proofs.Lays.n161 Tryz.prog Tryz.lays161_ren := {
  mixed := by kernel_rfl
  f119 := Tryz.func215.trans (congrArg some (by kernel_rfl))
  f137 := Tryz.func135.trans (congrArg some (by kernel_rfl))
  f151 := Tryz.func189.trans (congrArg some (by kernel_rfl))
  f152 := Tryz.func205.trans (congrArg some (by kernel_rfl))
  f161 := Tryz.func160.trans (congrArg some (by kernel_rfl))
  f197 := Tryz.func97.trans (congrArg some (by kernel_rfl))
  f217 := Tryz.func146.trans (congrArg some (by kernel_rfl))
  f224 := Tryz.func148.trans (congrArg some (by kernel_rfl))
  f225 := Tryz.func147.trans (congrArg some (by kernel_rfl))
  f227 := Tryz.func175.trans (congrArg some (by kernel_rfl))
  f228 := Tryz.func188.trans (congrArg some (by kernel_rfl))
  f231 := Tryz.func174.trans (congrArg some (by kernel_rfl))
  f233 := Tryz.func176.trans (congrArg some (by kernel_rfl))
  f235 := Tryz.func177.trans (congrArg some (by kernel_rfl))
  f260 := Tryz.func128.trans (congrArg some (by kernel_rfl))
  f266 := Tryz.func166.trans (congrArg some (by kernel_rfl))
  t0 := Tryz.underlying0
  a0 := Tryz.isAgg0
  z0 := Tryz.sizeOf0
  v0 := Tryz.zeroValue0
  t3 := Tryz.underlying3
  a3 := Tryz.isAgg3
  z3 := Tryz.sizeOf3
  v3 := Tryz.zeroValue3
  t4 := Tryz.underlying4
  a4 := Tryz.isAgg4
  z4 := Tryz.sizeOf4
  v4 := Tryz.zeroValue4
  t5 := Tryz.underlying5
  a5 := Tryz.isAgg5
  z5 := Tryz.sizeOf5
  v5 := Tryz.zeroValue5
  t9 := Tryz.underlying9
  a9 := Tryz.isAgg9
  z9 := Tryz.sizeOf9
  v9 := Tryz.zeroValue9
  t21 := Tryz.underlying21
  a21 := Tryz.isAgg21
  z21 := Tryz.sizeOf21
  v21 := Tryz.zeroValue21
  t46 := Tryz.underlying147
  a46 := Tryz.isAgg147
  z46 := Tryz.sizeOf147
  v46 := Tryz.zeroValue147
  t105 := Tryz.underlying148
  a105 := Tryz.isAgg148
  z105 := Tryz.sizeOf148
  v105 := Tryz.zeroValue148
  t116 := Tryz.underlying217
  a116 := Tryz.isAgg217
  z116 := Tryz.sizeOf217
  t117 := Tryz.underlying218
  a117 := Tryz.isAgg218
  z117 := Tryz.sizeOf218
  v117 := Tryz.zeroValue218
  t119 := Tryz.underlying143
  a119 := Tryz.isAgg143
  z119 := Tryz.sizeOf143
  t124 := Tryz.underlying221
  a124 := Tryz.isAgg221
  z124 := Tryz.sizeOf221
  v124 := Tryz.zeroValue221
  t138 := Tryz.underlying145
  a138 := Tryz.isAgg145
  z138 := Tryz.sizeOf145
  v138 := Tryz.zeroValue145
  t139 := Tryz.underlying146
  a139 := Tryz.isAgg146
  z139 := Tryz.sizeOf146
  v139 := Tryz.zeroValue146
  g3 := by kernel_rfl
  g4 := by kernel_rfl }
open Go.RowKit in
theorem Tryz.strings_TrimLeft (s cutset : ByteArray) (w : World) (hcs : cutset.size < 4294967281) (hascii : ∀ (j : Nat) b, cutset.data.toList[j]? = some b → b.toNat < 128) :
    Calls Tryz.prog 160 #[.string s, .string cutset] w fun e w' => e = .returned (.string ⟨(Lib.trimLeftS s.data.toList cutset.data.toList).toArray⟩) ∧ Below w.heap.size w w' := Any.strings_TrimLeft_laid Tryz.lays161 (by kernel_rfl) s cutset w hcs hascii
def Tryz.lays145_ren : Go.Shelf.Ren := ⟨fun | 145 => 157 | 220 => 172 | 219 => 116 | 217 => 146 | 225 => 147 | 224 => 148 | 267 => 149 | 266 => 166 | 314 => 167 | n => n, fun | 9 => 9 | 4 => 4 | 59 => 200 | 3 => 3 | 5 => 5 | 46 => 147 | 146 => 211 | 51 => 210 | n => n, fun | 1 => 2 | n => n⟩
theorem Tryz.lays145 : Go.Proofs.Lays.n145 Tryz.prog Tryz.lays145_ren := {
  mixed := by kernel_rfl
  f145 := Tryz.func157.trans (congrArg some (by kernel_rfl))
  f217 := Tryz.func146.trans (congrArg some (by kernel_rfl))
  f219 := Tryz.func116.trans (congrArg some (by kernel_rfl))
  f220 := Tryz.func172.trans (congrArg some (by kernel_rfl))
  f224 := Tryz.func148.trans (congrArg some (by kernel_rfl))
  f225 := Tryz.func147.trans (congrArg some (by kernel_rfl))
  f266 := Tryz.func166.trans (congrArg some (by kernel_rfl))
  f267 := Tryz.func149.trans (congrArg some (by kernel_rfl))
  f314 := Tryz.func167.trans (congrArg some (by kernel_rfl))
  t3 := Tryz.underlying3
  a3 := Tryz.isAgg3
  z3 := Tryz.sizeOf3
  v3 := Tryz.zeroValue3
  t4 := Tryz.underlying4
  a4 := Tryz.isAgg4
  z4 := Tryz.sizeOf4
  v4 := Tryz.zeroValue4
  t5 := Tryz.underlying5
  a5 := Tryz.isAgg5
  z5 := Tryz.sizeOf5
  v5 := Tryz.zeroValue5
  t9 := Tryz.underlying9
  a9 := Tryz.isAgg9
  z9 := Tryz.sizeOf9
  v9 := Tryz.zeroValue9
  t46 := Tryz.underlying147
  a46 := Tryz.isAgg147
  z46 := Tryz.sizeOf147
  v46 := Tryz.zeroValue147
  t51 := Tryz.underlying210
  a51 := Tryz.isAgg210
  z51 := Tryz.sizeOf210
  v51 := Tryz.zeroValue210
  t59 := Tryz.underlying200
  a59 := Tryz.isAgg200
  z59 := Tryz.sizeOf200
  v59 := Tryz.zeroValue200
  t146 := Tryz.underlying211
  a146 := Tryz.isAgg211
  z146 := Tryz.sizeOf211
  v146 := Tryz.zeroValue211
  g1 := by kernel_rfl }
open Go.RowKit in
theorem Tryz.strings_Cut (s sep : ByteArray) (m : Int) (w : World) (hs : s.size < 4294967281) (hm : w.cell? ⟨2, 0, none⟩ = some (.int .i64 m)) :
    Calls Tryz.prog 157 #[.string s, .string sep] w fun e w' => e = .returned (.tuple #[.string ⟨(Lib.cut s.data.toList sep.data.toList).1.toArray⟩, .string ⟨(Lib.cut s.data.toList sep.data.toList).2.1.toArray⟩, .bool (Lib.cut s.data.toList sep.data.toList).2.2]) ∧ ∃ n, w' = w.drewN n := Any.strings_Cut Tryz.lays145 s sep m w hs hm
def Tryz.lays146_ren : Go.Shelf.Ren := ⟨fun | 146 => 127 | 221 => 153 | 268 => 168 | 138 => 169 | 143 => 85 | 195 => 184 | 197 => 97 | 218 => 185 | 219 => 116 | 260 => 128 | 217 => 146 | 225 => 147 | 224 => 148 | 267 => 149 | 266 => 166 | 314 => 167 | n => n, fun | 9 => 9 | 31 => 93 | 3 => 3 | 4 => 4 | 0 => 0 | 105 => 148 | 21 => 21 | 5 => 5 | 46 => 147 | 119 => 143 | 139 => 146 | 138 => 145 | 146 => 211 | 51 => 210 | n => n, fun | 1 => 2 | 3 => 0 | 4 => 1 | n => n⟩
theorem Tryz.lays146 : Go.Proofs.Lays.n146 Tryz.prog Tryz.lays146_ren := {
  mixed := by kernel_rfl
  f138 := Tryz.func169.trans (congrArg some (by kernel_rfl))
  f143 := Tryz.func85.trans (congrArg some (by kernel_rfl))
  f146 := Tryz.func127.trans (congrArg some (by kernel_rfl))
  f195 := Tryz.func184.trans (congrArg some (by kernel_rfl))
  f197 := Tryz.func97.trans (congrArg some (by kernel_rfl))
  f217 := Tryz.func146.trans (congrArg some (by kernel_rfl))
  f218 := Tryz.func185.trans (congrArg some (by kernel_rfl))
  f219 := Tryz.func116.trans (congrArg some (by kernel_rfl))
  f221 := Tryz.func153.trans (congrArg some (by kernel_rfl))
  f224 := Tryz.func148.trans (congrArg some (by kernel_rfl))
  f225 := Tryz.func147.trans (congrArg some (by kernel_rfl))
  f260 := Tryz.func128.trans (congrArg some (by kernel_rfl))
  f266 := Tryz.func166.trans (congrArg some (by kernel_rfl))
  f267 := Tryz.func149.trans (congrArg some (by kernel_rfl))
  f268 := Tryz.func168.trans (congrArg some (by kernel_rfl))
  f314 := Tryz.func167.trans (congrArg some (by kernel_rfl))
  t0 := Tryz.underlying0
  a0 := Tryz.isAgg0
  z0 := Tryz.sizeOf0
  v0 := Tryz.zeroValue0
  t3 := Tryz.underlying3
  a3 := Tryz.isAgg3
  z3 := Tryz.sizeOf3
  v3 := Tryz.zeroValue3
  t4 := Tryz.underlying4
  a4 := Tryz.isAgg4
  z4 := Tryz.sizeOf4
  v4 := Tryz.zeroValue4
  t5 := Tryz.underlying5
  a5 := Tryz.isAgg5
  z5 := Tryz.sizeOf5
  v5 := Tryz.zeroValue5
  t9 := Tryz.underlying9
  a9 := Tryz.isAgg9
  z9 := Tryz.sizeOf9
  v9 := Tryz.zeroValue9
  t21 := Tryz.underlying21
  a21 := Tryz.isAgg21
  z21 := Tryz.sizeOf21
  v21 := Tryz.zeroValue21
  t31 := Tryz.underlying93
  a31 := Tryz.isAgg93
  z31 := Tryz.sizeOf93
  v31 := Tryz.zeroValue93
  t46 := Tryz.underlying147
  a46 := Tryz.isAgg147
  z46 := Tryz.sizeOf147
  v46 := Tryz.zeroValue147
  t51 := Tryz.underlying210
  a51 := Tryz.isAgg210
  z51 := Tryz.sizeOf210
  v51 := Tryz.zeroValue210
  t105 := Tryz.underlying148
  a105 := Tryz.isAgg148
  z105 := Tryz.sizeOf148
  v105 := Tryz.zeroValue148
  t119 := Tryz.underlying143
  a119 := Tryz.isAgg143
  z119 := Tryz.sizeOf143
  t138 := Tryz.underlying145
  a138 := Tryz.isAgg145
  z138 := Tryz.sizeOf145
  v138 := Tryz.zeroValue145
  t139 := Tryz.underlying146
  a139 := Tryz.isAgg146
  z139 := Tryz.sizeOf146
  v139 := Tryz.zeroValue146
  t146 := Tryz.underlying211
  a146 := Tryz.isAgg211
  z146 := Tryz.sizeOf211
  v146 := Tryz.zeroValue211
  g1 := by kernel_rfl
  g3 := by kernel_rfl
  g4 := by kernel_rfl }
open Go.RowKit in
theorem Tryz.strings_Split (s sep : ByteArray) (m : Int) (w : World) (hs : s.size < 4294967281) (hm : w.cell? ⟨2, 0, none⟩ = some (.int .i64 m)) (h1 : 1 ≤ sep.size) :
    Calls Tryz.prog 127 #[.string s, .string sep] w fun e w' =>
      e = .returned (.slice (some ⟨w.heap.size, 0, none⟩) (Lib.countB s sep + 1) (Lib.countB s sep + 1)) ∧ w' = w.alloc (.cells ((Lib.splitB sep 0 (Lib.countB s sep) s).map Value.string).toArray 9) := Any.strings_Split Tryz.lays146 (by kernel_rfl) s sep m w hs hm h1
end Go.Proofs
/- name.smalls, Fold, Key, Compare, Same, Runes: walks. -/
namespace Go.Proofs.YtbekpemidpngaaaGreatDoor
open Go.RowKit

abbrev UT (w : World) : Prop := Lib.Utf8Tabs 0 1 w

/-- An append of one element onto a row that the call owns; every other block stays. -/
theorem wpl_apps {P : Program} (wr : World) {ops : Array Oper} {rest : List Oper} {o : Oper} {a : Act} {Q : Exit → Act → World → Prop} (hgd : o.guard = none) (s x : Operand) (t e : TypeId)
    (ho : o.op = .call { callee := .builtin .append, args := #[s, x], argTypes := #[t, t] })
    (i : TypeInfo) (z : Value) (bytes : Nat) (ht : P.underlying t = some (.slice e)) (hi : P.info? e = some i) (hz : i.zero = some z)
    (hsize : i.size = 1) (hby : i.bytes = bytes) (hzs : z.cells.size = 1)
    (base : Nat) (v : Value) (n : Nat) (xs : List Value) (hs : a.eval s = v) (hown : wr.ownsRow base e 1 v n xs)
    (el : Value) (N : Nat) (hN : N = wr.heap.size) (hx : a.eval x = .slice (some ⟨N, 0, none⟩) 1 1) (h1 : el.oneCell' = true)
    (hbytes : (n + 1) * bytes ≤ 140737488355328) (h63 : n + 1 ≤ maxLen) (hbase : base ≤ wr.heap.size)
    (h : ∀ v' w', w'.ownsRow base e 1 v' (n + 1) (xs ++ [el]) → Below base wr w' → (∀ b, b < wr.heap.size → v.ownBlock ≠ some b → w'.heap[b]? = wr.heap[b]?) → wpList P ops Q rest (a.put o.dst v') w') :
    wpList P ops Q (o :: rest) a (wr.alloc (.cells #[el] e)) := by
  subst hN
  refine wpList_append_own _ hgd s x t ho base e i z 1 bytes ht hi hz hsize hby hzs (by omega) v n xs hs (hown.alloc _) ⟨wr.heap.size, 0, none⟩ 1 1 [el] hx rfl ?_ ?_ h63 hbytes ?_ ?_
  · intro j u hj
    match j, hj with
    | 0, hj => simp at hj; subst hj; simp [Addr.add]
  · intro u hu; simp at hu; subst hu; exact h1
  · simp; omega
  · intro v' w' h2 h3 h4
    refine h v' w' h2 ?_ ?_
    · exact ((Below.refl _ _).alloc hbase _).grown h3 (by simp; omega) (fun k hk => (hown.lt k hk).1)
    · intro b hb hne
      rw [h3.block b (by simp; omega) (fun e => hne e.symm)]
      exact Below.heap_alloc _ _ _ hb

theorem own_ne_iter {w : World} {base : Nat} {e : TypeId} {sz : Nat} {v : Value} {n : Nat} {xs : List Value} (h : w.ownsRow base e sz v n xs) {k : Nat} {s : ByteArray} {p : Nat} (hk : w.heap[k]? = some (.stringIter s p)) : v.ownBlock ≠ some k := by
  obtain ⟨_, h2⟩ := h
  rcases h2 with ⟨rfl, _⟩ | ⟨g, cap, cur, rfl, _, hg, _⟩
  · simp [Value.ownBlock]
  · intro e1
    simp [Value.ownBlock] at e1
    subst e1
    rw [hk] at hg
    cases hg
theorem own_iter {w : World} {base : Nat} {e : TypeId} {sz : Nat} {v : Value} {n : Nat} {xs : List Value} (h : w.ownsRow base e sz v n xs) {k : Nat} {s : ByteArray} {p : Nat} (hk : w.heap[k]? = some (.stringIter s p)) (p' : Nat) : (w.iterAt k s p').ownsRow base e sz v n xs :=
  h.kept (row := some k) ⟨rfl, rfl, rfl, by rw [Lib.iterAt_size]; exact Nat.le_refl _, fun j _ hj => Lib.iterAt_other w k j s p' (fun e => hj (by rw [e]))⟩ (.inr (own_ne_iter h hk))

def rcells (l : List Nat) : List Value := l.map fun (c : Nat) => Value.int .i32 (c : Int)
theorem info_rune : (Tryz.prog.info? 21).map (fun i => (i.zero, i.size, i.bytes)) = some (some (.int .i32 0), 1, 4) := by kernel_rfl

/-- What smalls leaves. -/
def SmPost (l : List Nat) (w : World) (e : Ending) (w' : World) : Prop :=
  ∃ v, e = .returned v ∧ IsRow w' 1 v l.length (rcells l) ∧ Below w.heap.size w w'
def SmRel (s : ByteArray) (w w1 : World) (t : Value) (wr : World) : Prop :=
  ∃ (pos : Nat) (acc : List Nat), wr.ownsRow w.heap.size 21 1 t acc.length (rcells acc) ∧ wr.heap[w1.heap.size]? = some (.stringIter s pos) ∧ Below w.heap.size w wr ∧ acc ++ (rns (s.data.toList.drop pos)).map smallN = (rns s.data.toList).map smallN ∧ acc.length ≤ pos

set_option maxRecDepth 100000 in
set_option maxHeartbeats 2000000 in
theorem smalls_any (s : ByteArray) (w : World) (hs : s.size ≤ 1000000) :
    Calls Tryz.prog 101 #[.string s] w fun e w' => SmPost ((rns s.data.toList).map smallN) w e w' := by
  obtain ⟨i0, hi0, hz0, hz1, hz2⟩ := info_parts info_rune
  obtain ⟨w1, hmk, hown, hgr⟩ := run_make_own (P := Tryz.prog) w w.heap.size 152 21 i0 _ 1 Tryz.underlying152 hi0 hz0 hz1 .i64 .i64 s.size (by rw [hz2]; omega) (by unfold maxLen; omega) (Nat.le_refl _)
  have hb1 : Below w.heap.size w w1 := (Below.refl w.heap.size w).grown hgr (Nat.le_refl _) (fun k hk => by cases hk)
  have hs1 := hb1.size
  clear hgr
  go_enter Tryz.func101, Tryz.ntmps101
  go_wp2
  go_loopw [3] (fun t wr => SmRel s w w1 t wr) (fun _ wr => s.size - wr.iterPos w1.heap.size)
  case atStart =>
    exact ⟨0, [], hown.alloc (.stringIter s 0), World.iter_heap w1 s 0, hb1.alloc (by omega) (.stringIter s 0), rfl, Nat.le_refl _⟩
  case round =>
    obtain ⟨pos, acc, hown, hit, hbw, hck, hal⟩ := hrel
    have HC : Hid (acc ++ (rns (s.data.toList.drop pos)).map smallN = (rns s.data.toList).map smallN) := hck
    clear hck
    have hsz : w1.heap.size < wr.heap.size := (Array.getElem?_eq_some_iff.1 hit).1
    by_cases hp : pos < s.size
    · have hnx : ∀ ty, (Instr.next (.pointer (some ⟨w1.heap.size, 0, none⟩)) true ty).run Tryz.prog wr = _ := fun ty => Lib.run_next_any_at wr w1.heap.size s pos ty hit hp
      have hwd := Lib.decode_width_pos s pos hp
      have hit2 := Lib.iterAt_heap wr w1.heap.size s pos (pos + (Utf8.decode s pos).2) hit
      have hbw2 := Lib.below_iterAt hbw (k := w1.heap.size) hs1 s (pos + (Utf8.decode s pos).2)
      have hown2 := own_iter hown hit (pos + (Utf8.decode s pos).2)
      have hrl := Lib.rune_le s pos
      have hrn : Hid (rns (s.data.toList.drop pos) = (Utf8.decode s pos).1 :: rns (s.data.toList.drop (pos + (Utf8.decode s pos).2))) := rns_at s pos hp
      have hmeas : Hid (s.size - (pos + (Utf8.decode s pos).2) < s.size - wr.iterPos w1.heap.size) := by
        show _ < _
        rw [iterPos_of hit]; omega
      generalize (Utf8.decode s pos).1 = c at *
      generalize (Utf8.decode s pos).2 = d at *
      generalize hW : wr.iterAt w1.heap.size s (pos + d) = W at *
      have hszW : w1.heap.size < W.heap.size := (Array.getElem?_eq_some_iff.1 hit2).1
      have hne := own_ne_iter hown2 hit2
      have HC2 : Hid ((acc ++ [smallN c]) ++ (rns (s.data.toList.drop (pos + d))).map smallN = (rns s.data.toList).map smallN) := by
        show _ = _; rw [← HC.out, hrn.out]; simp
      have HX : Hid (rcells acc ++ [Value.int .i32 (smallN c : Nat)] = rcells (acc ++ [smallN c])) := by show _ = _; simp [rcells]
      clear HC hrn hW hown
      go_wp2_with (first | (go_at_call 99; refine (small_any _ _ (by omega) (by omega)).mono ?_; rintro e w' ⟨rfl, rfl⟩; rw [smallZ_nat]) | (at_builtin; refine wpl_apps _ rfl (.tmp 14) (.tmp 17) 152 21 rfl i0 _ 4 Tryz.underlying152 hi0 hz0 hz1 hz2 rfl _ _ _ _ rfl hown2 (.int .i32 (smallN c : Nat)) _ rfl rfl rfl (by omega) (by unfold maxLen; omega) (by omega) ?_; intro v3 w3 hown3 hb3 hst3))
      have hit3 : Hid (w3.heap[w1.heap.size]? = some (.stringIter s (pos + d))) := (hst3 _ hszW hne).trans hit2
      have hmW : Hid (w3.iterPos w1.heap.size = pos + d) := iterPos_of hit3.out
      have HO : Hid (w3.ownsRow w.heap.size 21 1 v3 (acc ++ [smallN c]).length (rcells (acc ++ [smallN c]))) := by
        show World.ownsRow _ _ _ _ _ _ _
        rw [← HX.out, List.length_append]
        exact hown3
      have HB : Hid (Below w.heap.size w w3) := hbw2.trans hb3
      clear hst3 hown3 hb3 hown2 hit2 hbw2
      go_wp2
      go_roundw
      case rel => exact ⟨pos + d, acc ++ [smallN c], HO.out, hit3.out, HB.out, HC2.out, by simp; omega⟩
      case measure => rw [hmW.out]; exact hmeas.out
    · have hnx : ∀ ty, (Instr.next (.pointer (some ⟨w1.heap.size, 0, none⟩)) true ty).run Tryz.prog wr = _ := fun ty => Lib.run_next_end_at wr w1.heap.size s pos ty hit hp
      have HC2 : Hid (acc = (rns s.data.toList).map smallN) := by show _ = _; rw [← HC.out, rns_end s pos hp]; simp
      have HO : Hid (IsRow wr 1 u3 acc.length (rcells acc)) := IsRow.own hown
      clear HC hown
      go_wp2
      go_ret
      refine ⟨_, rfl, ?_, hbw⟩
      rw [← HC2.out]
      exact HO.out
end Go.Proofs.YtbekpemidpngaaaGreatDoor
/- name.Fold, Key, Compare, Same, Runes; the law's awake: walks. -/
namespace Go.Proofs.YtbekpemidpngaaaGreatDoor
open Go.RowKit

theorem ba_eq {a b : ByteArray} (h : a.data.toList = b.data.toList) : a = b := by
  cases a; cases b
  simp only [Array.toList_inj] at h
  rw [h]
theorem ba_append (a b : ByteArray) : (a ++ b).data.toList = a.data.toList ++ b.data.toList := by
  rw [ByteArray.data_append, Array.toList_append]
set_option maxRecDepth 100000 in
theorem runesBytes_enc : ∀ (l : List Nat) (s : ByteArray), ((l.map fun (c : Nat) => (c : Int)).foldl (fun r n => r ++ Utf8.encode n) s).data.toList = s.data.toList ++ l.flatMap enc
  | [], s => by simp
  | c :: l, s => by
    rw [List.map_cons, List.foldl_cons, runesBytes_enc l, ba_append, List.flatMap_cons, List.append_assoc]
    rfl
/-- Bytes as a text. -/
def str (l : List UInt8) : ByteArray := ⟨l.toArray⟩
theorem str_data (l : List UInt8) : (str l).data.toList = l := by simp [str]
theorem str_of (s : ByteArray) : str s.data.toList = s := by cases s; simp [str]
theorem str_size (l : List UInt8) : (str l).size = l.length := by simp [str, ByteArray.size]
theorem conv_runes {w : World} {v : Value} {l : List Nat} (h : IsRow w 1 v l.length (rcells l)) :
    (convert 152 9 v).run Tryz.prog w = .ok (.string (str (l.flatMap enc))) w := by
  have e : runesBytes (l.map fun (c : Nat) => (c : Int)) = str (l.flatMap enc) := ba_eq (by
    rw [str_data]
    unfold runesBytes
    rw [runesBytes_enc]
    rfl)
  rw [← e]
  rcases h.2 with ⟨h0, a, cap, rfl⟩ | ⟨b, off, cap, rfl, hb, hc, hm, hcell⟩
  · have hl : l = [] := List.eq_nil_of_length_eq_zero h0
    subst hl
    cases a with
    | none => exact run_convert_runes_nil w _ _ 21 _ _ Tryz.underlying152 Tryz.underlying21 Tryz.underlying9
    | some a => exact run_convert_runes w _ _ 21 a 0 cap [] (by simp) Tryz.underlying152 Tryz.underlying21 Tryz.underlying9 (by intro j hj; simp at hj)
  · have := run_convert_runes (P := Tryz.prog) w 152 9 21 ⟨b, off, none⟩ l.length cap (l.map fun (c : Nat) => (c : Int)) (by simp) Tryz.underlying152 Tryz.underlying21 Tryz.underlying9 (by
      intro j hj
      have hj' : j < l.length := by simpa using hj
      have e1 : (⟨b, off, none⟩ : Addr).add j = ⟨b, off + j, none⟩ := by unfold Addr.add; split <;> simp_all
      rw [e1, hcell j (.int .i32 (l[j] : Nat)) (by simp [rcells, hj'])]
      simp [List.getD, hj'])
    rw [this]
    have e2 : (l.map fun (c : Nat) => (c : Int)).take l.length = l.map fun (c : Nat) => (c : Int) := List.take_of_length_le (by simp)
    rw [e2]

set_option maxHeartbeats 1000000 in
theorem fold_any (s : ByteArray) (w : World) (hs : s.size ≤ 1000000) (hT : UT w) :
    Calls Tryz.prog 68 #[.string s] w fun e w' => e = .returned (.string (str (foldL s.data.toList))) ∧ Below w.heap.size w w' := by
  by_cases hv : Lib.validD s.data.toList = true
  · have HF : Hid (str (((rns s.data.toList).map smallN).flatMap enc) = str (foldL s.data.toList)) := by show _ = _; rw [foldL, if_pos hv]
    go_enter Tryz.func68, Tryz.ntmps68
    go_wp2_with fail
    refine (Tryz.utf8_ValidString s _ (by omega) hT).mono ?_
    rintro e w1 ⟨rfl, hb1⟩
    rw [hv]
    go_wp2_with fail
    refine (smalls_any s _ hs).mono ?_
    rintro e w2 ⟨v2, rfl, hv2, hb2⟩
    have hcv := conv_runes hv2
    rw [HF.out] at hcv
    have hb : Hid (Below w.heap.size w w2) := hb1.trans (hb2.mono hb1.size)
    clear hb1 hb2 hv2
    go_wp2
    go_ret
    exact ⟨rfl, hb.out⟩
  · have hv' : Lib.validD s.data.toList = false := by simpa using hv
    have HF : Hid (s = str (foldL s.data.toList)) := by show _ = _; rw [foldL, if_neg hv, str_of]
    go_enter Tryz.func68, Tryz.ntmps68
    go_wp2_with fail
    refine (Tryz.utf8_ValidString s _ (by omega) hT).mono ?_
    rintro e w1 ⟨rfl, hb1⟩
    rw [hv']
    go_wp2
    go_ret
    exact ⟨by rw [← HF.out]; rfl, hb1⟩

theorem fold_size (s : ByteArray) : (str (foldL s.data.toList)).size ≤ 4 * s.size := by
  rw [str_size]
  have := foldL_len s.data.toList
  have e : s.data.toList.length = s.size := Array.length_toList
  omega
def cmpL (a b : List UInt8) : Int := Lib.compareBytes (foldL a) (foldL b)
def sameL (a b : List UInt8) : Bool := decide (foldL a = foldL b)
end Go.Proofs.YtbekpemidpngaaaGreatDoor
