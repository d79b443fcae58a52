/- value.showText of any text: its walk. -/
import Derived.Test.YtacpllmlpmllbaaGreatDoorZk8
import Derived.Shelf.Small.Strs
import Derived.Shelf.LaysM
import Derived.Shelf.Strconv.Itoa3
import Derived.Test.YtacpllmlpmllbaaGreatDoorProg
import Derived.Test.YtacpllmlpmllbaaGreatDoorZk0
import Derived.Lib.OthersKept
import Derived.BigCall
import Derived.RegionTactic
import Derived.Deep.QuietTactic
import Derived.BigQuiet
namespace Go.Proofs.YtacpllmlpmllbaaGreatDoor.V
open Go.RowKit

def shws (l : List Nat) : List UInt8 := l.flatMap shR
theorem shR_len (c : Nat) : (shR c).length ≤ 6 := by
  unfold shR
  split
  · decide
  split
  · decide
  split
  · decide
  split
  · decide
  split
  · decide
  split
  · exact Nat.le_of_lt (by decide : 5 < 6)
  split
  · exact Nat.le_refl 6
  · have := enc_len4 c; omega
/-- What holds of showText's loop at every round. -/
def StRl (s : ByteArray) (w : World) (k0 : Nat) (wr : World) : Prop :=
  ∃ (pos : Nat) (acc : List UInt8), IsB w.heap.size w.heap.size (Lib.byteCells (34 :: acc)) wr ∧ wr.heap[k0]? = some (.stringIter s pos) ∧ Below w.heap.size w wr ∧ w.heap.size < wr.heap.size ∧ acc ++ shws (rns (s.data.toList.drop pos)) = shws (rns s.data.toList) ∧ acc.length ≤ 6 * pos

set_option maxRecDepth 100000 in
set_option maxHeartbeats 4000000 in
theorem showText_all (s : ByteArray) (w : World) (hs : s.size ≤ 1000000) (hT : T16 w) :
    Calls Tryz.prog 99 #[.string s] w fun e w' => e = .returned (.string (str (34 :: shws (rns s.data.toList) ++ [34]))) ∧ Below w.heap.size w w' := by
  go_enter Tryz.func99, Tryz.ntmps99
  go_wp2_with fail
  refine (writeByte_k w.heap.size w.heap.size [] 34 _ (Lib.IsBuilderF.of (Lib.fresh_isBuilder _ _ w)) (by simp) (by first | simp | omega | skip)).mono ?_
  rintro e w1 ⟨rfl, hI1, hb1, ok1⟩
  have hs1 := hb1.size
  have hs1' : w.heap.size < w1.heap.size := by first | omega | (simp at hs1; omega)
  have hB1 : Below w.heap.size w w1 := ((Below.refl _ _).alloc (Nat.le_refl _) _).trans hb1
  clear hb1 ok1 hs1
  go_wp2_with fail
  go_loopw [] (fun wr => StRl s w w1.heap.size wr) (fun wr => s.size - wr.iterPos w1.heap.size)
  case atStart =>
    exact ⟨0, [], IsB_alloc hI1 _, World.iter_heap w1 s 0, hB1.alloc (by omega) _, Nat.lt_of_lt_of_le hs1' ((Below.refl w1.heap.size w1).alloc (Nat.le_refl _) (.stringIter s 0)).size, rfl, Nat.le_refl _⟩
  case round =>
    obtain ⟨pos, acc, hI, hit, hbw, hws, hck, hal⟩ := hrel
    have HC : Hid (acc ++ shws (rns (s.data.toList.drop pos)) = shws (rns s.data.toList)) := hck
    clear hck
    have hsz : w1.heap.size < wr.heap.size := (Array.getElem?_eq_some_iff.1 hit).1
    by_cases hp : pos < s.size
    · have hnx : ∀ ty, (Instr.next (.pointer (some ⟨w1.heap.size, 0, none⟩)) true ty).run Tryz.prog wr = _ := fun ty => Lib.run_next_any_at wr w1.heap.size s pos ty hit hp
      have hwd := Lib.decode_width_pos s pos hp
      have hit2 := Lib.iterAt_heap wr w1.heap.size s pos (pos + (Utf8.decode s pos).2) hit
      have hbw2 := Lib.below_iterAt hbw (k := w1.heap.size) (by omega) s (pos + (Utf8.decode s pos).2)
      have hI2 := IsB_iter hI hit (pos + (Utf8.decode s pos).2)
      have hszI : (wr.iterAt w1.heap.size s (pos + (Utf8.decode s pos).2)).heap.size = wr.heap.size := Lib.iterAt_size ..
      have hrl := Lib.rune_le s pos
      have hrn : Hid (rns (s.data.toList.drop pos) = (Utf8.decode s pos).1 :: rns (s.data.toList.drop (pos + (Utf8.decode s pos).2))) := rns_at s pos hp
      have hsc : Hid (scal (Utf8.decode s pos).1) := rns_scal (s.data.toList.drop pos) _ (by rw [hrn.out]; simp)
      have hmeas : Hid (s.size - (pos + (Utf8.decode s pos).2) < s.size - wr.iterPos w1.heap.size) := by
        show _ < _
        rw [iterPos_of hit]; omega
      have hwl : pos + (Utf8.decode s pos).2 ≤ s.size := by
        have hne : s.data.toList.drop pos ≠ [] := by
          intro e
          have := congrArg List.length e
          rw [List.length_drop, Array.length_toList] at this
          have e2 : s.data.size = s.size := rfl
          simp at this
          omega
        have h1 := Lib.decodeL_le _ hne
        rw [Lib.decodeL_drop, List.length_drop, Array.length_toList] at h1
        have e2 : s.data.size = s.size := rfl
        omega
      generalize (Utf8.decode s pos).1 = c at *
      generalize (Utf8.decode s pos).2 = d at *
      generalize hW : wr.iterAt w1.heap.size s (pos + d) = W at *
      have hcl := shR_len c
      have HC2 : Hid ((acc ++ shR c) ++ shws (rns (s.data.toList.drop (pos + d))) = shws (rns s.data.toList)) := by
        show _ = _; rw [← HC.out, hrn.out]; simp [shws]
      clear HC hrn hW hI hbw
      go_wp2_with fail
      refine (showRune_all c _ hsc.out (T16_below hT hbw2)).mono ?_
      rintro e w3 ⟨rfl, hb3⟩
      have hI3 := IsB_below hI2 hb3
      have hit3 := (hb3.block _ (Array.getElem?_eq_some_iff.1 hit2).1).trans hit2
      have hbw3 := hbw2.trans (hb3.mono (by omega))
      have hs3 := hb3.size
      have hzs : (str (shR c)).size ≤ 6 := by rw [str_size]; exact hcl
      clear hb3 hI2 hit2 hbw2
      go_wp2_with fail
      refine (writeString_k w.heap.size w.heap.size _ (str (shR c)) _ hI3 (by rw [Lib.byteCells_length, List.length_cons]; omega) (by omega)).mono ?_
      rintro e w4 ⟨rfl, hI4, hb4, ok4⟩
      have hit4 : Hid (w4.heap[w1.heap.size]? = some (.stringIter s (pos + d))) := iter_kept ok4 hit3 (IsB_ne hI3 hit3)
      have hmW : Hid (w4.iterPos w1.heap.size = pos + d) := iterPos_of hit4.out
      have HI : Hid (IsB w.heap.size w.heap.size (Lib.byteCells (34 :: (acc ++ shR c))) w4) := by
        rw [Lib.strCells_eq, str_data, ← Lib.byteCells_append, List.cons_append] at hI4
        exact hI4
      have HB : Hid (Below w.heap.size w w4) := hbw3.trans hb4
      have hs4 := hb4.size
      clear hI4 hb4 ok4 hI3 hit3 hbw3
      go_wp2
      go_roundw
      case rel => exact ⟨pos + d, acc ++ shR c, HI.out, hit4.out, HB.out, by omega, HC2.out, by rw [List.length_append]; omega⟩
      case measure => rw [hmW.out]; exact hmeas.out
    · have hnx : ∀ ty, (Instr.next (.pointer (some ⟨w1.heap.size, 0, none⟩)) true ty).run Tryz.prog wr = _ := fun ty => Lib.run_next_end_at wr w1.heap.size s pos ty hit hp
      have HC2 : Hid (acc = shws (rns s.data.toList)) := by show _ = _; rw [← HC.out, rns_end s pos hp]; simp [shws]
      have hpl : acc.length ≤ 10000000 := by
        have h3 := rns_len_le s.data.toList.length s.data.toList
        have e : s.data.toList.length = s.size := Array.length_toList
        have h4 : (rns s.data.toList).length ≤ s.data.toList.length := h3
        have h5 : ∀ l : List Nat, (shws l).length ≤ 6 * l.length := by
          intro l
          induction l with
          | nil => simp [shws]
          | cons c l ih => have := shR_len c; simp only [shws, List.flatMap_cons, List.length_append, List.length_cons] at ih ⊢; omega
        have h6 := h5 (rns s.data.toList)
        rw [HC2.out]
        omega
      clear HC
      go_wp2_with fail
      refine (writeByte_k w.heap.size w.heap.size _ 34 _ hI (by rw [Lib.byteCells_length, List.length_cons]; omega) (by omega)).mono ?_
      rintro e w3 ⟨rfl, hI3, hb3, ok3⟩
      have hs3 := hb3.size
      have hI4 : IsB w.heap.size w.heap.size (Lib.byteCells (34 :: acc ++ [34])) w3 := by
        have := cells_byte (34 :: acc) 34
        rw [← this]
        exact hI3
      have hB3 := hbw.trans hb3
      clear hI3 hb3 ok3
      go_wp2_with fail
      refine (Tryz.Builder_String_any_k w.heap.size w.heap.size (34 :: acc ++ [34]) _ hI4 (by omega)).mono ?_
      rintro e w4 ⟨rfl, hI5, hb5, ok5⟩
      have HB : Hid (Below w.heap.size w w4) := hB3.trans hb5
      clear hI5 hb5 ok5 hI4
      go_wp2
      go_ret
      refine ⟨?_, HB.out⟩
      rw [← HC2.out]
      rfl

end Go.Proofs.YtacpllmlpmllbaaGreatDoor.V
/- The shelf's contract of strconv.Itoa, at this program, laid by the shelf's tool in plain words. -/
namespace Go.Proofs
open Go.Shelf
def Tryz.laysM171_ren : Go.Shelf.Ren := ⟨fun | 171 => 60 | 243 => 108 | 246 => 154 | 283 => 198 | 284 => 199 | 285 => 200 | 286 => 201 | 129 => 164 | 317 => 230 | 318 => 231 | 319 => 232 | 320 => 151 | 337 => 195 | 338 => 196 | n => n, fun | 3 => 3 | 9 => 9 | 2 => 2 | 4 => 4 | 171 => 221 | 0 => 0 | 53 => 152 | 37 => 92 | 5 => 5 | 173 => 223 | 212 => 249 | 51 => 193 | 20 => 20 | 213 => 250 | 46 => 153 | 232 => 246 | 233 => 247 | n => n, fun | 17 => 5 | 18 => 3 | 19 => 4 | n => n⟩
theorem Tryz.laysM171 : Go.Proofs.LaysM.n171 Tryz.prog Tryz.laysM171_ren := {
  mixed := by kernel_rfl
  f129 := Tryz.func164.trans (congrArg some (by kernel_rfl))
  f171 := Tryz.func60.trans (congrArg some (by kernel_rfl))
  f243 := Tryz.func108.trans (congrArg some (by kernel_rfl))
  f246 := Tryz.func154.trans (congrArg some (by kernel_rfl))
  f283 := Tryz.func198.trans (congrArg some (by kernel_rfl))
  f284 := Tryz.func199.trans (congrArg some (by kernel_rfl))
  f285 := Tryz.func200.trans (congrArg some (by kernel_rfl))
  f286 := Tryz.func201.trans (congrArg some (by kernel_rfl))
  f317 := Tryz.func230.trans (congrArg some (by kernel_rfl))
  f318 := Tryz.func231.trans (congrArg some (by kernel_rfl))
  f319 := Tryz.func232.trans (congrArg some (by kernel_rfl))
  f320 := Tryz.func151.trans (congrArg some (by kernel_rfl))
  f337 := Tryz.func195.trans (congrArg some (by kernel_rfl))
  f338 := Tryz.func196.trans (congrArg some (by kernel_rfl))
  t0 := Tryz.underlying0
  a0 := Tryz.isAgg0
  z0 := Tryz.sizeOf0
  v0 := Tryz.zeroValue0
  t2 := Tryz.underlying2
  a2 := Tryz.isAgg2
  z2 := Tryz.sizeOf2
  v2 := Tryz.zeroValue2
  t3 := Tryz.underlying3
  a3 := Tryz.isAgg3
  z3 := Tryz.sizeOf3
  v3 := Tryz.zeroValue3
  t4 := Tryz.underlying4
  a4 := Tryz.isAgg4
  z4 := Tryz.sizeOf4
  v4 := Tryz.zeroValue4
  t5 := Tryz.underlying5
  a5 := Tryz.isAgg5
  z5 := Tryz.sizeOf5
  v5 := Tryz.zeroValue5
  t9 := Tryz.underlying9
  a9 := Tryz.isAgg9
  z9 := Tryz.sizeOf9
  v9 := Tryz.zeroValue9
  t20 := Tryz.underlying20
  a20 := Tryz.isAgg20
  z20 := Tryz.sizeOf20
  v20 := Tryz.zeroValue20
  t37 := Tryz.underlying92
  a37 := Tryz.isAgg92
  z37 := Tryz.sizeOf92
  v37 := Tryz.zeroValue92
  t46 := Tryz.underlying153
  a46 := Tryz.isAgg153
  z46 := Tryz.sizeOf153
  v46 := Tryz.zeroValue153
  t51 := Tryz.underlying193
  a51 := Tryz.isAgg193
  z51 := Tryz.sizeOf193
  v51 := Tryz.zeroValue193
  t53 := Tryz.underlying152
  a53 := Tryz.isAgg152
  z53 := Tryz.sizeOf152
  v53 := Tryz.zeroValue152
  t171 := Tryz.underlying221
  a171 := Tryz.isAgg221
  z171 := Tryz.sizeOf221
  v171 := Tryz.zeroValue221
  t173 := Tryz.underlying223
  a173 := Tryz.isAgg223
  z173 := Tryz.sizeOf223
  v173 := Tryz.zeroValue223
  t212 := Tryz.underlying249
  a212 := Tryz.isAgg249
  z212 := Tryz.sizeOf249
  v212 := Tryz.zeroValue249
  t213 := Tryz.underlying250
  a213 := Tryz.isAgg250
  z213 := Tryz.sizeOf250
  t232 := Tryz.underlying246
  a232 := Tryz.isAgg246
  z232 := Tryz.sizeOf246
  v232 := Tryz.zeroValue246
  t233 := Tryz.underlying247
  a233 := Tryz.isAgg247
  z233 := Tryz.sizeOf247
  v233 := Tryz.zeroValue247
  g17 := by kernel_rfl
  g18 := by kernel_rfl
  g19 := by kernel_rfl
  i0 := by kernel_rfl
  i2 := by kernel_rfl
  i3 := by kernel_rfl
  i4 := by kernel_rfl
  i5 := by kernel_rfl
  i9 := by kernel_rfl
  i20 := by kernel_rfl
  i37 := by kernel_rfl
  i46 := by kernel_rfl
  i51 := by kernel_rfl
  i53 := by kernel_rfl
  i171 := by kernel_rfl
  i173 := by kernel_rfl
  i212 := by kernel_rfl
  i232 := by kernel_rfl
  i233 := by kernel_rfl
  m17 := by kernel_rfl
  m18 := by kernel_rfl
  m19 := by kernel_rfl }
open Go.RowKit in
theorem Tryz.strconv_Itoa (n : Int) (h0 : -9223372036854775808 ≤ n) (h1 : n ≤ 9223372036854775807) (w : World) (htab : Lib.TabIs Tryz.prog w "internal/strconv.uint64pow10" .u64 Lib.pow10Tab) :
    Calls Tryz.prog 60 #[.int .i64 n] w fun e w' => e = .returned (.string ⟨(Lib.itoa n).toArray⟩) ∧ ∃ k os, w' = Sort.grow (w.drewN k) os := Any.strconv_Itoa Tryz.laysM171 n h0 h1 w htab
end Go.Proofs
/- The reference's tail and First: walks. -/
namespace Go.Proofs.YtacpllmlpmllbaaGreatDoor.V
open Go.RowKit Go.Lib

/-- A byte by its number; 0 beyond the end. -/
def gN (s : ByteArray) (i : Nat) : Nat := (s.get! i).toNat
theorem gN_lt (s : ByteArray) (i : Nat) : gN s i < 256 := (s.get! i).toNat_lt
theorem gN_of (s : ByteArray) (i : Nat) (h : i < s.size) : (s[i]'h).toNat = gN s i := by
  cases s with
  | mk d =>
    show (d[i]'h).toNat = (d[i]!).toNat
    rw [getElem!_pos d i h]
def tl (s : ByteArray) (i : Nat) : Bool := decide (i < s.size ∧ 128 ≤ gN s i ∧ gN s i < 192)

set_option maxHeartbeats 1000000 in
theorem tail_any (s : ByteArray) (i : Nat) (z : Int) (hz : z = (i : Int)) (w : World) :
    Calls Tryz.prog 193 #[.string s, .int .i64 z] w fun e w' => e = .returned (.bool (tl s i)) ∧ w' = w := by
  subst hz
  by_cases hi : i < s.size
  · have hi' : (i : Int) < s.size := by omega
    have hx := gN_of s i hi
    have hlt := gN_lt s i
    have HT : Hid (tl s i = decide (128 ≤ gN s i ∧ gN s i < 192)) := by show _ = _; unfold tl; simp [hi]
    generalize tl s i = t at *
    generalize gN s i = x at *
    by_cases h1 : 128 ≤ x
    · have h1' : decide ((128 : Int) ≤ x) = true := by simp; omega
      by_cases h2 : x < 192
      · have h2' : decide ((x : Int) < 192) = true := by simp; omega
        go_enter Tryz.func193, Tryz.ntmps193
        go_wp2
        go_ret
        exact ⟨by rw [HT.out, decide_eq_true (And.intro h1 h2)]; rfl, rfl⟩
      · have h2' : decide ((x : Int) < 192) = false := by simp; omega
        go_enter Tryz.func193, Tryz.ntmps193
        go_wp2
        go_ret
        exact ⟨by rw [HT.out, decide_eq_false (fun h => h2 h.2)]; rfl, rfl⟩
    · have h1' : decide ((128 : Int) ≤ x) = false := by simp; omega
      go_enter Tryz.func193, Tryz.ntmps193
      go_wp2
      go_ret
      exact ⟨by rw [HT.out, decide_eq_false (fun h => h1 h.1)]; rfl, rfl⟩
  · have hi' : decide ((i : Int) < s.size) = false := by simp; omega
    have HT : Hid (tl s i = false) := by show _ = _; unfold tl; simp [hi]
    go_enter Tryz.func193, Tryz.ntmps193
    go_wp2
    go_ret
    exact ⟨by rw [HT.out]; rfl, rfl⟩

/-- The rune at the front and its width; (0, 0): there is none. -/
def fst (s : ByteArray) : Nat × Nat := if s.size = 0 ∨ ((Utf8.decode s 0).1 = 65533 ∧ (Utf8.decode s 0).2 = 1) then (0, 0) else Utf8.decode s 0
theorem fst_none {s : ByteArray} {x0 x1 x2 x3 : Nat} (h : decodeN s.size x0 x1 x2 x3 = (65533, 1)) (e0 : gN s 0 = x0) (e1 : gN s 1 = x1) (e2 : gN s 2 = x2) (e3 : gN s 3 = x3) : fst s = (0, 0) := by
  subst e0 e1 e2 e3
  have e : Utf8.decode s 0 = (65533, 1) := by rw [decode_at]; exact h
  unfold fst
  rw [e]
  simp
theorem fst_some {s : ByteArray} {x0 x1 x2 x3 c k : Nat} (h : decodeN s.size x0 x1 x2 x3 = (c, k)) (hn : s.size ≠ 0) (hk : c = 65533 → k ≠ 1) (e0 : gN s 0 = x0) (e1 : gN s 1 = x1) (e2 : gN s 2 = x2) (e3 : gN s 3 = x3) : fst s = (c, k) := by
  subst e0 e1 e2 e3
  have e : Utf8.decode s 0 = (c, k) := by rw [decode_at]; exact h
  unfold fst
  rw [e, if_neg]
  intro h
  rcases h with h | ⟨h1, h2⟩
  · exact hn h
  · exact hk h1 h2
theorem below_dN {B : Nat} {a w : World} (h : Below B a w) : ∀ q, Below B a (w.drewN q)
  | 0 => h
  | q + 1 => (below_dN h q).drew
def FsPost (s : ByteArray) (w : World) (e : Ending) (w' : World) : Prop :=
  e = .returned (.agg #[.int .i64 (fst s).1, .int .i64 (fst s).2]) ∧ Below w.heap.size w w'

set_option maxRecDepth 100000 in
set_option maxHeartbeats 2000000 in
theorem first_any (s : ByteArray) (w : World) (hs : s.size ≤ 140737488355328) :
    Calls Tryz.prog 139 #[.string s] w fun e w' => FsPost s w e w' := by
  by_cases hn : s.size = 0
  · have he : s.toList.isEmpty = true := by rw [ByteArray.toList_eq]; simp; exact Array.eq_empty_of_size_eq_zero hn
    have HF : Hid (fst s = (0, 0)) := by show _ = _; simp [fst, hn]
    go_enter Tryz.func139, Tryz.ntmps139
    go_wp2
    refine bodyPost_ret (v := .agg #[.int .i64 0, .int .i64 0]) (by simp [results, Tryz.results139, go_sem]) rfl ⟨by rw [HF.out]; rfl, ?_⟩
    repeat (first | exact Below.refl _ _ | refine Below.setCell ?_ (by exact Nat.le_refl _) _ | refine Below.alloc ?_ (Nat.le_refl _) _ | refine Below.drew ?_ | refine below_dN ?_ _)
  have he : s.toList.isEmpty = false := by rw [ByteArray.toList_eq]; simp; intro h; rw [ByteArray.size, h] at hn; exact hn rfl
  have hn0 : (0 : Int) < s.size := by omega
  have hy0 := gN_of s 0 (by omega)
  obtain ⟨x0, hx0⟩ : ∃ x0, gN s 0 = x0 := ⟨_, rfl⟩
  obtain ⟨x1, hx1⟩ : ∃ x1, gN s 1 = x1 := ⟨_, rfl⟩
  obtain ⟨x2, hx2⟩ : ∃ x2, gN s 2 = x2 := ⟨_, rfl⟩
  obtain ⟨x3, hx3⟩ : ∃ x3, gN s 3 = x3 := ⟨_, rfl⟩
  have l0 : x0 < 256 := hx0 ▸ gN_lt s 0
  have l1 : x1 < 256 := hx1 ▸ gN_lt s 1
  have l2 : x2 < 256 := hx2 ▸ gN_lt s 2
  have l3 : x3 < 256 := hx3 ▸ gN_lt s 3
  rw [hx0] at hy0
  by_cases a1 : x0 < 128
  · have d1 : decide ((x0 : Int) < 128) = true := by simp; omega
    have HF : Hid (fst s = (x0, 1)) := fst_some (by unfold decodeN; rw [if_pos a1]) hn (by omega) hx0 hx1 hx2 hx3
    clear hx0 hx1 hx2 hx3
    go_enter Tryz.func139, Tryz.ntmps139
    go_wp2_with (go_at_call 193; refine (tail_any _ _ _ (by first | exact (rfl : (1 : Int) = ((1 : Nat) : Int)) | exact (rfl : (2 : Int) = ((2 : Nat) : Int)) | exact (rfl : (3 : Int) = ((3 : Nat) : Int))) _).mono ?_; rintro e w' ⟨rfl, rfl⟩)
    refine bodyPost_ret (v := .agg #[.int .i64 x0, .int .i64 1]) (by simp [results, Tryz.results139, go_sem]) rfl ⟨by rw [HF.out]; rfl, ?_⟩
    repeat (first | exact Below.refl _ _ | refine Below.setCell ?_ (by exact Nat.le_refl _) _ | refine Below.alloc ?_ (Nat.le_refl _) _ | refine Below.drew ?_ | refine below_dN ?_ _)
  have d1 : decide ((x0 : Int) < 128) = false := by simp; omega
  by_cases a2 : x0 < 194
  · have d2 : decide ((194 : Int) ≤ x0) = false := by simp; omega
    have d4 : decide ((224 : Int) ≤ x0) = false := by simp; omega
    have d6 : decide ((240 : Int) ≤ x0) = false := by simp; omega
    have HF : Hid (fst s = (0, 0)) := fst_none (by unfold decodeN; (repeat' split) <;> first | rfl | (exfalso; omega)) hx0 hx1 hx2 hx3
    clear hx0 hx1 hx2 hx3
    go_enter Tryz.func139, Tryz.ntmps139
    go_wp2_with (go_at_call 193; refine (tail_any _ _ _ (by first | exact (rfl : (1 : Int) = ((1 : Nat) : Int)) | exact (rfl : (2 : Int) = ((2 : Nat) : Int)) | exact (rfl : (3 : Int) = ((3 : Nat) : Int))) _).mono ?_; rintro e w' ⟨rfl, rfl⟩)
    refine bodyPost_ret (v := .agg #[.int .i64 0, .int .i64 0]) (by simp [results, Tryz.results139, go_sem]) rfl ⟨by rw [HF.out]; rfl, ?_⟩
    repeat (first | exact Below.refl _ _ | refine Below.setCell ?_ (by exact Nat.le_refl _) _ | refine Below.alloc ?_ (Nat.le_refl _) _ | refine Below.drew ?_ | refine below_dN ?_ _)
  have d2 : decide ((194 : Int) ≤ x0) = true := by simp; omega
  by_cases a3 : x0 < 224
  · have d3 : decide ((x0 : Int) < 224) = true := by simp; omega
    have d4 : decide ((224 : Int) ≤ x0) = false := by simp; omega
    have d6 : decide ((240 : Int) ≤ x0) = false := by simp; omega
    by_cases t1 : tl s 1 = true
    · have t1' := t1
      simp only [tl, decide_eq_true_eq, hx1] at t1'
      have hn1 : (1 : Int) < s.size := by omega
      have hy1 := gN_of s 1 (by omega)
      rw [hx1] at hy1
      have HF : Hid (fst s = (64 * (x0 - 192) + x1 - 128, 2)) := fst_some (by unfold decodeN; rw [if_neg (by omega), if_pos (by omega), if_pos (by omega)]; apply Prod.ext <;> simp only; omega) hn (by omega) hx0 hx1 hx2 hx3
      have HV : Hid ((64 : Int) * ((x0 : Int) - 192) + x1 - 128 = ((64 * (x0 - 192) + x1 - 128 : Nat) : Int)) := by show _ = _; omega
      clear hx0 hx1 hx2 hx3
      go_enter Tryz.func139, Tryz.ntmps139
      go_wp2_with (go_at_call 193; refine (tail_any _ _ _ (by first | exact (rfl : (1 : Int) = ((1 : Nat) : Int)) | exact (rfl : (2 : Int) = ((2 : Nat) : Int)) | exact (rfl : (3 : Int) = ((3 : Nat) : Int))) _).mono ?_; rintro e w' ⟨rfl, rfl⟩)
      refine bodyPost_ret (v := .agg #[.int .i64 ((64 : Int) * ((x0 : Int) - 192) + x1 - 128), .int .i64 2]) (by simp [results, Tryz.results139, go_sem]) rfl ⟨by rw [HF.out, HV.out]; rfl, ?_⟩
      repeat (first | exact Below.refl _ _ | refine Below.setCell ?_ (by exact Nat.le_refl _) _ | refine Below.alloc ?_ (Nat.le_refl _) _ | refine Below.drew ?_ | refine below_dN ?_ _)
    · have t1' : ¬ (1 < s.size ∧ 128 ≤ x1 ∧ x1 < 192) := by simpa only [tl, decide_eq_true_eq, hx1] using t1
      have t1f : tl s 1 = false := by simpa using t1
      have HF : Hid (fst s = (0, 0)) := fst_none (by unfold decodeN; (repeat' split) <;> first | rfl | (exfalso; omega)) hx0 hx1 hx2 hx3
      clear hx0 hx1 hx2 hx3 t1
      go_enter Tryz.func139, Tryz.ntmps139
      go_wp2_with (go_at_call 193; refine (tail_any _ _ _ (by first | exact (rfl : (1 : Int) = ((1 : Nat) : Int)) | exact (rfl : (2 : Int) = ((2 : Nat) : Int)) | exact (rfl : (3 : Int) = ((3 : Nat) : Int))) _).mono ?_; rintro e w' ⟨rfl, rfl⟩)
      refine bodyPost_ret (v := .agg #[.int .i64 0, .int .i64 0]) (by simp [results, Tryz.results139, go_sem]) rfl ⟨by rw [HF.out]; rfl, ?_⟩
      repeat (first | exact Below.refl _ _ | refine Below.setCell ?_ (by exact Nat.le_refl _) _ | refine Below.alloc ?_ (Nat.le_refl _) _ | refine Below.drew ?_ | refine below_dN ?_ _)
  have d3 : decide ((x0 : Int) < 224) = false := by simp; omega
  have d4 : decide ((224 : Int) ≤ x0) = true := by simp; omega
  by_cases a4 : x0 < 240
  · have d5 : decide ((x0 : Int) < 240) = true := by simp; omega
    have d6 : decide ((240 : Int) ≤ x0) = false := by simp; omega
    by_cases t1 : tl s 1 = true
    · have t1' := t1
      simp only [tl, decide_eq_true_eq, hx1] at t1'
      by_cases t2 : tl s 2 = true
      · have t2' := t2
        simp only [tl, decide_eq_true_eq, hx2] at t2'
        have hn1 : (1 : Int) < s.size := by omega
        have hn2 : (2 : Int) < s.size := by omega
        have hy1 := gN_of s 1 (by omega)
        rw [hx1] at hy1
        have hy2 := gN_of s 2 (by omega)
        rw [hx2] at hy2
        obtain ⟨c, hc⟩ : ∃ c, c = 4096 * (x0 - 224) + 64 * (x1 - 128) + x2 - 128 := ⟨_, rfl⟩
        have HV : (4096 : Int) * ((x0 : Int) - 224) + 64 * ((x1 : Int) - 128) + x2 - 128 = (c : Int) := by omega
        by_cases ok : 2048 ≤ c ∧ (c < 55296 ∨ 57343 < c)
        · have HF : Hid (fst s = (c, 3)) := fst_some (by unfold decodeN; rw [if_neg (by omega), if_neg (by omega), if_pos (by omega), if_pos (by omega)]; apply Prod.ext <;> simp only; omega) hn (by omega) hx0 hx1 hx2 hx3
          have k1 : decide ((2048 : Int) ≤ c) = true := by simp; omega
          clear hx0 hx1 hx2 hx3 hc
          by_cases ok2 : c < 55296
          · have k2 : decide ((c : Int) < 55296) = true := by simp; omega
            go_enter Tryz.func139, Tryz.ntmps139
            go_wp2_with (go_at_call 193; refine (tail_any _ _ _ (by first | exact (rfl : (1 : Int) = ((1 : Nat) : Int)) | exact (rfl : (2 : Int) = ((2 : Nat) : Int)) | exact (rfl : (3 : Int) = ((3 : Nat) : Int))) _).mono ?_; rintro e w' ⟨rfl, rfl⟩)
            go_quiet (fail)
            go_wp2
            refine bodyPost_ret (v := .agg #[.int .i64 c, .int .i64 3]) (by simp [results, Tryz.results139, go_sem]) rfl ⟨by rw [HF.out]; rfl, ?_⟩
            repeat (first | exact Below.refl _ _ | refine Below.setCell ?_ (by exact Nat.le_refl _) _ | refine Below.alloc ?_ (Nat.le_refl _) _ | refine Below.drew ?_ | refine below_dN ?_ _)
          · have k2 : decide ((c : Int) < 55296) = false := by simp; omega
            have k3 : decide ((57343 : Int) < c) = true := by simp; omega
            go_enter Tryz.func139, Tryz.ntmps139
            go_wp2_with (go_at_call 193; refine (tail_any _ _ _ (by first | exact (rfl : (1 : Int) = ((1 : Nat) : Int)) | exact (rfl : (2 : Int) = ((2 : Nat) : Int)) | exact (rfl : (3 : Int) = ((3 : Nat) : Int))) _).mono ?_; rintro e w' ⟨rfl, rfl⟩)
            go_quiet (fail)
            go_wp2
            refine bodyPost_ret (v := .agg #[.int .i64 c, .int .i64 3]) (by simp [results, Tryz.results139, go_sem]) rfl ⟨by rw [HF.out]; rfl, ?_⟩
            repeat (first | exact Below.refl _ _ | refine Below.setCell ?_ (by exact Nat.le_refl _) _ | refine Below.alloc ?_ (Nat.le_refl _) _ | refine Below.drew ?_ | refine below_dN ?_ _)
        · have HF : Hid (fst s = (0, 0)) := fst_none (by unfold decodeN; rw [if_neg (by omega), if_neg (by omega), if_pos (by omega), if_neg (by omega)]) hx0 hx1 hx2 hx3
          clear hx0 hx1 hx2 hx3 hc
          by_cases ok1 : 2048 ≤ c
          · have k1 : decide ((2048 : Int) ≤ c) = true := by simp; omega
            have k2 : decide ((c : Int) < 55296) = false := by simp; omega
            have k3 : decide ((57343 : Int) < c) = false := by simp; omega
            go_enter Tryz.func139, Tryz.ntmps139
            go_wp2_with (go_at_call 193; refine (tail_any _ _ _ (by first | exact (rfl : (1 : Int) = ((1 : Nat) : Int)) | exact (rfl : (2 : Int) = ((2 : Nat) : Int)) | exact (rfl : (3 : Int) = ((3 : Nat) : Int))) _).mono ?_; rintro e w' ⟨rfl, rfl⟩)
            go_quiet (fail)
            go_wp2
            refine bodyPost_ret (v := .agg #[.int .i64 0, .int .i64 0]) (by simp [results, Tryz.results139, go_sem]) rfl ⟨by rw [HF.out]; rfl, ?_⟩
            repeat (first | exact Below.refl _ _ | refine Below.setCell ?_ (by exact Nat.le_refl _) _ | refine Below.alloc ?_ (Nat.le_refl _) _ | refine Below.drew ?_ | refine below_dN ?_ _)
          · have k1 : decide ((2048 : Int) ≤ c) = false := by simp; omega
            go_enter Tryz.func139, Tryz.ntmps139
            go_wp2_with (go_at_call 193; refine (tail_any _ _ _ (by first | exact (rfl : (1 : Int) = ((1 : Nat) : Int)) | exact (rfl : (2 : Int) = ((2 : Nat) : Int)) | exact (rfl : (3 : Int) = ((3 : Nat) : Int))) _).mono ?_; rintro e w' ⟨rfl, rfl⟩)
            go_quiet (fail)
            go_wp2
            refine bodyPost_ret (v := .agg #[.int .i64 0, .int .i64 0]) (by simp [results, Tryz.results139, go_sem]) rfl ⟨by rw [HF.out]; rfl, ?_⟩
            repeat (first | exact Below.refl _ _ | refine Below.setCell ?_ (by exact Nat.le_refl _) _ | refine Below.alloc ?_ (Nat.le_refl _) _ | refine Below.drew ?_ | refine below_dN ?_ _)
      · have t2' : ¬ (2 < s.size ∧ 128 ≤ x2 ∧ x2 < 192) := by simpa only [tl, decide_eq_true_eq, hx2] using t2
        have t2f : tl s 2 = false := by simpa using t2
        have HF : Hid (fst s = (0, 0)) := fst_none (by unfold decodeN; (repeat' split) <;> first | rfl | (exfalso; omega)) hx0 hx1 hx2 hx3
        clear hx0 hx1 hx2 hx3 t2
        go_enter Tryz.func139, Tryz.ntmps139
        go_wp2_with (go_at_call 193; refine (tail_any _ _ _ (by first | exact (rfl : (1 : Int) = ((1 : Nat) : Int)) | exact (rfl : (2 : Int) = ((2 : Nat) : Int)) | exact (rfl : (3 : Int) = ((3 : Nat) : Int))) _).mono ?_; rintro e w' ⟨rfl, rfl⟩)
        refine bodyPost_ret (v := .agg #[.int .i64 0, .int .i64 0]) (by simp [results, Tryz.results139, go_sem]) rfl ⟨by rw [HF.out]; rfl, ?_⟩
        repeat (first | exact Below.refl _ _ | refine Below.setCell ?_ (by exact Nat.le_refl _) _ | refine Below.alloc ?_ (Nat.le_refl _) _ | refine Below.drew ?_ | refine below_dN ?_ _)
    · have t1' : ¬ (1 < s.size ∧ 128 ≤ x1 ∧ x1 < 192) := by simpa only [tl, decide_eq_true_eq, hx1] using t1
      have t1f : tl s 1 = false := by simpa using t1
      have HF : Hid (fst s = (0, 0)) := fst_none (by unfold decodeN; (repeat' split) <;> first | rfl | (exfalso; omega)) hx0 hx1 hx2 hx3
      clear hx0 hx1 hx2 hx3 t1
      go_enter Tryz.func139, Tryz.ntmps139
      go_wp2_with (go_at_call 193; refine (tail_any _ _ _ (by first | exact (rfl : (1 : Int) = ((1 : Nat) : Int)) | exact (rfl : (2 : Int) = ((2 : Nat) : Int)) | exact (rfl : (3 : Int) = ((3 : Nat) : Int))) _).mono ?_; rintro e w' ⟨rfl, rfl⟩)
      refine bodyPost_ret (v := .agg #[.int .i64 0, .int .i64 0]) (by simp [results, Tryz.results139, go_sem]) rfl ⟨by rw [HF.out]; rfl, ?_⟩
      repeat (first | exact Below.refl _ _ | refine Below.setCell ?_ (by exact Nat.le_refl _) _ | refine Below.alloc ?_ (Nat.le_refl _) _ | refine Below.drew ?_ | refine below_dN ?_ _)
  have d5 : decide ((x0 : Int) < 240) = false := by simp; omega
  have d6 : decide ((240 : Int) ≤ x0) = true := by simp; omega
  by_cases a5 : x0 < 245
  · have d7 : decide ((x0 : Int) < 245) = true := by simp; omega
    by_cases t1 : tl s 1 = true
    · have t1' := t1
      simp only [tl, decide_eq_true_eq, hx1] at t1'
      by_cases t2 : tl s 2 = true
      · have t2' := t2
        simp only [tl, decide_eq_true_eq, hx2] at t2'
        by_cases t3 : tl s 3 = true
        · have t3' := t3
          simp only [tl, decide_eq_true_eq, hx3] at t3'
          have hn1 : (1 : Int) < s.size := by omega
          have hn2 : (2 : Int) < s.size := by omega
          have hn3 : (3 : Int) < s.size := by omega
          have hy1 := gN_of s 1 (by omega)
          rw [hx1] at hy1
          have hy2 := gN_of s 2 (by omega)
          rw [hx2] at hy2
          have hy3 := gN_of s 3 (by omega)
          rw [hx3] at hy3
          obtain ⟨c, hc⟩ : ∃ c, c = 262144 * (x0 - 240) + 4096 * (x1 - 128) + 64 * (x2 - 128) + x3 - 128 := ⟨_, rfl⟩
          have HV : (262144 : Int) * ((x0 : Int) - 240) + 4096 * ((x1 : Int) - 128) + 64 * ((x2 : Int) - 128) + x3 - 128 = (c : Int) := by omega
          by_cases ok1 : 65536 ≤ c
          · have k1 : decide ((65536 : Int) ≤ c) = true := by simp; omega
            by_cases ok2 : c ≤ 1114111
            · have k2 : decide ((c : Int) ≤ 1114111) = true := by simp; omega
              have HF : Hid (fst s = (c, 4)) := fst_some (by unfold decodeN; rw [if_neg (by omega), if_neg (by omega), if_neg (by omega), if_pos (by omega), if_pos (by omega)]; apply Prod.ext <;> simp only; omega) hn (by omega) hx0 hx1 hx2 hx3
              clear hx0 hx1 hx2 hx3 hc
              go_enter Tryz.func139, Tryz.ntmps139
              go_wp2_with (go_at_call 193; refine (tail_any _ _ _ (by first | exact (rfl : (1 : Int) = ((1 : Nat) : Int)) | exact (rfl : (2 : Int) = ((2 : Nat) : Int)) | exact (rfl : (3 : Int) = ((3 : Nat) : Int))) _).mono ?_; rintro e w' ⟨rfl, rfl⟩)
              go_quiet (fail)
              go_wp2
              refine bodyPost_ret (v := .agg #[.int .i64 c, .int .i64 4]) (by simp [results, Tryz.results139, go_sem]) rfl ⟨by rw [HF.out]; rfl, ?_⟩
              repeat (first | exact Below.refl _ _ | refine Below.setCell ?_ (by exact Nat.le_refl _) _ | refine Below.alloc ?_ (Nat.le_refl _) _ | refine Below.drew ?_ | refine below_dN ?_ _)
            · have k2 : decide ((c : Int) ≤ 1114111) = false := by simp; omega
              have HF : Hid (fst s = (0, 0)) := fst_none (by unfold decodeN; rw [if_neg (by omega), if_neg (by omega), if_neg (by omega), if_pos (by omega), if_neg (by omega)]) hx0 hx1 hx2 hx3
              clear hx0 hx1 hx2 hx3 hc
              go_enter Tryz.func139, Tryz.ntmps139
              go_wp2_with (go_at_call 193; refine (tail_any _ _ _ (by first | exact (rfl : (1 : Int) = ((1 : Nat) : Int)) | exact (rfl : (2 : Int) = ((2 : Nat) : Int)) | exact (rfl : (3 : Int) = ((3 : Nat) : Int))) _).mono ?_; rintro e w' ⟨rfl, rfl⟩)
              go_quiet (fail)
              go_wp2
              refine bodyPost_ret (v := .agg #[.int .i64 0, .int .i64 0]) (by simp [results, Tryz.results139, go_sem]) rfl ⟨by rw [HF.out]; rfl, ?_⟩
              repeat (first | exact Below.refl _ _ | refine Below.setCell ?_ (by exact Nat.le_refl _) _ | refine Below.alloc ?_ (Nat.le_refl _) _ | refine Below.drew ?_ | refine below_dN ?_ _)
          · have k1 : decide ((65536 : Int) ≤ c) = false := by simp; omega
            have HF : Hid (fst s = (0, 0)) := fst_none (by unfold decodeN; rw [if_neg (by omega), if_neg (by omega), if_neg (by omega), if_pos (by omega), if_neg (by omega)]) hx0 hx1 hx2 hx3
            clear hx0 hx1 hx2 hx3 hc
            go_enter Tryz.func139, Tryz.ntmps139
            go_wp2_with (go_at_call 193; refine (tail_any _ _ _ (by first | exact (rfl : (1 : Int) = ((1 : Nat) : Int)) | exact (rfl : (2 : Int) = ((2 : Nat) : Int)) | exact (rfl : (3 : Int) = ((3 : Nat) : Int))) _).mono ?_; rintro e w' ⟨rfl, rfl⟩)
            go_quiet (fail)
            go_wp2
            refine bodyPost_ret (v := .agg #[.int .i64 0, .int .i64 0]) (by simp [results, Tryz.results139, go_sem]) rfl ⟨by rw [HF.out]; rfl, ?_⟩
            repeat (first | exact Below.refl _ _ | refine Below.setCell ?_ (by exact Nat.le_refl _) _ | refine Below.alloc ?_ (Nat.le_refl _) _ | refine Below.drew ?_ | refine below_dN ?_ _)
        · have t3' : ¬ (3 < s.size ∧ 128 ≤ x3 ∧ x3 < 192) := by simpa only [tl, decide_eq_true_eq, hx3] using t3
          have t3f : tl s 3 = false := by simpa using t3
          have HF : Hid (fst s = (0, 0)) := fst_none (by unfold decodeN; (repeat' split) <;> first | rfl | (exfalso; omega)) hx0 hx1 hx2 hx3
          clear hx0 hx1 hx2 hx3 t3
          go_enter Tryz.func139, Tryz.ntmps139
          go_wp2_with (go_at_call 193; refine (tail_any _ _ _ (by first | exact (rfl : (1 : Int) = ((1 : Nat) : Int)) | exact (rfl : (2 : Int) = ((2 : Nat) : Int)) | exact (rfl : (3 : Int) = ((3 : Nat) : Int))) _).mono ?_; rintro e w' ⟨rfl, rfl⟩)
          refine bodyPost_ret (v := .agg #[.int .i64 0, .int .i64 0]) (by simp [results, Tryz.results139, go_sem]) rfl ⟨by rw [HF.out]; rfl, ?_⟩
          repeat (first | exact Below.refl _ _ | refine Below.setCell ?_ (by exact Nat.le_refl _) _ | refine Below.alloc ?_ (Nat.le_refl _) _ | refine Below.drew ?_ | refine below_dN ?_ _)
      · have t2' : ¬ (2 < s.size ∧ 128 ≤ x2 ∧ x2 < 192) := by simpa only [tl, decide_eq_true_eq, hx2] using t2
        have t2f : tl s 2 = false := by simpa using t2
        have HF : Hid (fst s = (0, 0)) := fst_none (by unfold decodeN; (repeat' split) <;> first | rfl | (exfalso; omega)) hx0 hx1 hx2 hx3
        clear hx0 hx1 hx2 hx3 t2
        go_enter Tryz.func139, Tryz.ntmps139
        go_wp2_with (go_at_call 193; refine (tail_any _ _ _ (by first | exact (rfl : (1 : Int) = ((1 : Nat) : Int)) | exact (rfl : (2 : Int) = ((2 : Nat) : Int)) | exact (rfl : (3 : Int) = ((3 : Nat) : Int))) _).mono ?_; rintro e w' ⟨rfl, rfl⟩)
        refine bodyPost_ret (v := .agg #[.int .i64 0, .int .i64 0]) (by simp [results, Tryz.results139, go_sem]) rfl ⟨by rw [HF.out]; rfl, ?_⟩
        repeat (first | exact Below.refl _ _ | refine Below.setCell ?_ (by exact Nat.le_refl _) _ | refine Below.alloc ?_ (Nat.le_refl _) _ | refine Below.drew ?_ | refine below_dN ?_ _)
    · have t1' : ¬ (1 < s.size ∧ 128 ≤ x1 ∧ x1 < 192) := by simpa only [tl, decide_eq_true_eq, hx1] using t1
      have t1f : tl s 1 = false := by simpa using t1
      have HF : Hid (fst s = (0, 0)) := fst_none (by unfold decodeN; (repeat' split) <;> first | rfl | (exfalso; omega)) hx0 hx1 hx2 hx3
      clear hx0 hx1 hx2 hx3 t1
      go_enter Tryz.func139, Tryz.ntmps139
      go_wp2_with (go_at_call 193; refine (tail_any _ _ _ (by first | exact (rfl : (1 : Int) = ((1 : Nat) : Int)) | exact (rfl : (2 : Int) = ((2 : Nat) : Int)) | exact (rfl : (3 : Int) = ((3 : Nat) : Int))) _).mono ?_; rintro e w' ⟨rfl, rfl⟩)
      refine bodyPost_ret (v := .agg #[.int .i64 0, .int .i64 0]) (by simp [results, Tryz.results139, go_sem]) rfl ⟨by rw [HF.out]; rfl, ?_⟩
      repeat (first | exact Below.refl _ _ | refine Below.setCell ?_ (by exact Nat.le_refl _) _ | refine Below.alloc ?_ (Nat.le_refl _) _ | refine Below.drew ?_ | refine below_dN ?_ _)
  have d7 : decide ((x0 : Int) < 245) = false := by simp; omega
  have HF : Hid (fst s = (0, 0)) := fst_none (by unfold decodeN; (repeat' split) <;> first | rfl | (exfalso; omega)) hx0 hx1 hx2 hx3
  clear hx0 hx1 hx2 hx3
  go_enter Tryz.func139, Tryz.ntmps139
  go_wp2_with (go_at_call 193; refine (tail_any _ _ _ (by first | exact (rfl : (1 : Int) = ((1 : Nat) : Int)) | exact (rfl : (2 : Int) = ((2 : Nat) : Int)) | exact (rfl : (3 : Int) = ((3 : Nat) : Int))) _).mono ?_; rintro e w' ⟨rfl, rfl⟩)
  refine bodyPost_ret (v := .agg #[.int .i64 0, .int .i64 0]) (by simp [results, Tryz.results139, go_sem]) rfl ⟨by rw [HF.out]; rfl, ?_⟩
  repeat (first | exact Below.refl _ _ | refine Below.setCell ?_ (by exact Nat.le_refl _) _ | refine Below.alloc ?_ (Nat.le_refl _) _ | refine Below.drew ?_ | refine below_dN ?_ _)
end Go.Proofs.YtacpllmlpmllbaaGreatDoor.V
/- value.Show of any value: its walk. -/
namespace Go.Proofs.YtacpllmlpmllbaaGreatDoor.V
open Go.RowKit

/-- The table that decimal numbers are written by. -/
def P10 (w : World) : Prop := Lib.TabIs Tryz.prog w "internal/strconv.uint64pow10" .u64 Lib.pow10Tab
theorem g10 : Tryz.prog.globalNamed "internal/strconv.uint64pow10" = some 5 := by kernel_rfl
theorem P10_below {w w' : World} (h : P10 w) (hb : Below w.heap.size w w') : P10 w' := by
  unfold P10 Lib.TabIs World.var? at *
  rw [g10] at *
  simp only [Option.bind_some] at *
  have hlt : 5 < w.heap.size := by
    apply Decidable.byContradiction
    intro hn
    rw [Array.getElem?_eq_none (by omega)] at h
    cases h
  rw [hb.block _ hlt]
  exact h
theorem grow_below {B : Nat} {a w : World} (os : Array Obj) (h : Below B a w) (hB : B ≤ w.heap.size) : Below B a (Sort.grow w os) :=
  ⟨h.os, h.tape, h.output, Nat.le_trans h.size (by show w.heap.size ≤ (w.heap ++ os).size; simp), fun k hk => by
    show (w.heap ++ os)[k]? = _
    rw [Array.getElem?_append_left (by omega)]
    exact h.block k hk⟩
theorem itoa_any (n : Int) (w : World) (h0 : -9007199254740991 ≤ n) (h1 : n ≤ 9007199254740991) (hP : P10 w) :
    Calls Tryz.prog 60 #[.int .i64 n] w fun e w' => e = .returned (.string (str (Lib.itoa n))) ∧ Below w.heap.size w w' := by
  refine (Tryz.strconv_Itoa n (by omega) (by omega) w hP).mono ?_
  rintro e w' ⟨he, k, os, rfl⟩
  exact ⟨he, grow_below os (below_dN (Below.refl _ _) k) (below_dN (Below.refl w.heap.size w) k).size⟩
theorem fmtBool_i (b : Bool) (w : World) : Calls Tryz.prog 144 #[.bool b] w fun e w' => e = .returned (.string (if b = true then ⟨#[116, 114, 117, 101]⟩ else ⟨#[102, 97, 108, 115, 101]⟩)) ∧ w' = w := by
  cases b
  all_goals
    go_enter Tryz.func144, Tryz.ntmps144
    go_wp2
    go_ret
    exact ⟨rfl, rfl⟩
theorem fmtBool_any (b : Bool) (w : World) : Calls Tryz.prog 97 #[.bool b] w fun e w' => e = .returned (.string (if b = true then ⟨#[116, 114, 117, 101]⟩ else ⟨#[102, 97, 108, 115, 101]⟩)) ∧ w' = w := by
  cases b
  all_goals
    go_enter Tryz.func97, Tryz.ntmps97
    go_wp2_with fail
    refine (fmtBool_i _ _).mono ?_
    rintro e w' ⟨rfl, rfl⟩
    go_wp2
    go_ret
    exact ⟨rfl, rfl⟩
/-- A value's literal. -/
def shwV (k n : Int) (s : ByteArray) : ByteArray :=
  if chkV k n s = true then
    if k = 1 then str (Lib.itoa n) else if k = 3 then (if (n == 1) = true then ⟨#[116, 114, 117, 101]⟩ else ⟨#[102, 97, 108, 115, 101]⟩)
    else if k = 4 then str (120 :: 39 :: hexs s.data.toList ++ [39]) else str (34 :: shws (rns s.data.toList) ++ [34])
  else ⟨#[]⟩
theorem chk_rng {k n : Int} {s : ByteArray} (h : chkV k n s = true) : 1 ≤ k ∧ k ≤ 4 ∧ -9007199254740991 ≤ n ∧ n ≤ 9007199254740991 ∧ s.size ≤ 200 := by
  unfold chkV at h
  split at h
  · simp only [Bool.and_eq_true, decide_eq_true_eq] at h; omega
  split at h
  · simp only [Bool.and_eq_true, decide_eq_true_eq] at h; omega
  split at h
  · simp only [Bool.and_eq_true, decide_eq_true_eq] at h; omega
  split at h
  · simp only [Bool.and_eq_true, decide_eq_true_eq] at h; omega
  · cases h

set_option maxRecDepth 100000 in
set_option maxHeartbeats 4000000 in
theorem show_any (k n : Int) (s : ByteArray) (w : World) (hs : s.size ≤ 140737488355328) (hU : UT w) (hT : T16 w) (hP : P10 w) :
    Calls Tryz.prog 53 #[vv k n s] w fun e w' => e = .returned (.string (shwV k n s)) ∧ Below w.heap.size w w' := by
  have hA : Below w.heap.size w (w.alloc (.cells #[.int .i64 k, .int .i64 n, .string s] 76)) := (Below.refl _ _).alloc (Nat.le_refl _) _
  by_cases hc : chkV k n s = true
  · obtain ⟨k1, k4, n1, n2, hz⟩ := chk_rng hc
    have HC : Hid (chkV k n s = true) := hc
    have HS : Hid (shwV k n s = if k = 1 then str (Lib.itoa n) else if k = 3 then (if (n == 1) = true then ⟨#[116, 114, 117, 101]⟩ else ⟨#[102, 97, 108, 115, 101]⟩) else if k = 4 then str (120 :: 39 :: hexs s.data.toList ++ [39]) else str (34 :: shws (rns s.data.toList) ++ [34])) := by
      show _ = _
      rw [shwV, if_pos hc]
    rw [HS.out]
    have HI : Hid (∀ w, P10 w → Calls Tryz.prog 60 #[.int .i64 n] w fun e w' => e = .returned (.string (str (Lib.itoa n))) ∧ Below w.heap.size w w') := fun w h => itoa_any n w n1 n2 h
    have HH : Hid (∀ w, Calls Tryz.prog 98 #[.string s] w fun e w' => e = .returned (.string (str (120 :: 39 :: hexs s.data.toList ++ [39]))) ∧ Below w.heap.size w w') := fun w => showBytes_any s w (by omega)
    have HX : Hid (∀ w, T16 w → Calls Tryz.prog 99 #[.string s] w fun e w' => e = .returned (.string (str (34 :: shws (rns s.data.toList) ++ [34]))) ∧ Below w.heap.size w w') := fun w h => showText_all s w (by omega) h
    generalize str (Lib.itoa n) = R1 at *
    generalize str (120 :: 39 :: hexs s.data.toList ++ [39]) = R2 at *
    generalize str (34 :: shws (rns s.data.toList) ++ [34]) = R3 at *
    clear hc HS
    go_enter Tryz.func53, Tryz.ntmps53
    go_wp2_with fail
    refine (check_any _ _ _ _ hs (Utf8Tabs_below hU hA)).mono ?_
    rintro e w1 ⟨rfl, hb1⟩
    rw [HC.out]
    have c0 : w1.cell? ⟨w.heap.size, 0, none⟩ = some (.int .i64 k) := (hb1.cell (p := ⟨w.heap.size, 0, none⟩) (by simp)).trans (by simp)
    have c1 : w1.cell? ⟨w.heap.size, 1, none⟩ = some (.int .i64 n) := (hb1.cell (p := ⟨w.heap.size, 1, none⟩) (by simp)).trans (by simp)
    have c2 : w1.cell? ⟨w.heap.size, 2, none⟩ = some (.string s) := (hb1.cell (p := ⟨w.heap.size, 2, none⟩) (by simp)).trans (by simp)
    have hB1 : Below w.heap.size w w1 := hA.trans (hb1.mono (by simp))
    have hT1 := T16_below hT hB1
    have HP1 : Hid (P10 w1) := P10_below hP hB1
    clear hb1 hA HC
    obtain rfl | rfl | rfl | rfl : k = 1 ∨ k = 2 ∨ k = 3 ∨ k = 4 := by omega
    all_goals go_wp2_with fail
    · refine (HI.out _ HP1.out).mono ?_
      rintro e w2 ⟨rfl, hb2⟩
      have hB2 := hB1.trans (hb2.mono hB1.size)
      clear hb2
      go_wp2
      go_ret
      exact ⟨rfl, hB2⟩
    · refine (HX.out _ hT1).mono ?_
      rintro e w2 ⟨rfl, hb2⟩
      have hB2 := hB1.trans (hb2.mono hB1.size)
      clear hb2
      go_wp2
      go_ret
      exact ⟨rfl, hB2⟩
    · by_cases hn : (n == 1) = true
      · obtain rfl : n = 1 := by simpa using hn
        refine (fmtBool_any _ _).mono ?_
        rintro e w2 ⟨rfl, rfl⟩
        go_wp2
        go_ret
        exact ⟨rfl, hB1⟩
      · have hn' : (n == 1) = false := by simpa using hn
        rw [hn']
        refine (fmtBool_any _ _).mono ?_
        rintro e w2 ⟨rfl, rfl⟩
        go_wp2
        go_ret
        exact ⟨rfl, hB1⟩
    · refine (HH.out _).mono ?_
      rintro e w2 ⟨rfl, hb2⟩
      have hB2 := hB1.trans (hb2.mono hB1.size)
      clear hb2
      go_wp2
      go_ret
      exact ⟨rfl, hB2⟩
  · have hc' : chkV k n s = false := by simpa using hc
    have HC : Hid (chkV k n s = false) := hc'
    rw [show shwV k n s = ⟨#[]⟩ by rw [shwV, if_neg hc]]
    clear hc hc'
    go_enter Tryz.func53, Tryz.ntmps53
    go_wp2_with fail
    refine (check_any _ _ _ _ hs (Utf8Tabs_below hU hA)).mono ?_
    rintro e w1 ⟨rfl, hb1⟩
    rw [HC.out]
    have hB1 : Below w.heap.size w w1 := hA.trans (hb1.mono (by simp))
    clear hb1 hA
    go_wp2
    go_ret
    exact ⟨rfl, hB1⟩
end Go.Proofs.YtacpllmlpmllbaaGreatDoor.V
