/- A strings.Builder that the call itself has made: copyCheck, WriteByte, WriteString, WriteRune at this program, with the frame that reaches above it. -/
import Derived.Test.YtjamkfkbajhefaaGreatDoorZk0
import Derived.Lib.OthersKept
import Derived.Lib.FrozenHead2
import Derived.Test.YtjamkfkbajhefaaGreatDoorZk1
import Derived.Shelf.Strings.BuilderK
import Derived.Test.YtjamkfkbajhefaaGreatDoorProg
import Derived.Laws.ResultCell
import Derived.Laws.MakeOwn
import Derived.Deep.RegionHeld3
namespace Go.Proofs.YtjamkfkbajhefaaGreatDoor.V
open Go.RowKit

theorem info_u8 : (Tryz.prog.info? 5).map (fun i => (i.zero, i.size, i.bytes)) = some (some (.int .u8 0), 1, 1) := by kernel_rfl
theorem bSize : (Tryz.prog.info? 89).map (·.size) = some 2 := by kernel_rfl
theorem bLies : liesAt Tryz.prog Tryz.prog.depth 89 (2 / Tryz.prog.cellsOf 89) 0 89 1 = true := by kernel_rfl

set_option maxRecDepth 100000 in
set_option maxHeartbeats 1000000 in
theorem copyCheck_used (b : Nat) (w : World) (h0 : w.cell? ⟨b, 0, none⟩ = some (.pointer (some ⟨b, 0, none⟩))) :
    Calls Tryz.prog 70 #[.pointer (some ⟨b, 0, none⟩)] w fun e w' => e = .returned (.tuple #[]) ∧ w' = w := by
  obtain ⟨j, hj, _⟩ := Option.map_eq_some_iff.1 bSize
  go_enter Tryz.func70, Tryz.ntmps70
  go_wp2
  rw [Lib.run_neq_ptr_same w _ Tryz.underlying86 hj]
  go_wp2
  go_end0
  exact ⟨rfl, rfl⟩

set_option maxRecDepth 100000 in
set_option maxHeartbeats 1000000 in
theorem copyCheck_fresh (b : Nat) (w : World) (h0 : w.cell? ⟨b, 0, none⟩ = some (.pointer none)) (hsh : w.shape? b = some (89, 2)) (hfz : w.frozen? ⟨b, 0, none⟩ = false) :
    Calls Tryz.prog 70 #[.pointer (some ⟨b, 0, none⟩)] w fun e w' => e = .returned (.tuple #[]) ∧ w' = w.setCell ⟨b, 0, none⟩ (.pointer (some ⟨b, 0, none⟩)) := by
  obtain ⟨j, hj, hjs⟩ := Option.map_eq_some_iff.1 bSize
  go_enter Tryz.func70, Tryz.ntmps70
  go_wp2
  rw [Lib.run_to_unsafe w ⟨b, 0, none⟩ Tryz.underlying86 Tryz.underlying167 hj (by rw [hjs]; decide) hsh (Nat.zero_lt_succ 1)]
  simp only [Result.andThen]
  rw [Oper.upon_value]
  go_wp2
  rw [run_callFunc_extern Tryz.func100 (by kernel_rfl) (by kernel_rfl) (by kernel_rfl) (e := Extern.AbiNoEscape.same) (by kernel_rfl)]
  rw [Lib.run_noEscape]
  simp only [Result.andThen]
  rw [Oper.upon_value]
  go_wp2
  rw [Lib.run_from_unsafe w ⟨b, 0, none⟩ Tryz.underlying167 Tryz.underlying86 hj hsh bLies]
  simp only [Result.andThen]
  rw [Oper.upon_value]
  go_wp2
  go_end0
  exact ⟨rfl, rfl⟩

theorem rowF_cells {w : World} {base : Nat} {e : TypeId} {sz : Nat} {v : Value} {n : Nat} {xs : List Value} (h : w.ownsRowF base e sz v n xs) (g : Nat) (hg : v.ownBlock = some g) : ∃ c fz, w.heap[g]? = some (.cells c e fz) := by
  rcases h.2 with ⟨hv, _⟩ | ⟨g', cap, cur, fz, hv, _, hgg, _⟩
  · rw [hv] at hg; cases hg
  · rw [hv] at hg
    cases hg
    exact ⟨_, _, hgg⟩
abbrev IsB (B b : Nat) (bs : List Value) (w : World) : Prop := Lib.IsBuilderF 89 5 B b bs w

theorem copyCheck_any (B b : Nat) (bs : List Value) (w : World) (h : IsB B b bs w) :
    Calls Tryz.prog 70 #[.pointer (some ⟨b, 0, none⟩)] w fun e w' => e = .returned (.tuple #[]) ∧ Lib.BuilderAtF 89 5 B b (.pointer (some ⟨b, 0, none⟩)) bs w' ∧ Below B w w' ∧ Lib.OthersKept 5 (some b) w w' := by
  rcases h with h | h
  · refine (copyCheck_fresh b w h.cell0 h.shape h.frozen0).mono ?_
    rintro e w' ⟨rfl, rfl⟩
    exact ⟨rfl, h.used _, (Below.refl B w).setCell (p := ⟨b, 0, none⟩) h.1 _, Lib.OthersKept.setCell (b := b) (Lib.OthersKept.refl _ _ _) ⟨b, 0, none⟩ rfl _⟩
  · refine (copyCheck_used b w h.cell0).mono ?_
    rintro e w' ⟨rfl, rfl⟩
    exact ⟨rfl, h, Below.refl B _, Lib.OthersKept.refl _ _ _⟩

set_option maxRecDepth 100000 in
set_option maxHeartbeats 1000000 in
theorem writeByte_k (B b : Nat) (bs : List Value) (c : Int) (w : World) (h : IsB B b bs w) (hlen : bs.length + 1 ≤ 140737488355328) (hBw : B ≤ w.heap.size) :
    Calls Tryz.prog 103 #[.pointer (some ⟨b, 0, none⟩), .int .u8 c] w fun e w' => e = .returned .nilIface ∧ IsB B b (bs ++ [.int .u8 c]) w' ∧ Below B w w' ∧ Lib.OthersKept 5 (some b) w w' := by
  obtain ⟨i0, hi, hz0, hz1, hz2⟩ := info_parts info_u8
  go_enter Tryz.func103, Tryz.ntmps103
  go_wp2_with (go_at_call 70; refine (copyCheck_any B b bs _ h).mono ?_)
  rintro e w1 ⟨rfl, h1, hb1, ok1⟩
  obtain ⟨hB, v, hbk, hown, hne⟩ := h1
  have c0 : w1.cell? ⟨b, 0, none⟩ = some (.pointer (some ⟨b, 0, none⟩)) := by rw [Lib.cell_of_heap hbk]; rfl
  have c1 : w1.cell? ⟨b, 1, none⟩ = some v := by rw [Lib.cell_of_heap hbk]; rfl
  go_wp2_with (at_builtin; refine wpList_append_ownF _ rfl _ _ 87 rfl B 5 i0 (.int .u8 0) 1 1 Tryz.underlying87 hi hz0 hz1 hz2 rfl (by decide) _ _ _ rfl (hown.alloc _) ⟨w1.heap.size, 0, none⟩ 1 1 [.int .u8 c] rfl rfl ?c1 ?c2 ?c3 ?c4 ?c5 ?_)
  case c1 =>
    intro j u hj
    match j, hj with
    | 0, hj => simp at hj; subst hj; simp [Addr.add]
  case c2 => intro u hu; simp at hu; subst hu; rfl
  case c3 => unfold maxLen; omega
  case c4 => omega
  case c5 => have := hb1.size; simp; omega
  intro v' w2 hown' hgrow _
  have hlt : b < w1.heap.size := (Array.getElem?_eq_some_iff.1 hbk).1
  have hb2 : w2.heap[b]? = some (.cells #[.pointer (some ⟨b, 0, none⟩), v] 89 (0, 0)) := by
    rw [hgrow.block b (by simp; omega) (fun e => hne e.symm), Lib.alloc_old w1 _ b hlt]
    exact hbk
  have d0 : w2.cell? ⟨b, 0, none⟩ = some (.pointer (some ⟨b, 0, none⟩)) := by rw [Lib.cell_of_heap hb2]; rfl
  have d1 : w2.cell? ⟨b, 1, none⟩ = some v := by rw [Lib.cell_of_heap hb2]; rfl
  have f1 : w2.frozen? ⟨b, 1, none⟩ = false := Lib.frozen_of_heap hb2 1
  obtain ⟨g, cap, rfl⟩ : ∃ g cap, v' = .slice (some ⟨g, 0, none⟩) (bs.length + 1) cap := by
    rcases hown'.2 with ⟨_, h0⟩ | ⟨g, cap, cur, fz, hv, _⟩
    · omega
    · exact ⟨g, cap, hv⟩
  go_wp2
  go_ret
  refine ⟨rfl, .inr ?_, ?_, ?_⟩
  · exact Lib.BuilderAtF.put (T := 89) (e := 5) hB hb2 (bs' := bs ++ [.int .u8 c]) (by simpa using hown') (by decide)
  · exact ((hb1.alloc (by have := hb1.size; omega) _).grown hgrow (by have := hb1.size; simp; omega) (fun k hk => (hown.lt k hk).1)).setCell (p := ⟨b, 1, none⟩) hB _
  · exact ((ok1.alloc _).grown hgrow (fun g hg => by obtain ⟨c, fz, h⟩ := rowF_cells hown g hg; exact ⟨c, fz, by rw [Lib.alloc_old w1 _ g (Array.getElem?_eq_some_iff.1 h).1]; exact h⟩)).setCell _ rfl _

set_option maxRecDepth 100000 in
set_option maxHeartbeats 1000000 in
theorem writeString_k (B b : Nat) (bs : List Value) (s : ByteArray) (w : World) (h : IsB B b bs w) (hlen : bs.length + s.size ≤ 140737488355328) (hBw : B ≤ w.heap.size) :
    Calls Tryz.prog 39 #[.pointer (some ⟨b, 0, none⟩), .string s] w fun e w' => e = .returned (.tuple #[.int .i64 s.size, .nilIface]) ∧ IsB B b (bs ++ Lib.strCells s) w' ∧ Below B w w' ∧ Lib.OthersKept 5 (some b) w w' := by
  obtain ⟨i0, hi, hz0, hz1, hz2⟩ := info_parts info_u8
  go_enter Tryz.func39, Tryz.ntmps39
  go_wp2_with (go_at_call 70; refine (copyCheck_any B b bs _ h).mono ?_)
  rintro e w1 ⟨rfl, h1, hb1, ok1⟩
  obtain ⟨hB, v, hbk, hown, hne⟩ := h1
  have c0 : w1.cell? ⟨b, 0, none⟩ = some (.pointer (some ⟨b, 0, none⟩)) := by rw [Lib.cell_of_heap hbk]; rfl
  have c1 : w1.cell? ⟨b, 1, none⟩ = some v := by rw [Lib.cell_of_heap hbk]; rfl
  go_wp2_with (at_builtin; refine Lib.wpList_append_own_stringF _ rfl _ _ 87 9 rfl B 5 i0 Tryz.underlying87 Tryz.underlying9 hi hz0 hz1 hz2 _ _ _ rfl hown s rfl ?c3 ?c4 ?c5 ?_)
  case c3 => unfold maxLen; omega
  case c4 => omega
  case c5 => have := hb1.size; omega
  intro v' w2 hown' hgrow _
  have hlt : b < w1.heap.size := (Array.getElem?_eq_some_iff.1 hbk).1
  have hb2 : w2.heap[b]? = some (.cells #[.pointer (some ⟨b, 0, none⟩), v] 89 (0, 0)) := by
    rw [hgrow.block b hlt (fun e => hne e.symm)]
    exact hbk
  have d0 : w2.cell? ⟨b, 0, none⟩ = some (.pointer (some ⟨b, 0, none⟩)) := by rw [Lib.cell_of_heap hb2]; rfl
  have d1 : w2.cell? ⟨b, 1, none⟩ = some v := by rw [Lib.cell_of_heap hb2]; rfl
  have f1 : w2.frozen? ⟨b, 1, none⟩ = false := Lib.frozen_of_heap hb2 1
  obtain ⟨ao, n', cap, rfl⟩ : ∃ ao n' cap, v' = .slice ao n' cap := by
    rcases hown'.2 with ⟨hv, _⟩ | ⟨g, cap, cur, fz, hv, _⟩
    · exact ⟨_, _, _, hv⟩
    · exact ⟨_, _, _, hv⟩
  go_wp2
  go_ret2
  refine ⟨rfl, .inr ?_, ?_, ?_⟩
  · exact Lib.BuilderAtF.put (T := 89) (e := 5) hB hb2 (bs' := bs ++ Lib.strCells s) (by simpa [Lib.strCells_length] using hown') (by decide)
  · exact (hb1.grown hgrow (by have := hb1.size; omega) (fun k hk => (hown.lt k hk).1)).setCell (p := ⟨b, 1, none⟩) hB _
  · exact (ok1.grown hgrow (fun g hg => rowF_cells hown g hg)).setCell _ rfl _

/-- What AppendRune leaves. -/
def ArPost (B : Nat) (xs : List Value) (w : World) (e : Ending) (w' : World) : Prop :=
  ∃ v, e = .returned v ∧ w'.ownsRowF B 5 1 v xs.length xs ∧ Below B w w' ∧ Lib.OthersKept 5 none w w'
end Go.Proofs.YtjamkfkbajhefaaGreatDoor.V
/- strconv.FormatInt at base 16 of small numbers: walks. -/
namespace Go.Proofs.YtjamkfkbajhefaaGreatDoor.V
open Go.RowKit

/-- The one cell of math/bits' table that base 16 reads. -/
def T16 (w : World) : Prop := w.cell? ⟨5, 15, none⟩ = some (.int .u8 4)
theorem T16_below {w w' : World} (h : T16 w) (hb : Below w.heap.size w w') : T16 w' :=
  (hb.cell (p := ⟨5, 15, none⟩) (World.block_lt_of_cell? _ _ h)).trans h

theorem pow2_16 (w : World) : Calls Tryz.prog 177 #[.int .i64 16] w fun e w' => e = .returned (.bool true) ∧ w' = w := by
  go_enter Tryz.func177, Tryz.ntmps177
  go_wp2
  go_ret
  exact ⟨rfl, rfl⟩
theorem tzkey_16 : IntKind.u64.wrap (bits BinOp.and IntKind.u64 16 (IntKind.u64.wrap (-16)) * 285870213051353865) / 288230376151711744 = 15 := by decide +kernel
theorem tz64_16 (w : World) (h : T16 w) : Calls Tryz.prog 200 #[.int .u64 16] w fun e w' => e = .returned (.int .i64 4) ∧ w' = w := by
  unfold T16 at h
  have k := tzkey_16
  go_enter Tryz.func200, Tryz.ntmps200
  go_wp2
  go_ret
  exact ⟨rfl, rfl⟩
theorem tz_16 (w : World) (h : T16 w) : Calls Tryz.prog 178 #[.int .u64 16] w fun e w' => e = .returned (.int .i64 4) ∧ w' = w := by
  go_enter Tryz.func178, Tryz.ntmps178
  go_wp2_with (go_at_call 200; refine (tz64_16 _ h).mono ?_; rintro e w' ⟨rfl, rfl⟩)
  go_ret
  exact ⟨rfl, rfl⟩

abbrev Z65 : Obj := .cells #[.int .u8 0, .int .u8 0, .int .u8 0, .int .u8 0, .int .u8 0, .int .u8 0, .int .u8 0, .int .u8 0, .int .u8 0, .int .u8 0, .int .u8 0, .int .u8 0, .int .u8 0, .int .u8 0, .int .u8 0, .int .u8 0, .int .u8 0, .int .u8 0, .int .u8 0, .int .u8 0, .int .u8 0, .int .u8 0, .int .u8 0, .int .u8 0, .int .u8 0, .int .u8 0, .int .u8 0, .int .u8 0, .int .u8 0, .int .u8 0, .int .u8 0, .int .u8 0, .int .u8 0, .int .u8 0, .int .u8 0, .int .u8 0, .int .u8 0, .int .u8 0, .int .u8 0, .int .u8 0, .int .u8 0, .int .u8 0, .int .u8 0, .int .u8 0, .int .u8 0, .int .u8 0, .int .u8 0, .int .u8 0, .int .u8 0, .int .u8 0, .int .u8 0, .int .u8 0, .int .u8 0, .int .u8 0, .int .u8 0, .int .u8 0, .int .u8 0, .int .u8 0, .int .u8 0, .int .u8 0, .int .u8 0, .int .u8 0, .int .u8 0, .int .u8 0, .int .u8 0] 230
abbrev DG : ByteArray := ⟨#[48, 49, 50, 51, 52, 53, 54, 55, 56, 57, 97, 98, 99, 100, 101, 102, 103, 104, 105, 106, 107, 108, 109, 110, 111, 112, 113, 114, 115, 116, 117, 118, 119, 120, 121, 122]⟩
/-- A digit of 0 to 9, a to z. -/
def dg (n : Nat) : UInt8 := DG.data.toList.getD n 0
theorem dg_at (n : Nat) (h : n < DG.size) : DG[n] = dg n := by
  unfold dg
  have e : n < DG.data.toList.length := h
  rw [List.getD_eq_getElem?_getD, List.getElem?_eq_getElem e]
  rfl
abbrev Z65x (x : Int) : Obj := .cells #[.int .u8 0, .int .u8 0, .int .u8 0, .int .u8 0, .int .u8 0, .int .u8 0, .int .u8 0, .int .u8 0, .int .u8 0, .int .u8 0, .int .u8 0, .int .u8 0, .int .u8 0, .int .u8 0, .int .u8 0, .int .u8 0, .int .u8 0, .int .u8 0, .int .u8 0, .int .u8 0, .int .u8 0, .int .u8 0, .int .u8 0, .int .u8 0, .int .u8 0, .int .u8 0, .int .u8 0, .int .u8 0, .int .u8 0, .int .u8 0, .int .u8 0, .int .u8 0, .int .u8 0, .int .u8 0, .int .u8 0, .int .u8 0, .int .u8 0, .int .u8 0, .int .u8 0, .int .u8 0, .int .u8 0, .int .u8 0, .int .u8 0, .int .u8 0, .int .u8 0, .int .u8 0, .int .u8 0, .int .u8 0, .int .u8 0, .int .u8 0, .int .u8 0, .int .u8 0, .int .u8 0, .int .u8 0, .int .u8 0, .int .u8 0, .int .u8 0, .int .u8 0, .int .u8 0, .int .u8 0, .int .u8 0, .int .u8 0, .int .u8 0, .int .u8 0, .int .u8 x] 230
theorem conv_last (w : World) (x : Int) : (convert 87 9 (.slice (some ⟨w.heap.size, 64, none⟩) 1 1)).run Tryz.prog (w.alloc (Z65x x)) = .ok (.string (strOfNums [x])) (w.alloc (Z65x x)) :=
  run_convert_bytes_arg (P := Tryz.prog) _ 87 5 Tryz.underlying87 Tryz.underlying5 w.heap.size 64 1 1 [x] rfl (fun i hi => by
    match i, hi with
    | 0, _ => simp) 9 Tryz.underlying9
set_option maxRecDepth 100000 in
set_option maxHeartbeats 2000000 in
theorem formatBits_small (n : Nat) (w : World) (hn : n < 16) (h : T16 w) :
    Calls Tryz.prog 149 #[.slice none 0 0, .int .u64 (n : Int), .int .i64 16, .bool false, .bool false] w fun e w' => e = .returned (.tuple #[.slice none 0 0, .string (strOfNums [((dg n).toNat : Int)])]) ∧ Below w.heap.size w w' := by
  have hT := T16_below h ((Below.refl _ _).alloc (Nat.le_refl _) Z65)
  go_enter Tryz.func149, Tryz.ntmps149
  go_wp2_with (first | (go_at_call 177; refine (pow2_16 _).mono ?_; rintro e w' ⟨rfl, rfl⟩) | (go_at_call 178; refine (tz_16 _ ?_).mono ?_; exact hT; rintro e w' ⟨rfl, rfl⟩))
  go_loopw [1, 13] (fun u i wr => u = .int .u64 (n : Int) ∧ i = .int .i64 65 ∧ wr = w.alloc Z65) (fun _ _ _ => 0)
  case atStart => exact ⟨rfl, rfl, rfl⟩
  case round =>
    obtain ⟨rfl, rfl, rfl⟩ := hrel
    have hd : decide ((16 : Int) ≤ n) = false := by simp; omega
    have hix : n < DG.size := by have : DG.size = 36 := rfl; omega
    have HD : Hid (((DG[n]).toNat : Int) = ((dg n).toNat : Int)) := by show _ = _; rw [dg_at n hix]
    go_wp2
    rw [conv_last]
    go_wp2
    go_ret2
    exact ⟨by rw [← HD.out]; rfl, (Below.refl _ _).alloc (Nat.le_refl _) _⟩
end Go.Proofs.YtjamkfkbajhefaaGreatDoor.V
/- strconv.FormatInt of a digit at base 16, value.showRune: walks. -/
namespace Go.Proofs.YtjamkfkbajhefaaGreatDoor.V
open Go.RowKit

theorem formatInt_i (n : Nat) (w : World) (hn : n < 16) (h : T16 w) :
    Calls Tryz.prog 128 #[.int .i64 (n : Int), .int .i64 16] w fun e w' => e = .returned (.string (strOfNums [((dg n).toNat : Int)])) ∧ Below w.heap.size w w' := by
  have hd : decide ((n : Int) < 0) = false := by simp
  go_enter Tryz.func128, Tryz.ntmps128
  go_wp2_with fail
  refine (formatBits_small n _ hn h).mono ?_
  rintro e w1 ⟨rfl, hb1⟩
  go_wp2
  go_ret
  exact ⟨rfl, hb1⟩
theorem formatInt_16 (n : Nat) (w : World) (hn : n < 16) (h : T16 w) :
    Calls Tryz.prog 129 #[.int .i64 (n : Int), .int .i64 16] w fun e w' => e = .returned (.string (strOfNums [((dg n).toNat : Int)])) ∧ Below w.heap.size w w' := by
  go_enter Tryz.func129, Tryz.ntmps129
  go_wp2_with fail
  refine (formatInt_i n _ hn h).mono ?_
  rintro e w1 ⟨rfl, hb1⟩
  go_wp2
  go_ret
  exact ⟨rfl, hb1⟩

/-- Bytes as a text. -/
def str (l : List UInt8) : ByteArray := ⟨l.toArray⟩
theorem str_data (l : List UInt8) : (str l).data.toList = l := by simp [str]
theorem str_of (s : ByteArray) : str s.data.toList = s := by cases s; simp [str]
theorem str_size (l : List UInt8) : (str l).size = l.length := by simp [str, ByteArray.size]
theorem ba_eq {a b : ByteArray} (h : a.data.toList = b.data.toList) : a = b := by
  cases a; cases b
  simp only [Array.toList_inj] at h
  rw [h]
theorem ba_append (a b : ByteArray) : (a ++ b).data.toList = a.data.toList ++ b.data.toList := by
  rw [ByteArray.data_append, Array.toList_append]

/-- How a rune is shown (those of 16 to 31 and 127 are left out here). -/
def showR (c : Nat) : List UInt8 :=
  if c = 34 then [92, 34] else if c = 92 then [92, 92] else if c = 10 then [92, 110] else if c = 9 then [92, 116] else if c = 13 then [92, 114]
  else if c < 16 then [92, 117, 123, dg c, 125] else enc c
set_option maxRecDepth 100000 in
theorem enc_str (c : Nat) : Utf8.encode (c : Int) = str (enc c) := (str_of (Utf8.encode (c : Int))).symm
theorem num1 (x : UInt8) : strOfNums [(x.toNat : Int)] = str [x] := by
  unfold strOfNums str
  simp
theorem brace (x : UInt8) : ((⟨#[92, 117, 123]⟩ : ByteArray) ++ str [x]) ++ (⟨#[125]⟩ : ByteArray) = str [92, 117, 123, x, 125] := ba_eq (by
  rw [ba_append, ba_append, str_data, str_data]
  rfl)

set_option maxRecDepth 100000 in
set_option maxHeartbeats 2000000 in
theorem showRune_any (c : Nat) (w : World) (hs : scal c) (ho : c < 16 ∨ (32 ≤ c ∧ c ≠ 127)) (hT : T16 w) :
    Calls Tryz.prog 104 #[.int .i32 (c : Int)] w fun e w' => e = .returned (.string (str (showR c))) ∧ Below w.heap.size w w' := by
  have hc : c ≤ 1114111 := by unfold scal at hs; omega
  by_cases h1 : c = 34
  · subst h1
    go_enter Tryz.func104, Tryz.ntmps104
    go_wp2
    go_ret
    exact ⟨rfl, Below.refl _ _⟩
  by_cases h2 : c = 92
  · subst h2
    go_enter Tryz.func104, Tryz.ntmps104
    go_wp2
    go_ret
    exact ⟨rfl, Below.refl _ _⟩
  by_cases h3 : c = 10
  · subst h3
    go_enter Tryz.func104, Tryz.ntmps104
    go_wp2
    go_ret
    exact ⟨rfl, Below.refl _ _⟩
  by_cases h4 : c = 9
  · subst h4
    go_enter Tryz.func104, Tryz.ntmps104
    go_wp2
    go_ret
    exact ⟨rfl, Below.refl _ _⟩
  by_cases h5 : c = 13
  · subst h5
    go_enter Tryz.func104, Tryz.ntmps104
    go_wp2
    go_ret
    exact ⟨rfl, Below.refl _ _⟩
  have k1 : ((c : Int) == 34) = false := by rw [beq_eq_false_iff_ne]; omega
  have k2 : ((c : Int) == 92) = false := by rw [beq_eq_false_iff_ne]; omega
  have k3 : ((c : Int) == 10) = false := by rw [beq_eq_false_iff_ne]; omega
  have k4 : ((c : Int) == 9) = false := by rw [beq_eq_false_iff_ne]; omega
  have k5 : ((c : Int) == 13) = false := by rw [beq_eq_false_iff_ne]; omega
  by_cases h6 : c < 16
  · have k6 : decide ((c : Int) < 32) = true := by simp; omega
    have HR : Hid (str (showR c) = str [92, 117, 123, dg c, 125]) := by show _ = _; rw [showR, if_neg h1, if_neg h2, if_neg h3, if_neg h4, if_neg h5, if_pos h6]
    have HB : Hid (((⟨#[92, 117, 123]⟩ : ByteArray) ++ str [dg c]) ++ (⟨#[125]⟩ : ByteArray) = str [92, 117, 123, dg c, 125]) := brace _
    have hz : (str [dg c]).size = 1 := rfl
    rw [HR.out]
    clear HR h1 h2 h3 h4 h5 ho
    go_enter Tryz.func104, Tryz.ntmps104
    go_wp2_with fail
    refine (formatInt_16 c _ h6 hT).mono ?_
    rintro e w1 ⟨rfl, hb1⟩
    rw [num1]
    generalize str [dg c] = x at *
    go_wp2
    go_ret
    exact ⟨by rw [← HB.out]; rfl, hb1⟩
  · have k6 : decide ((c : Int) < 32) = false := by simp; omega
    have k7 : ((c : Int) == 127) = false := by rw [beq_eq_false_iff_ne]; omega
    have HR : Hid (Utf8.encode (c : Int) = str (showR c)) := by show _ = _; rw [showR, if_neg h1, if_neg h2, if_neg h3, if_neg h4, if_neg h5, if_neg h6, enc_str]
    clear h1 h2 h3 h4 h5 ho
    go_enter Tryz.func104, Tryz.ntmps104
    go_wp2
    go_ret
    exact ⟨by rw [← HR.out]; rfl, Below.refl _ _⟩
end Go.Proofs.YtjamkfkbajhefaaGreatDoor.V
/- value.Check: its walk. -/
namespace Go.Proofs.YtjamkfkbajhefaaGreatDoor.V
open Go.RowKit

abbrev UT (w : World) : Prop := Lib.Utf8Tabs 0 1 w
/-- A value, as the model has it. -/
abbrev vv (k n : Int) (s : ByteArray) : Value := .agg #[.int .i64 k, .int .i64 n, .string s]
/-- May it be? -/
def chkV (k n : Int) (s : ByteArray) : Bool :=
  if k = 1 then decide (s.size = 0) && decide (-9007199254740991 ≤ n ∧ n ≤ 9007199254740991)
  else if k = 2 then decide (n = 0) && (decide (s.size ≤ 200) && Lib.validD s.data.toList)
  else if k = 3 then decide (s.size = 0) && decide (n = 0 ∨ n = 1)
  else if k = 4 then decide (n = 0) && decide (s.size ≤ 200)
  else false
theorem empty_is (B : ByteArray) (h : B.size = 0) : B.toList.isEmpty = true := by
  rw [ByteArray.toList_eq]
  have : B.data.toList = [] := List.eq_nil_of_length_eq_zero (by rw [Array.length_toList]; exact h)
  rw [this]; rfl
theorem empty_not (B : ByteArray) (h : B.size ≠ 0) : B.toList.isEmpty = false := by
  rw [ByteArray.toList_eq]
  cases e : B.data.toList with
  | nil => exact absurd (by have := congrArg List.length e; rwa [Array.length_toList] at this) h
  | cons b l => rfl
set_option maxRecDepth 100000 in
set_option maxHeartbeats 2000000 in
theorem check_any (k n : Int) (s : ByteArray) (w : World) (hs : s.size ≤ 140737488355328) (hT : UT w) :
    Calls Tryz.prog 58 #[vv k n s] w fun e w' => e = .returned (.bool (chkV k n s)) ∧ Below w.heap.size w w' := by
  obtain ⟨C, HC⟩ : ∃ C, Hid (chkV k n s = C) := ⟨_, rfl⟩
  rw [HC.out]
  have hb1 : Below w.heap.size w (w.alloc (.cells #[.int .i64 k, .int .i64 n, .string s] 52)) := (Below.refl _ _).alloc (Nat.le_refl _) _
  by_cases e1 : k = 1
  · subst e1
    have hc := HC.out
    simp only [chkV, if_true] at hc
    by_cases h0 : s.size = 0
    · have he := empty_is s h0
      by_cases ha : -9007199254740991 ≤ n
      · have ha' : decide (-9007199254740991 ≤ n) = true := by simpa using ha
        have HR : Hid (decide (n ≤ 9007199254740991) = C) := by show _ = _; rw [← hc, h0]; simp [ha]
        clear hc HC
        go_enter Tryz.func58, Tryz.ntmps58
        go_wp2
        go_ret
        exact ⟨by rw [← HR.out]; rfl, hb1⟩
      · have ha' : decide (-9007199254740991 ≤ n) = false := by simpa using ha
        have HR : Hid (false = C) := by show _ = _; rw [← hc, h0]; simp [ha]
        clear hc HC
        go_enter Tryz.func58, Tryz.ntmps58
        go_wp2
        go_ret
        exact ⟨by rw [← HR.out]; rfl, hb1⟩
    · have he := empty_not s h0
      have HR : Hid (false = C) := by show _ = _; rw [← hc]; simp [h0]
      clear hc HC
      go_enter Tryz.func58, Tryz.ntmps58
      go_wp2
      go_ret
      exact ⟨by rw [← HR.out]; rfl, hb1⟩
  have f1 : (k == 1) = false := by rw [beq_eq_false_iff_ne]; exact e1
  by_cases e2 : k = 2
  · subst e2
    have hc := HC.out
    simp only [chkV, e1, if_false, if_true] at hc
    by_cases h0 : n = 0
    · subst h0
      by_cases h2 : s.size ≤ 200
      · have h2' : decide ((s.size : Int) ≤ 200) = true := by simp; omega
        have HR : Hid (Lib.validD s.data.toList = C) := by show _ = _; rw [← hc]; simp [h2]
        clear hc HC e1
        go_enter Tryz.func58, Tryz.ntmps58
        go_wp2_with fail
        refine (Tryz.utf8_ValidString s _ (by omega) (Utf8Tabs_below hT hb1)).mono ?_
        rintro e w1 ⟨rfl, hb2⟩
        rw [HR.out]
        have hb3 : Hid (Below w.heap.size w w1) := hb1.trans (hb2.mono hb1.size)
        clear hb1 hb2
        go_wp2
        go_ret
        exact ⟨rfl, hb3.out⟩
      · have h2' : decide ((s.size : Int) ≤ 200) = false := by simp; omega
        have HR : Hid (false = C) := by show _ = _; rw [← hc]; simp [h2]
        clear hc HC e1
        go_enter Tryz.func58, Tryz.ntmps58
        go_wp2
        go_ret
        exact ⟨by rw [← HR.out]; rfl, hb1⟩
    · have h0' : (n == 0) = false := by rw [beq_eq_false_iff_ne]; exact h0
      have HR : Hid (false = C) := by show _ = _; rw [← hc]; simp [h0]
      clear hc HC e1
      go_enter Tryz.func58, Tryz.ntmps58
      go_wp2
      go_ret
      exact ⟨by rw [← HR.out]; rfl, hb1⟩
  have f2 : (k == 2) = false := by rw [beq_eq_false_iff_ne]; exact e2
  by_cases e3 : k = 3
  · subst e3
    have hc := HC.out
    simp only [chkV, e1, e2, if_false, if_true] at hc
    by_cases h0 : s.size = 0
    · have he := empty_is s h0
      by_cases hn : n = 0
      · subst hn
        have HR : Hid (true = C) := by show _ = _; rw [← hc, h0]; simp
        clear hc HC e1 e2
        go_enter Tryz.func58, Tryz.ntmps58
        go_wp2
        go_ret
        exact ⟨by rw [← HR.out]; rfl, hb1⟩
      · have hn' : (n == 0) = false := by rw [beq_eq_false_iff_ne]; exact hn
        have HR : Hid ((n == 1) = C) := by
          show _ = _
          rw [← hc, h0, Bool.eq_iff_iff]
          simp [hn]
        clear hc HC e1 e2
        go_enter Tryz.func58, Tryz.ntmps58
        go_wp2
        go_ret
        exact ⟨by rw [← HR.out]; rfl, hb1⟩
    · have he := empty_not s h0
      have HR : Hid (false = C) := by show _ = _; rw [← hc]; simp [h0]
      clear hc HC e1 e2
      go_enter Tryz.func58, Tryz.ntmps58
      go_wp2
      go_ret
      exact ⟨by rw [← HR.out]; rfl, hb1⟩
  have f3 : (k == 3) = false := by rw [beq_eq_false_iff_ne]; exact e3
  by_cases e4 : k = 4
  · subst e4
    have hc := HC.out
    simp only [chkV, e1, e2, e3, if_false, if_true] at hc
    by_cases h0 : n = 0
    · subst h0
      have HR : Hid (decide (s.size ≤ 200) = C) := by show _ = _; rw [← hc]; simp
      have HQ : Hid (decide ((s.size : Int) ≤ 200) = decide (s.size ≤ 200)) := by show _ = _; rw [Bool.eq_iff_iff]; simp; omega
      clear hc HC e1 e2 e3
      go_enter Tryz.func58, Tryz.ntmps58
      go_wp2
      go_ret
      exact ⟨by rw [← HR.out]; first | rfl | (rw [← HQ.out]; rfl), hb1⟩
    · have h0' : (n == 0) = false := by rw [beq_eq_false_iff_ne]; exact h0
      have HR : Hid (false = C) := by show _ = _; rw [← hc]; simp [h0]
      clear hc HC e1 e2 e3
      go_enter Tryz.func58, Tryz.ntmps58
      go_wp2
      go_ret
      exact ⟨by rw [← HR.out]; rfl, hb1⟩
  have f4 : (k == 4) = false := by rw [beq_eq_false_iff_ne]; exact e4
  have HR : Hid (false = C) := by show _ = _; rw [← HC.out, chkV, if_neg e1, if_neg e2, if_neg e3, if_neg e4]
  clear HC e1 e2 e3 e4
  go_enter Tryz.func58, Tryz.ntmps58
  go_wp2
  go_ret
  exact ⟨by rw [← HR.out]; rfl, hb1⟩
end Go.Proofs.YtjamkfkbajhefaaGreatDoor.V
/- The shelf contract of (*strings.Builder).String at this program, laid by the shelf tool in plain words. -/
namespace Go.Proofs
open Go.Shelf
def Tryz.lays169_ren : Go.Shelf.Ren := ⟨fun | 169 => 42 | n => n, fun | 70 => 86 | 9 => 9 | 0 => 0 | 72 => 89 | 37 => 87 | 127 => 128 | 3 => 3 | 5 => 5 | n => n, fun | n => n⟩
theorem Tryz.lays169 : Go.Proofs.Lays.n169 Tryz.prog Tryz.lays169_ren := {
  mixed := by kernel_rfl
  f169 := Tryz.func42.trans (congrArg some (by kernel_rfl))
  t0 := Tryz.underlying0
  a0 := Tryz.isAgg0
  z0 := Tryz.sizeOf0
  v0 := Tryz.zeroValue0
  t3 := Tryz.underlying3
  a3 := Tryz.isAgg3
  z3 := Tryz.sizeOf3
  v3 := Tryz.zeroValue3
  t9 := Tryz.underlying9
  a9 := Tryz.isAgg9
  z9 := Tryz.sizeOf9
  v9 := Tryz.zeroValue9
  t37 := Tryz.underlying87
  a37 := Tryz.isAgg87
  z37 := Tryz.sizeOf87
  v37 := Tryz.zeroValue87
  t70 := Tryz.underlying86
  a70 := Tryz.isAgg86
  z70 := Tryz.sizeOf86
  v70 := Tryz.zeroValue86
  t72 := Tryz.underlying89
  a72 := Tryz.isAgg89
  z72 := Tryz.sizeOf89
  v72 := Tryz.zeroValue89
  t127 := Tryz.underlying128
  a127 := Tryz.isAgg128
  z127 := Tryz.sizeOf128
  v127 := Tryz.zeroValue128 }
theorem Tryz.Builder_Extra_169 : Builder.Extra Tryz.prog Tryz.lays169_ren := {
  sizeBuilder := by kernel_rfl
  liesBuilder := by kernel_rfl
  t5 := Tryz.underlying5
  a5 := Tryz.isAgg5
  z5 := Tryz.sizeOf5
  v5 := Tryz.zeroValue5
  infoByte := by kernel_rfl
  cellsByte := by kernel_rfl
  sizeByte := by kernel_rfl
  neB5 := by decide }
open Go.RowKit in
theorem Tryz.Builder_String_any_k (B b : Nat) (l : List UInt8) (w : World) (h : Lib.IsBuilderF 89 5 B b (Lib.byteCells l) w) (hBw : B ≤ w.heap.size) :
    Calls Tryz.prog 42 #[.pointer (some ⟨b, 0, none⟩)] w fun e w' => e = .returned (.string ⟨l.toArray⟩) ∧ (Lib.IsBuilderF 89 5 B b (Lib.byteCells l) w' ∧ Below B w w' ∧ Lib.OthersKept 5 (some b) w w') := Any.Builder_String_any_k Tryz.lays169 Tryz.Builder_Extra_169 B b l w h hBw
end Go.Proofs
/- value.showText, and Show of a text: walks. -/
namespace Go.Proofs.YtjamkfkbajhefaaGreatDoor.V
open Go.RowKit

theorem grown_below {w w1 : World} (hb : Below w.heap.size w w1) : w.grownBy w1 none := ⟨hb.os, hb.tape, hb.output, hb.size, fun k hk _ => hb.block k hk⟩
theorem IsB_below {B b : Nat} {bs : List Value} {w w1 : World} (h : IsB B b bs w) (hb : Below w.heap.size w w1) : IsB B b bs w1 := by
  have key : ∀ p, Lib.BuilderAtF 89 5 B b p bs w → Lib.BuilderAtF 89 5 B b p bs w1 := by
    rintro p ⟨hB, v, hbk, hown, hne⟩
    exact ⟨hB, v, (hb.block b (Array.getElem?_eq_some_iff.1 hbk).1).trans hbk, hown.kept (grown_below hb) (by cases hv : v.ownBlock <;> simp), hne⟩
  exact h.elim (fun x => .inl (key _ x)) (fun x => .inr (key _ x))
theorem IsB_alloc {B b : Nat} {bs : List Value} {w : World} (h : IsB B b bs w) (o : Obj) : IsB B b bs (w.alloc o) :=
  h.elim (fun x => .inl (x.alloc o)) (fun x => .inr (x.alloc o))
theorem IsB_iter {B b : Nat} {bs : List Value} {w : World} (h : IsB B b bs w) {k : Nat} {s : ByteArray} {p : Nat} (hk : w.heap[k]? = some (.stringIter s p)) (p' : Nat) : IsB B b bs (w.iterAt k s p') := by
  have key : ∀ q, Lib.BuilderAtF 89 5 B b q bs w → Lib.BuilderAtF 89 5 B b q bs (w.iterAt k s p') := by
    rintro q ⟨hB, v, hbk, hown, hne⟩
    have hbne : b ≠ k := fun e => by rw [e, hk] at hbk; cases hbk
    refine ⟨hB, v, (Lib.iterAt_other w k b s p' hbne).trans hbk, hown.kept (row := some k) ⟨rfl, rfl, rfl, by rw [Lib.iterAt_size]; exact Nat.le_refl _, fun j _ hj => Lib.iterAt_other w k j s p' (fun e => hj (by rw [e]))⟩ ?_, hne⟩
    refine .inr fun e => ?_
    obtain ⟨c, fz, hc⟩ := rowF_cells hown k e
    rw [hk] at hc
    cases hc
  exact h.elim (fun x => .inl (key _ x)) (fun x => .inr (key _ x))
theorem iterPos_of {w : World} {k : Nat} {s : ByteArray} {p : Nat} (h : w.heap[k]? = some (.stringIter s p)) : w.iterPos k = p := by
  simp [World.iterPos, h]
theorem iter_kept {w w' : World} {b : Nat} (ok : Lib.OthersKept 5 (some b) w w') {k : Nat} {s : ByteArray} {p : Nat} (h : w.heap[k]? = some (.stringIter s p)) (hb : k ≠ b) : w'.heap[k]? = some (.stringIter s p) :=
  ok k _ h (fun e => hb (Option.some.inj e)) (fun c fz e => by cases e)
theorem IsB_ne {B b : Nat} {bs : List Value} {w : World} (h : IsB B b bs w) {k : Nat} {s : ByteArray} {p : Nat} (hk : w.heap[k]? = some (.stringIter s p)) : k ≠ b := by
  intro e
  subst e
  rcases h with ⟨_, v, hbk, _⟩ | ⟨_, v, hbk, _⟩
  · rw [hk] at hbk; cases hbk
  · rw [hk] at hbk; cases hbk

theorem cells_byte (l : List UInt8) (x : UInt8) : Lib.byteCells l ++ [Value.int .u8 (x.toNat : Int)] = Lib.byteCells (l ++ [x]) := by rw [Lib.byteCells_append]; rfl

end Go.Proofs.YtjamkfkbajhefaaGreatDoor.V
/- value.scanInt at the examples: walks. -/
namespace Go.Proofs.YtjamkfkbajhefaaGreatDoor.V
open Go.RowKit

theorem results_cell3 {fn : Func} {p u v : Tmp} {ty : TypeId} (h : fn.results = #[.cell p ty, .tmp u, .tmp v]) (tmps : Array Value) (P : Program) (w : World) :
    (results fn tmps).run P w =
      ((asAddr (tmps.getD p undef)).run P w).andThen fun a w₁ => ((loadVar ty a).run P w₁).andThen fun x w₂ => .ok (.tuple #[x, tmps.getD u undef, tmps.getD v undef]) w₂ := by
  simp only [results, h]
  simp [Sem.run_bind, Result.andThen]
abbrev v0 : Value := vv 0 0 ⟨#[]⟩
theorem ascii10 : ∀ (j : Nat) b, (⟨#[48, 49, 50, 51, 52, 53, 54, 55, 56, 57]⟩ : ByteArray).data.toList[j]? = some b → b.toNat < 128 := by
  intro j b h
  have hm : b ∈ [48, 49, 50, 51, 52, 53, 54, 55, 56, 57] := List.mem_of_getElem? h
  simp at hm
  rcases hm with rfl | rfl | rfl | rfl | rfl | rfl | rfl | rfl | rfl | rfl <;> decide
abbrev HX : ByteArray := ⟨#[48, 49, 50, 51, 52, 53, 54, 55, 56, 57, 97, 98, 99, 100, 101, 102]⟩
def ML (w : World) : Prop := ∃ m, w.cell? ⟨2, 0, none⟩ = some (.int .i64 m)
theorem ML_below {w w' : World} (h : ML w) (hb : Below w.heap.size w w') : ML w' := by
  obtain ⟨m, hm⟩ := h
  exact ⟨m, (hb.cell (p := ⟨2, 0, none⟩) (World.block_lt_of_cell? _ _ hm)).trans hm⟩
end Go.Proofs.YtjamkfkbajhefaaGreatDoor.V
/- value.scanRune and scanText at the examples, Scan, Parse; the law's awake: walks. -/
namespace Go.Proofs.YtjamkfkbajhefaaGreatDoor.V
open Go.RowKit

end Go.Proofs.YtjamkfkbajhefaaGreatDoor.V
/- value.scanText at the example, Scan and Parse at the four examples; the law's awake: walks. -/
namespace Go.Proofs.YtjamkfkbajhefaaGreatDoor.V
open Go.RowKit

/-- The result's cells, not yet set. -/
structure Zero (b : Nat) (w : World) : Prop where
  c0 : w.cell? ⟨b, 0, none⟩ = some (.int .i64 0)
  c1 : w.cell? ⟨b, 1, none⟩ = some (.int .i64 0)
  c2 : w.cell? ⟨b, 2, none⟩ = some (.string ⟨#[]⟩)
  f0 : w.frozen? ⟨b, 0, none⟩ = false
  f1 : w.frozen? ⟨b, 1, none⟩ = false
  f2 : w.frozen? ⟨b, 2, none⟩ = false
theorem Zero.below {b B : Nat} {w w' : World} (h : Zero b w) (hb : Below B w w') (hlt : b < B) : Zero b w' :=
  ⟨(hb.cell (p := ⟨b, 0, none⟩) hlt).trans h.c0, (hb.cell (p := ⟨b, 1, none⟩) hlt).trans h.c1, (hb.cell (p := ⟨b, 2, none⟩) hlt).trans h.c2, (hb.frozen (p := ⟨b, 0, none⟩) hlt).trans h.f0, (hb.frozen (p := ⟨b, 1, none⟩) hlt).trans h.f1, (hb.frozen (p := ⟨b, 2, none⟩) hlt).trans h.f2⟩
theorem Zero.new (w : World) : Zero w.heap.size (w.alloc (.cells #[.int .i64 0, .int .i64 0, .string ⟨#[]⟩] 52)) :=
  ⟨by simp, by simp, by simp, by simp, by simp, by simp⟩
abbrev wv (w : World) : World := w.alloc (.cells #[.int .i64 0, .int .i64 0, .string ⟨#[]⟩] 52)
theorem wv_below (w : World) : Below w.heap.size w (wv w) := (Below.refl _ _).alloc (Nat.le_refl _) _
theorem wv_size (w : World) : (wv w).heap.size = w.heap.size + 1 := by simp
theorem load_vv (W : World) (b : Nat) (k n : Int) (s : ByteArray) (c0 : W.cell? ⟨b, 0, none⟩ = some (.int .i64 k)) (c1 : W.cell? ⟨b, 1, none⟩ = some (.int .i64 n)) (c2 : W.cell? ⟨b, 2, none⟩ = some (.string s)) : (loadVar 52 ⟨b, 0, none⟩).run Tryz.prog W = .ok (vv k n s) W := by
  go_simp
abbrev set3 (W : World) (b : Nat) (x y z : Value) : World := ((W.setCell ⟨b, 0, none⟩ x).setCell ⟨b, 1, none⟩ y).setCell ⟨b, 2, none⟩ z
structure Three (b : Nat) (W : World) (x y z : Value) : Prop where
  c0 : W.cell? ⟨b, 0, none⟩ = some x
  c1 : W.cell? ⟨b, 1, none⟩ = some y
  c2 : W.cell? ⟨b, 2, none⟩ = some z
theorem Three.set {b : Nat} {W : World} {x y z : Value} (h : Three b W x y z) (x' y' z' : Value) : Three b (set3 W b x' y' z') x' y' z' := by
  have a1 : (W.setCell ⟨b, 0, none⟩ x').cell? ⟨b, 1, none⟩ = some y := (World.cell?_setCell_other _ _ _ _ (by simp)).trans h.c1
  have a2 : ((W.setCell ⟨b, 0, none⟩ x').setCell ⟨b, 1, none⟩ y').cell? ⟨b, 2, none⟩ = some z := (World.cell?_setCell_other _ _ _ _ (by simp)).trans ((World.cell?_setCell_other _ _ _ _ (by simp)).trans h.c2)
  refine ⟨?_, ?_, ?_⟩
  · rw [World.cell?_setCell_other _ _ _ _ (by simp), World.cell?_setCell_other _ _ _ _ (by simp), World.cell?_setCell_same _ _ _ h.c0]
  · rw [World.cell?_setCell_other _ _ _ _ (by simp), World.cell?_setCell_same _ _ _ a1]
  · rw [World.cell?_setCell_same _ _ _ a2]
theorem Three.alloc {b : Nat} {W : World} {x y z : Value} (h : Three b W x y z) (o : Obj) : Three b (W.alloc o) x y z := by
  have hA := (Below.refl W.heap.size W).alloc (Nat.le_refl _) o
  have hlt : b < W.heap.size := World.block_lt_of_cell? _ _ h.c0
  exact ⟨(hA.cell (p := ⟨b, 0, none⟩) hlt).trans h.c0, (hA.cell (p := ⟨b, 1, none⟩) hlt).trans h.c1, (hA.cell (p := ⟨b, 2, none⟩) hlt).trans h.c2⟩
theorem Zero.three {b : Nat} {w : World} (h : Zero b w) : Three b w (.int .i64 0) (.int .i64 0) (.string ⟨#[]⟩) := ⟨h.c0, h.c1, h.c2⟩
theorem results_v3 {fn : Func} {p u v : Tmp} (h : fn.results = #[.cell p 52, .tmp u, .tmp v]) (tmps : Array Value) (W : World) (b : Nat) (hp : tmps.getD p undef = .pointer (some ⟨b, 0, none⟩)) {k n : Int} {s : ByteArray} (h3 : Three b W (.int .i64 k) (.int .i64 n) (.string s)) :
    (results fn tmps).run Tryz.prog W = .ok (.tuple #[vv k n s, tmps.getD u undef, tmps.getD v undef]) W := by
  rw [results_cell3 h, hp]
  have e : (asAddr (.pointer (some ⟨b, 0, none⟩))).run Tryz.prog W = .ok ⟨b, 0, none⟩ W := rfl
  rw [e]
  simp only [Result.andThen]
  rw [load_vv W b k n s h3.c0 h3.c1 h3.c2]
/-- The result's three cells set. -/
theorem set3_below {w0 w : World} {b : Nat} (h : Below b w0 w) (x y z : Value) : Below b w0 (((w.setCell ⟨b, 0, none⟩ x).setCell ⟨b, 1, none⟩ y).setCell ⟨b, 2, none⟩ z) :=
  ((h.setCell (p := ⟨b, 0, none⟩) (Nat.le_refl _) _).setCell (p := ⟨b, 1, none⟩) (Nat.le_refl _) _).setCell (p := ⟨b, 2, none⟩) (Nat.le_refl _) _

def lenOf : Value → Nat
  | .string s => s.size
  | _ => 0
/-- What the walks ask of the world. -/
structure VT (w : World) : Prop where
  u : UT w
  t : T16 w
  m : ML w
theorem VT.below {w w' : World} (h : VT w) (hb : Below w.heap.size w w') : VT w' := ⟨Utf8Tabs_below h.u hb, T16_below h.t hb, ML_below h.m hb⟩
end Go.Proofs.YtjamkfkbajhefaaGreatDoor.V
