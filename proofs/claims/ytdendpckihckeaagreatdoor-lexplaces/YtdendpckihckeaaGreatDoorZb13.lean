/- The reference's Num, Whole, MayWhole: their walks. -/
import Derived.Test.YtdendpckihckeaaGreatDoorZb1
import Derived.Test.YtdendpckihckeaaGreatDoorZb11
import Derived.Lib.FrozenHead2
import Derived.Test.YtdendpckihckeaaGreatDoorZb12
import Derived.Deep.Light
import Derived.Test.YtdendpckihckeaaGreatDoorZb10
import Derived.Lib.OthersKept
import Derived.Test.YtdendpckihckeaaGreatDoorZb2
namespace Go.Proofs.YtdendpckihckeaaGreatDoor.Q
open Go.RowKit

theorem info_u8 : (Tryz.prog.info? 5).map (fun i => (i.zero, i.size, i.bytes)) = some (some (.int .u8 0), 1, 1) := by kernel_rfl

/-- 'string(b)' of a row that the call owns, its first byte turned. -/
theorem cv_own0 (w : World) (g cap l : Nat) (ys xs : List Int) (hl : xs.length = l) (z : Int) (C : List Value) (hC : C = ys.map (Value.int .u8)) (hys : ∃ y t, ys = y :: t ∧ xs = z :: t) (hc : ∀ j u, C[j]? = some u → w.cell? ⟨g, j, none⟩ = some u) :
    (convert 85 9 (.slice (some ⟨g, 0, none⟩) l cap)).run Tryz.prog (w.setCell ⟨g, 0, none⟩ (.int .u8 z)) = .ok (.string (strOfNums xs)) (w.setCell ⟨g, 0, none⟩ (.int .u8 z)) := by
  obtain ⟨y, t, rfl, rfl⟩ := hys
  subst hC
  refine run_convert_bytes_arg _ 85 5 Tryz.underlying85 Tryz.underlying5 g 0 l cap (z :: t) hl ?_ 9 Tryz.underlying9
  intro i hi
  have hi' : i < (z :: t).length := by omega
  rw [Nat.zero_add]
  match i, hi' with
  | 0, _ =>
    rw [World.cell?_setCell_same _ _ _ (hc 0 (.int .u8 y) (by simp))]
    simp
  | k + 1, hk =>
    rw [World.cell?_setCell_other _ _ _ _ (by simp)]
    simp at hk
    rw [hc (k + 1) (.int .u8 (t.getD k 0)) (by simp [hk])]
    simp [hk]
theorem cv_own (w : World) (g cap l : Nat) (xs : List Int) (hl : xs.length = l) (hc : ∀ j u, (xs.map (Value.int .u8))[j]? = some u → w.cell? ⟨g, j, none⟩ = some u) :
    (convert 85 9 (.slice (some ⟨g, 0, none⟩) l cap)).run Tryz.prog w = .ok (.string (strOfNums xs)) w := by
  refine run_convert_bytes_arg _ 85 5 Tryz.underlying85 Tryz.underlying5 g 0 l cap xs hl ?_ 9 Tryz.underlying9
  intro i hi
  rw [Nat.zero_add]
  have : i < xs.length := by omega
  rw [hc i (.int .u8 (xs.getD i 0)) (by simp [this])]


/-- A whole number's own number: what is written for it. -/
def zig (z : Int) : Int := if z < -2305843009213693952 ∨ 2305843009213693951 < z then -1 else if z < 0 then -2 * z - 1 else 2 * z

theorem zig_no {z : Int} (h : z < -2305843009213693952 ∨ 2305843009213693951 < z) : numI (zig z) = [] := by unfold zig; rw [if_pos h]; exact numI_0 (by omega)
theorem zig_neg {z : Int} (h : -2305843009213693952 ≤ z) (h1 : z < 0) : zig z = -2 * z - 1 := by unfold zig; rw [if_neg (by omega), if_pos h1]
theorem zig_pos {z : Int} (h : 0 ≤ z) (h1 : z ≤ 2305843009213693951) : zig z = 2 * z := by unfold zig; rw [if_neg (by omega), if_neg (by omega)]
set_option maxHeartbeats 400000 in
theorem whole_any (z : Int) (w : World) (hT : Tab w) :
    Calls Tryz.prog 103 #[.int .i64 z] w fun e w' => e = .returned (.string (strOfNums (numI (zig z)))) ∧ Below w.heap.size w w' := by
  by_cases h0 : z < -2305843009213693952 ∨ 2305843009213693951 < z
  · have hz : Hid (numI (zig z) = []) := zig_no h0
    rcases h0 with h0 | h0
    · go_enter Tryz.func103, Tryz.ntmps103
      go_wp2_with (first | (go_at_call 102; refine (num_any _ _ hT).mono ?_; rintro e w' ⟨rfl, hb⟩) | go_in)
      go_ret
      exact ⟨by rw [hz.out]; rfl, Below.refl _ _⟩
    · have h0' : -2305843009213693952 ≤ z := by omega
      have h0'' : (!decide (z ≤ 2305843009213693951)) = true := by simp; omega
      go_enter Tryz.func103, Tryz.ntmps103
      go_wp2_with (first | (go_at_call 102; refine (num_any _ _ hT).mono ?_; rintro e w' ⟨rfl, hb⟩) | go_in)
      go_ret
      exact ⟨by rw [hz.out]; rfl, Below.refl _ _⟩
  · have ha : -2305843009213693952 ≤ z := by omega
    have hzb : z ≤ 2305843009213693951 := by omega
    clear h0
    by_cases h1 : z < 0
    · go_enter Tryz.func103, Tryz.ntmps103
      go_wp2_with (first | (go_at_call 102; refine (num_any _ _ hT).mono ?_; rintro e w' ⟨rfl, hb⟩) | go_in)
      go_ret
      exact ⟨ret_str (congrArg numI (by have e := zig_neg ha h1; omega)), by assumption⟩
    · go_enter Tryz.func103, Tryz.ntmps103
      go_wp2_with (first | (go_at_call 102; refine (num_any _ _ hT).mono ?_; rintro e w' ⟨rfl, hb⟩) | go_in)
      go_ret
      exact ⟨ret_str (congrArg numI (by have e := zig_pos (by omega) hzb; omega)), by assumption⟩
end Go.Proofs.YtdendpckihckeaaGreatDoor.Q
/- A strings.Builder that the call itself has made: copyCheck, WriteByte, WriteString at this program. -/
namespace Go.Proofs.YtdendpckihckeaaGreatDoor.Q
open Go.RowKit

theorem bSize : (Tryz.prog.info? 87).map (·.size) = some 2 := by kernel_rfl
theorem bLies : liesAt Tryz.prog Tryz.prog.depth 87 (2 / Tryz.prog.cellsOf 87) 0 87 1 = true := by kernel_rfl

set_option maxRecDepth 100000 in
set_option maxHeartbeats 1000000 in
theorem copyCheck_used (b : Nat) (w : World) (h0 : w.cell? ⟨b, 0, none⟩ = some (.pointer (some ⟨b, 0, none⟩))) :
    Calls Tryz.prog 88 #[.pointer (some ⟨b, 0, none⟩)] w fun e w' => e = .returned (.tuple #[]) ∧ w' = w := by
  obtain ⟨j, hj, _⟩ := Option.map_eq_some_iff.1 bSize
  go_enter Tryz.func88, Tryz.ntmps88
  go_wp2
  rw [Lib.run_neq_ptr_same w _ Tryz.underlying84 hj]
  go_wp2
  go_end0
  exact ⟨rfl, rfl⟩

set_option maxRecDepth 100000 in
set_option maxHeartbeats 1000000 in
theorem copyCheck_fresh (b : Nat) (w : World) (h0 : w.cell? ⟨b, 0, none⟩ = some (.pointer none)) (hsh : w.shape? b = some (87, 2)) (hfz : w.frozen? ⟨b, 0, none⟩ = false) :
    Calls Tryz.prog 88 #[.pointer (some ⟨b, 0, none⟩)] w fun e w' => e = .returned (.tuple #[]) ∧ w' = w.setCell ⟨b, 0, none⟩ (.pointer (some ⟨b, 0, none⟩)) := by
  obtain ⟨j, hj, hjs⟩ := Option.map_eq_some_iff.1 bSize
  go_enter Tryz.func88, Tryz.ntmps88
  go_wp2
  rw [Lib.run_to_unsafe w ⟨b, 0, none⟩ Tryz.underlying84 Tryz.underlying134 hj (by rw [hjs]; decide) hsh (Nat.zero_lt_succ 1)]
  simp only [Result.andThen]
  rw [Oper.upon_value]
  go_wp2
  rw [run_callFunc_extern Tryz.func112 (by kernel_rfl) (by kernel_rfl) (by kernel_rfl) (e := Extern.AbiNoEscape.same) (by kernel_rfl)]
  rw [Lib.run_noEscape]
  simp only [Result.andThen]
  rw [Oper.upon_value]
  go_wp2
  rw [Lib.run_from_unsafe w ⟨b, 0, none⟩ Tryz.underlying134 Tryz.underlying84 hj hsh bLies]
  simp only [Result.andThen]
  rw [Oper.upon_value]
  go_wp2
  go_end0
  exact ⟨rfl, rfl⟩

abbrev IsB (B b : Nat) (bs : List Value) (w : World) : Prop := Lib.IsBuilderF 87 5 B b bs w

theorem copyCheck_any (B b : Nat) (bs : List Value) (w : World) (h : IsB B b bs w) :
    Calls Tryz.prog 88 #[.pointer (some ⟨b, 0, none⟩)] w fun e w' => e = .returned (.tuple #[]) ∧ Lib.BuilderAtF 87 5 B b (.pointer (some ⟨b, 0, none⟩)) bs w' ∧ Below B w w' := by
  rcases h with h | h
  · refine (copyCheck_fresh b w h.cell0 h.shape h.frozen0).mono ?_
    rintro e w' ⟨rfl, rfl⟩
    exact ⟨rfl, h.used _, (Below.refl B w).setCell (p := ⟨b, 0, none⟩) h.1 _⟩
  · refine (copyCheck_used b w h.cell0).mono ?_
    rintro e w' ⟨rfl, rfl⟩
    exact ⟨rfl, h, Below.refl B _⟩

set_option maxRecDepth 100000 in
set_option maxHeartbeats 1000000 in
theorem writeByte_any (B b : Nat) (bs : List Value) (c : Int) (w : World) (h : IsB B b bs w) (hlen : bs.length + 1 ≤ 140737488355328) (hBw : B ≤ w.heap.size) :
    Calls Tryz.prog 73 #[.pointer (some ⟨b, 0, none⟩), .int .u8 c] w fun e w' => e = .returned .nilIface ∧ IsB B b (bs ++ [.int .u8 c]) w' ∧ Below B w w' := by
  obtain ⟨i0, hi, hz0, hz1, hz2⟩ := info_parts info_u8
  go_enter Tryz.func73, Tryz.ntmps73
  go_wp2_with (go_at_call 88; refine (copyCheck_any B b bs _ h).mono ?_)
  rintro e w1 ⟨rfl, h1, hb1⟩
  obtain ⟨hB, v, hbk, hown, hne⟩ := h1
  have c0 : w1.cell? ⟨b, 0, none⟩ = some (.pointer (some ⟨b, 0, none⟩)) := by rw [Lib.cell_of_heap hbk]; rfl
  have c1 : w1.cell? ⟨b, 1, none⟩ = some v := by rw [Lib.cell_of_heap hbk]; rfl
  go_wp2_with (at_builtin; refine wpList_append_ownF _ rfl _ _ 85 rfl B 5 i0 (.int .u8 0) 1 1 Tryz.underlying85 hi hz0 hz1 hz2 rfl (by decide) _ _ _ rfl (hown.alloc _) ⟨w1.heap.size, 0, none⟩ 1 1 [.int .u8 c] rfl rfl ?c1 ?c2 ?c3 ?c4 ?c5 ?_)
  case c1 =>
    intro j u hj
    match j, hj with
    | 0, hj => simp at hj; subst hj; simp [Addr.add]
  case c2 => intro u hu; simp at hu; subst hu; rfl
  case c3 => unfold maxLen; omega
  case c4 => omega
  case c5 => have := hb1.size; simp; omega
  intro v' w2 hown' hgrow _
  have hlt : b < w1.heap.size := (Array.getElem?_eq_some_iff.1 hbk).1
  have hb2 : w2.heap[b]? = some (.cells #[.pointer (some ⟨b, 0, none⟩), v] 87 (0, 0)) := by
    rw [hgrow.block b (by simp; omega) (fun e => hne e.symm), Lib.alloc_old w1 _ b hlt]
    exact hbk
  have d0 : w2.cell? ⟨b, 0, none⟩ = some (.pointer (some ⟨b, 0, none⟩)) := by rw [Lib.cell_of_heap hb2]; rfl
  have d1 : w2.cell? ⟨b, 1, none⟩ = some v := by rw [Lib.cell_of_heap hb2]; rfl
  have f1 : w2.frozen? ⟨b, 1, none⟩ = false := Lib.frozen_of_heap hb2 1
  obtain ⟨g, cap, rfl⟩ : ∃ g cap, v' = .slice (some ⟨g, 0, none⟩) (bs.length + 1) cap := by
    rcases hown'.2 with ⟨_, h0⟩ | ⟨g, cap, cur, fz, hv, _⟩
    · omega
    · exact ⟨g, cap, hv⟩
  go_wp2
  go_ret
  refine ⟨rfl, .inr ?_, ?_⟩
  · exact Lib.BuilderAtF.put (T := 87) (e := 5) hB hb2 (bs' := bs ++ [.int .u8 c]) (by simpa using hown') (by decide)
  · exact ((hb1.alloc (by have := hb1.size; omega) _).grown hgrow (by have := hb1.size; simp; omega) (fun k hk => (hown.lt k hk).1)).setCell (p := ⟨b, 1, none⟩) hB _

set_option maxRecDepth 100000 in
set_option maxHeartbeats 1000000 in
theorem writeString_any (B b : Nat) (bs : List Value) (s : ByteArray) (w : World) (h : IsB B b bs w) (hlen : bs.length + s.size ≤ 140737488355328) (hBw : B ≤ w.heap.size) :
    Calls Tryz.prog 72 #[.pointer (some ⟨b, 0, none⟩), .string s] w fun e w' => e = .returned (.tuple #[.int .i64 s.size, .nilIface]) ∧ IsB B b (bs ++ Lib.strCells s) w' ∧ Below B w w' := by
  obtain ⟨i0, hi, hz0, hz1, hz2⟩ := info_parts info_u8
  go_enter Tryz.func72, Tryz.ntmps72
  go_wp2_with (go_at_call 88; refine (copyCheck_any B b bs _ h).mono ?_)
  rintro e w1 ⟨rfl, h1, hb1⟩
  obtain ⟨hB, v, hbk, hown, hne⟩ := h1
  have c0 : w1.cell? ⟨b, 0, none⟩ = some (.pointer (some ⟨b, 0, none⟩)) := by rw [Lib.cell_of_heap hbk]; rfl
  have c1 : w1.cell? ⟨b, 1, none⟩ = some v := by rw [Lib.cell_of_heap hbk]; rfl
  go_wp2_with (at_builtin; refine Lib.wpList_append_own_stringF _ rfl _ _ 85 9 rfl B 5 i0 Tryz.underlying85 Tryz.underlying9 hi hz0 hz1 hz2 _ _ _ rfl hown s rfl ?c3 ?c4 ?c5 ?_)
  case c3 => unfold maxLen; omega
  case c4 => omega
  case c5 => have := hb1.size; omega
  intro v' w2 hown' hgrow _
  have hlt : b < w1.heap.size := (Array.getElem?_eq_some_iff.1 hbk).1
  have hb2 : w2.heap[b]? = some (.cells #[.pointer (some ⟨b, 0, none⟩), v] 87 (0, 0)) := by
    rw [hgrow.block b hlt (fun e => hne e.symm)]
    exact hbk
  have d0 : w2.cell? ⟨b, 0, none⟩ = some (.pointer (some ⟨b, 0, none⟩)) := by rw [Lib.cell_of_heap hb2]; rfl
  have d1 : w2.cell? ⟨b, 1, none⟩ = some v := by rw [Lib.cell_of_heap hb2]; rfl
  have f1 : w2.frozen? ⟨b, 1, none⟩ = false := Lib.frozen_of_heap hb2 1
  obtain ⟨ao, n', cap, rfl⟩ : ∃ ao n' cap, v' = .slice ao n' cap := by
    rcases hown'.2 with ⟨hv, _⟩ | ⟨g, cap, cur, fz, hv, _⟩
    · exact ⟨_, _, _, hv⟩
    · exact ⟨_, _, _, hv⟩
  go_wp2
  go_ret2
  refine ⟨rfl, .inr ?_, ?_⟩
  · exact Lib.BuilderAtF.put (T := 87) (e := 5) hB hb2 (bs' := bs ++ Lib.strCells s) (by simpa [Lib.strCells_length] using hown') (by decide)
  · exact (hb1.grown hgrow (by have := hb1.size; omega) (fun k hk => (hown.lt k hk).1)).setCell (p := ⟨b, 1, none⟩) hB _
end Go.Proofs.YtdendpckihckeaaGreatDoor.Q
/- Items: which may be (quic.mayBe and the reference's May). -/
namespace Go.Proofs.YtdendpckihckeaaGreatDoor.Q
open Go.RowKit
set_option linter.unusedVariables false

theorem ret_bool {a b : Bool} (h : a = b) : Ending.returned (.bool a) = .returned (.bool b) := by rw [h]
theorem qpos (n : Int) : (0 < qsize n) ↔ (0 ≤ n ∧ n ≤ 4611686018427387903) := by
  unfold qsize; (repeat' split) <;> constructor <;> intro <;> omega
theorem nil_size (s : ByteArray) : s.toList = [] ↔ s.size = 0 := by
  rw [toList_eq]
  constructor
  · intro h; have := congrArg List.length h; simpa using this
  · intro h; exact List.eq_nil_of_length_eq_zero (by simpa using h)

/-- May an item be? -/
def mayB (k n : Int) (s : ByteArray) : Bool :=
  if k = 1 then s.toList.isEmpty && decide (0 ≤ n ∧ n ≤ 4611686018427387903)
  else if k = 2 then s.toList.isEmpty && decide (-2305843009213693952 ≤ n ∧ n ≤ 2305843009213693951)
  else if k = 3 then s.toList.isEmpty && decide (n = 0 ∨ n = 1)
  else if k = 4 then decide (n = 0 ∧ s.size ≤ 65536)
  else false

set_option maxHeartbeats 1000000 in
theorem mayBe_any (k n : Int) (s : ByteArray) (w : World) (hs : s.size ≤ 140737488355328) :
    Calls Tryz.prog 75 #[.agg #[.int .i64 k, .int .i64 n, .string s]] w fun e w' => e = .returned (.bool (mayB k n s)) ∧ Below w.heap.size w w' := by
  go_enter Tryz.func75, Tryz.ntmps75
  go_wp2_with (first | (go_at_call 77; refine (size_any _ _).mono ?_; rintro e _ ⟨rfl, rfl⟩) | go_in)
  all_goals go_ret
  all_goals refine ⟨ret_bool ?_, (Below.refl _ _).alloc (Nat.le_refl _) _⟩
  all_goals go_light
  all_goals simp_all [mayB, qpos, nil_size]
  all_goals first | omega | (rw [Bool.eq_iff_iff]; simp; omega)
end Go.Proofs.YtdendpckihckeaaGreatDoor.Q
/- Plain mathematics: of numbers with as many bytes the lesser one stands ahead, byte by byte. -/
namespace Go.Proofs.YtdendpckihckeaaGreatDoor.Q
open Go.RowKit

def bv : List UInt8 → Nat
  | [] => 0
  | a :: l => a.toNat * 256 ^ l.length + bv l
theorem bv_lt : ∀ l : List UInt8, bv l < 256 ^ l.length
  | [] => by simp [bv]
  | a :: l => by
    have h := bv_lt l
    have ha := a.toNat_lt
    simp only [bv, List.length_cons, Nat.pow_succ]
    have : a.toNat * 256 ^ l.length ≤ 255 * 256 ^ l.length := Nat.mul_le_mul_right _ (by omega)
    omega
theorem bytesLess_bv : ∀ l m : List UInt8, l.length = m.length → Op.bytesLess l m = decide (bv l < bv m)
  | [], [], _ => by simp [Op.bytesLess, bv]
  | [], b :: m, h => by simp at h
  | a :: l, [], h => by simp at h
  | a :: l, b :: m, h => by
    have hl : l.length = m.length := by simpa using h
    have ih := bytesLess_bv l m hl
    have h1 := bv_lt l
    have h2 := bv_lt m
    rw [hl] at h1
    simp only [Op.bytesLess, ih, bv, hl]
    generalize bv l = x at *
    generalize bv m = y at *
    generalize 256 ^ m.length = p at *
    rw [Bool.eq_iff_iff]
    simp only [Bool.or_eq_true, Bool.and_eq_true, decide_eq_true_eq, beq_iff_eq, UInt8.lt_iff_toNat_lt, ← UInt8.toNat_inj]
    generalize a.toNat = u
    generalize b.toNat = v
    constructor
    · rintro (hh | ⟨rfl, hh⟩)
      · have : (u + 1) * p ≤ v * p := Nat.mul_le_mul_right _ hh
        rw [Nat.add_mul] at this
        omega
      · omega
    · intro hh
      rcases Nat.lt_trichotomy u v with c | c | c
      · exact .inl c
      · subst c; exact .inr ⟨rfl, by omega⟩
      · have : (v + 1) * p ≤ u * p := Nat.mul_le_mul_right _ c
        rw [Nat.add_mul] at this
        omega

/-- The bytes of a number, as bytes. -/
def numL (n : Int) : List UInt8 := (numI n).map fun x => UInt8.ofNat x.toNat
theorem strOfNums_toList (n : Int) : (strOfNums (numI n)).toList = numL n := by
  rw [ByteArray.toList_eq]; rfl
theorem strOfNums_len (n : Int) : ((strOfNums (numI n)).size : Int) = qsize n := by
  rw [strOfNums_size]
  unfold numI qsize
  (repeat' split) <;> rfl
theorem numL_len (n : Int) : ((numL n).length : Int) = qsize n := by
  unfold numL
  rw [List.length_map]
  unfold numI qsize
  (repeat' split) <;> rfl
def tagOf (n : Int) : Int := if n < 64 then 0 else if n < 16384 then 16384 else if n < 1073741824 then 2147483648 else 13835058055282163712
theorem u8nat (x : Int) (h0 : 0 ≤ x) (h1 : x < 256) : ((UInt8.ofNat x.toNat).toNat : Int) = x := by
  rw [UInt8.toNat_ofNat']; omega
theorem bv1 (a : Int) (ha : 0 ≤ a ∧ a < 256) : (bv ([a].map fun x => UInt8.ofNat x.toNat) : Int) = a := by
  have := u8nat a ha.1 ha.2
  simp only [bv, List.map_cons, List.map_nil, List.length_nil]; omega
theorem bv_cons (a : Int) (l : List Int) (ha : 0 ≤ a ∧ a < 256) : (bv ((a :: l).map fun x => UInt8.ofNat x.toNat) : Int) = a * 256 ^ l.length + (bv (l.map fun x => UInt8.ofNat x.toNat) : Int) := by
  have := u8nat a ha.1 ha.2
  simp only [bv, List.map_cons, List.length_map]
  rw [Int.natCast_add, Int.natCast_mul, this]
  simp
theorem bv_nil : (bv (([] : List Int).map fun x => UInt8.ofNat x.toNat) : Int) = 0 := rfl
theorem bv_numL (n : Int) (h0 : 0 ≤ n) (h1 : n ≤ 4611686018427387903) : (bv (numL n) : Int) = n + tagOf n := by
  unfold numL tagOf
  by_cases c1 : n < 64
  · rw [numI_1 h0 c1, if_pos c1, bv_cons _ _ (by omega), bv_nil]
    simp only [List.length_nil]; omega
  rw [if_neg c1]
  by_cases c2 : n < 16384
  · rw [numI_2 (by omega) c2, if_pos c2]
    repeat rw [bv_cons _ _ (by omega)]
    rw [bv_nil]
    simp only [List.length_nil, List.length_cons]; omega
  rw [if_neg c2]
  by_cases c4 : n < 1073741824
  · rw [numI_4 (by omega) c4, if_pos c4]
    repeat rw [bv_cons _ _ (by omega)]
    rw [bv_nil]
    simp only [List.length_nil, List.length_cons]; omega
  · rw [numI_8 (by omega) h1, if_neg c4]
    repeat rw [bv_cons _ _ (by omega)]
    rw [bv_nil]
    simp only [List.length_nil, List.length_cons]; omega
theorem qsize_mono (a b : Int) (h0 : 0 ≤ a) (h : a ≤ b) (h1 : b ≤ 4611686018427387903) : qsize a ≤ qsize b := by
  unfold qsize; (repeat' split) <;> omega
theorem tag_qsize (a : Int) (ha : 0 ≤ a ∧ a ≤ 4611686018427387903) : tagOf a = if qsize a = 1 then 0 else if qsize a = 2 then 16384 else if qsize a = 4 then 2147483648 else 13835058055282163712 := by
  unfold tagOf
  by_cases c1 : a < 64
  · rw [qsize_1 ha.1 c1, if_pos c1]; rfl
  by_cases c2 : a < 16384
  · rw [qsize_2 (by omega) c2, if_neg c1, if_pos c2]; rfl
  by_cases c4 : a < 1073741824
  · rw [qsize_4 (by omega) c4, if_neg c1, if_neg c2, if_pos c4]; rfl
  · rw [qsize_8 (by omega) ha.2, if_neg c1, if_neg c2, if_neg c4]; rfl
theorem qsize_tag (a b : Int) (ha : 0 ≤ a ∧ a ≤ 4611686018427387903) (hb : 0 ≤ b ∧ b ≤ 4611686018427387903) (h : qsize a = qsize b) : tagOf a = tagOf b := by
  rw [tag_qsize a ha, tag_qsize b hb, h]
theorem num_less (a b : Int) (ha : 0 ≤ a ∧ a ≤ 4611686018427387903) (hb : 0 ≤ b ∧ b ≤ 4611686018427387903) (h : qsize a = qsize b) :
    Op.bytesLess (strOfNums (numI a)).toList (strOfNums (numI b)).toList = decide (a < b) := by
  rw [strOfNums_toList, strOfNums_toList, bytesLess_bv _ _ (by have := numL_len a; have := numL_len b; omega)]
  have e1 := bv_numL a ha.1 ha.2
  have e2 := bv_numL b hb.1 hb.2
  have e3 := qsize_tag a b ha hb h
  rw [decide_eq_decide]
  omega
theorem num_same (a b : Int) (ha : 0 ≤ a ∧ a ≤ 4611686018427387903) (hb : 0 ≤ b ∧ b ≤ 4611686018427387903) :
    ((strOfNums (numI a)).toList == (strOfNums (numI b)).toList) = (a == b) := by
  rw [Bool.eq_iff_iff, beq_iff_eq, beq_iff_eq, strOfNums_toList, strOfNums_toList]
  constructor
  · intro e
    have e0 := congrArg List.length e
    have e1 := bv_numL a ha.1 ha.2
    have e2 := bv_numL b hb.1 hb.2
    have e3 := qsize_tag a b ha hb (by have := numL_len a; have := numL_len b; omega)
    have e4 := congrArg bv e
    omega
  · intro e; rw [e]
end Go.Proofs.YtdendpckihckeaaGreatDoor.Q
/- quic.putText and quic.putItem: what they write into a builder. -/
namespace Go.Proofs.YtdendpckihckeaaGreatDoor.Q
open Go.RowKit

theorem grown_of_below {w w1 : World} (hb : Below w.heap.size w w1) : w.grownBy w1 none := ⟨hb.os, hb.tape, hb.output, hb.size, fun k hk _ => hb.block k hk⟩
theorem IsB_below {B b : Nat} {bs : List Value} {w w1 : World} (h : IsB B b bs w) (hb : Below w.heap.size w w1) : IsB B b bs w1 := by
  have key : ∀ p, Lib.BuilderAtF 87 5 B b p bs w → Lib.BuilderAtF 87 5 B b p bs w1 := by
    rintro p ⟨hB, v, hbk, hown, hne⟩
    exact ⟨hB, v, (hb.block b (Array.getElem?_eq_some_iff.1 hbk).1).trans hbk, hown.kept (grown_of_below hb) (by cases hv : v.ownBlock <;> simp), hne⟩
  exact h.elim (fun x => .inl (key _ x)) (fun x => .inr (key _ x))
theorem IsB_alloc {B b : Nat} {bs : List Value} {w : World} (h : IsB B b bs w) (o : Obj) : IsB B b bs (w.alloc o) :=
  h.elim (fun x => .inl (x.alloc o)) (fun x => .inr (x.alloc o))

def itB (x : It) : List UInt8 := if x.k = 1 then numL x.n else if x.k = 2 then numL (zig x.n) else if x.k = 3 then [UInt8.ofNat x.n.toNat] else numL x.s.size ++ x.s.data.toList

theorem strCells_num (n : Int) : Lib.strCells (strOfNums (numI n)) = Lib.byteCells (numL n) := rfl
theorem num_size_le (n : Int) : (strOfNums (numI n)).size ≤ 8 := by
  have := strOfNums_len n
  have : qsize n ≤ 8 := by unfold qsize; (repeat' split) <;> omega
  omega

set_option maxHeartbeats 400000 in
theorem putText_any (B b : Nat) (bs : List UInt8) (s : ByteArray) (w : World) (h : IsB B b (Lib.byteCells bs) w) (hT : Tab w) (hlen : bs.length + s.size + 8 ≤ 140737488355328) (hBw : B ≤ w.heap.size) :
    Calls Tryz.prog 104 #[.pointer (some ⟨b, 0, none⟩), .string s] w fun e w' => e = .returned (.tuple #[]) ∧ IsB B b (Lib.byteCells (bs ++ (numL s.size ++ s.data.toList))) w' ∧ Below B w w' := by
  have hsz : s.size ≤ 140737488355328 := by omega
  have hnz := num_size_le s.size
  go_enter Tryz.func104, Tryz.ntmps104
  go_wp2_with fail
  refine (num_any _ _ hT).mono ?_
  rintro e w1 ⟨rfl, hb1⟩
  have h1 := IsB_below h hb1
  have hs1 := hb1.size
  go_wp2_with fail
  refine (writeString_any B b _ _ _ h1 (by rw [Lib.byteCells_length]; omega) (by omega)).mono ?_
  rintro e w2 ⟨rfl, h2, hb2⟩
  have hs2 := hb2.size
  rw [strCells_num, ← Lib.byteCells_append] at h2
  have hB2 : Hid (Below B w w2) := (hb1.mono hBw).trans hb2
  go_wp2_with fail
  refine (writeString_any B b _ _ _ h2 (by have := numL_len s.size; have := strOfNums_len s.size; rw [Lib.byteCells_length, List.length_append]; omega) (by omega)).mono ?_
  rintro e w3 ⟨rfl, h3, hb3⟩
  rw [Lib.strCells_eq, ← Lib.byteCells_append, List.append_assoc] at h3
  have hB3 : Hid (Below B w w3) := hB2.out.trans hb3
  have H3 : Hid (IsB B b (Lib.byteCells (bs ++ (numL s.size ++ s.data.toList))) w3) := h3
  clear h h1 h2 h3 hb1 hb2 hb3 hB2
  go_wp2
  go_end0
  exact ⟨rfl, H3.out, hB3.out⟩

theorem Tab_alloc {w : World} (h : Tab w) (o : Obj) : Tab (w.alloc o) := h.below ((Below.refl _ _).alloc (Nat.le_refl _) o) h.size
theorem itB_1 {k n : Int} {s : ByteArray} (h : (k == 1) = true) : itB ⟨k, n, s⟩ = numL n := by unfold itB; rw [if_pos (by simpa using h)]
theorem itB_2 {k n : Int} {s : ByteArray} (h1 : (k == 1) = false) (h : (k == 2) = true) : itB ⟨k, n, s⟩ = numL (zig n) := by unfold itB; rw [if_neg (by simpa using h1), if_pos (by simpa using h)]
theorem itB_3 {k n : Int} {s : ByteArray} (h1 : (k == 1) = false) (h2 : (k == 2) = false) (h : (k == 3) = true) : itB ⟨k, n, s⟩ = [UInt8.ofNat n.toNat] := by unfold itB; rw [if_neg (by simpa using h1), if_neg (by simpa using h2), if_pos (by simpa using h)]
theorem itB_4 {k n : Int} {s : ByteArray} (h1 : (k == 1) = false) (h2 : (k == 2) = false) (h : (k == 3) = false) : itB ⟨k, n, s⟩ = numL s.size ++ s.data.toList := by unfold itB; rw [if_neg (by simpa using h1), if_neg (by simpa using h2), if_neg (by simpa using h)]
theorem itB_len (x : It) (h : mayB x.k x.n x.s = true) : (itB x).length ≤ 65544 := by
  have hq : ∀ n, (numL n).length ≤ 8 := fun n => by have := num_size_le n; have := strOfNums_len n; have := numL_len n; omega
  unfold itB
  split
  · have := hq x.n; omega
  split
  · have := hq (zig x.n); omega
  split
  · simp
  · rename_i h1 h2 h3
    unfold mayB at h
    rw [if_neg h1, if_neg h2, if_neg h3] at h
    split at h
    · have hh := of_decide_eq_true h
      have := hq x.s.size
      rw [List.length_append]
      have e : x.s.data.toList.length = x.s.size := by simp
      omega
    · cases h

set_option maxHeartbeats 1000000 in
theorem putItem_any (B b : Nat) (bs : List UInt8) (k n : Int) (s : ByteArray) (w : World) (h : IsB B b (Lib.byteCells bs) w) (hT : Tab w) (hm : mayB k n s = true) (hlen : bs.length + 65600 ≤ 140737488355328) (hBw : B ≤ w.heap.size) :
    Calls Tryz.prog 76 #[.pointer (some ⟨b, 0, none⟩), .agg #[.int .i64 k, .int .i64 n, .string s]] w fun e w' => e = .returned (.tuple #[]) ∧ IsB B b (Lib.byteCells (bs ++ itB ⟨k, n, s⟩)) w' ∧ Below B w w' := by
  by_cases c1 : (k == 1) = true
  · have E : Hid (itB ⟨k, n, s⟩ = numL n) := itB_1 c1
    have hnz := num_size_le n
    clear hm
    go_enter Tryz.func76, Tryz.ntmps76
    go_wp2_with fail
    refine (num_any _ _ (Tab_alloc hT _)).mono ?_
    rintro e w1 ⟨rfl, hb1⟩
    have h1 := IsB_below (IsB_alloc h _) hb1
    have hs1 := hb1.size
    simp only [World.size_alloc] at hs1
    have hB1 : Hid (Below B w w1) := ((Below.refl _ _).alloc hBw _).trans (hb1.mono (by simp; omega))
    go_wp2_with fail
    refine (writeString_any B b _ _ _ h1 (by rw [Lib.byteCells_length]; omega) (by omega)).mono ?_
    rintro e w2 ⟨rfl, h2, hb2⟩
    rw [strCells_num, ← Lib.byteCells_append] at h2
    have H2 : Hid (IsB B b (Lib.byteCells (bs ++ numL n)) w2) := h2
    have hB2 : Hid (Below B w w2) := hB1.out.trans hb2
    clear h h1 h2 hb1 hb2 hB1
    go_wp2
    go_end0
    exact ⟨rfl, by rw [E.out]; exact H2.out, hB2.out⟩
  have c1 : (k == 1) = false := by simpa using c1
  by_cases c2 : (k == 2) = true
  · have E : Hid (itB ⟨k, n, s⟩ = numL (zig n)) := itB_2 c1 c2
    have hnz := num_size_le (zig n)
    clear hm
    go_enter Tryz.func76, Tryz.ntmps76
    go_wp2_with fail
    refine (whole_any _ _ (Tab_alloc hT _)).mono ?_
    rintro e w1 ⟨rfl, hb1⟩
    have h1 := IsB_below (IsB_alloc h _) hb1
    have hs1 := hb1.size
    simp only [World.size_alloc] at hs1
    have hB1 : Hid (Below B w w1) := ((Below.refl _ _).alloc hBw _).trans (hb1.mono (by simp; omega))
    go_wp2_with fail
    refine (writeString_any B b _ _ _ h1 (by rw [Lib.byteCells_length]; omega) (by omega)).mono ?_
    rintro e w2 ⟨rfl, h2, hb2⟩
    rw [strCells_num, ← Lib.byteCells_append] at h2
    have H2 : Hid (IsB B b (Lib.byteCells (bs ++ numL (zig n))) w2) := h2
    have hB2 : Hid (Below B w w2) := hB1.out.trans hb2
    clear h h1 h2 hb1 hb2 hB1
    go_wp2
    go_end0
    exact ⟨rfl, by rw [E.out]; exact H2.out, hB2.out⟩
  have c2 : (k == 2) = false := by simpa using c2
  by_cases c3 : (k == 3) = true
  · have E : Hid (itB ⟨k, n, s⟩ = [UInt8.ofNat n.toNat]) := itB_3 c1 c2 c3
    obtain ⟨hn0, hn1⟩ : 0 ≤ n ∧ n ≤ 1 := by
      have k3 : k = 3 := by simpa using c3
      subst k3
      simp [mayB] at hm
      omega
    clear hm
    go_enter Tryz.func76, Tryz.ntmps76
    go_wp2_with fail
    refine (writeByte_any B b _ _ _ (IsB_alloc h _) (by rw [Lib.byteCells_length]; omega) (by simp; omega)).mono ?_
    rintro e w2 ⟨rfl, h2, hb2⟩
    have e2 : Lib.byteCells bs ++ [Value.int .u8 n] = Lib.byteCells (bs ++ [UInt8.ofNat n.toNat]) := by
      rw [Lib.byteCells_append]
      have : ((UInt8.ofNat n.toNat).toNat : Int) = n := u8nat n hn0 (by omega)
      simp only [Lib.byteCells, List.map_cons, List.map_nil, this]
    have H2 : Hid (IsB B b (Lib.byteCells (bs ++ [UInt8.ofNat n.toNat])) w2) := by rw [← e2]; exact h2
    have hB2 : Hid (Below B w w2) := ((Below.refl _ _).alloc hBw _).trans hb2
    clear h h2 hb2 e2
    go_wp2
    go_end0
    exact ⟨rfl, by rw [E.out]; exact H2.out, hB2.out⟩
  have c3 : (k == 3) = false := by simpa using c3
  by_cases c4 : (k == 4) = true
  · have E : Hid (itB ⟨k, n, s⟩ = numL s.size ++ s.data.toList) := itB_4 c1 c2 c3
    have hsm : s.size ≤ 65536 := by
      have k4 : k = 4 := by simpa using c4
      subst k4
      simp [mayB] at hm
      omega
    clear hm
    go_enter Tryz.func76, Tryz.ntmps76
    go_wp2_with fail
    refine (putText_any B b bs s _ (IsB_alloc h _) (Tab_alloc hT _) (by omega) (by simp; omega)).mono ?_
    rintro e w2 ⟨rfl, h2, hb2⟩
    have H2 : Hid (IsB B b (Lib.byteCells (bs ++ (numL s.size ++ s.data.toList))) w2) := h2
    have hB2 : Hid (Below B w w2) := ((Below.refl _ _).alloc hBw _).trans hb2
    clear h h2 hb2
    go_wp2
    go_end0
    exact ⟨rfl, by rw [E.out]; exact H2.out, hB2.out⟩
  · exfalso
    have a1 : ¬ k = 1 := by simpa using c1
    have a2 : ¬ k = 2 := by simpa using c2
    have a3 : ¬ k = 3 := by simpa using c3
    have a4 : ¬ k = 4 := by simpa using c4
    unfold mayB at hm
    rw [if_neg a1, if_neg a2, if_neg a3, if_neg a4] at hm
    cases hm
end Go.Proofs.YtdendpckihckeaaGreatDoor.Q
/- quic.Put: its walk. -/
namespace Go.Proofs.YtdendpckihckeaaGreatDoor.Q
open Go.RowKit

def mayIt (x : It) : Bool := mayB x.k x.n x.s
theorem all_take {l : List It} {k : Nat} (h : k < l.length) (h1 : (l.take k).all mayIt = true) (h2 : mayIt (l[k]'h) = true) : (l.take (k + 1)).all mayIt = true := by
  rw [List.take_succ_eq_append_getElem h, List.all_append, h1]
  simp [h2]
theorem all_not {l : List It} {k : Nat} (h : k < l.length) (h1 : mayIt (l[k]'h) = false) : l.all mayIt = false := by
  rw [Bool.eq_false_iff]
  intro e
  have := List.all_eq_true.1 e _ (List.getElem_mem h)
  rw [h1] at this
  cases this

set_option maxHeartbeats 1000000 in
theorem put_long (a : Option Addr) (n cap : Nat) (w : World) (hl : 4096 < n) (hn : n ≤ 140737488355328) :
    Calls Tryz.prog 42 #[.slice a n cap] w fun e w' => e = .returned (.tuple #[.string ⟨#[]⟩, .int .i64 2]) ∧ Below w.heap.size w w' := by
  have hl' : (4096 : Int) < n := by omega
  go_enter Tryz.func42, Tryz.ntmps42
  go_wp2
  go_ret2
  exact ⟨rfl, Below.refl _ _⟩

set_option maxHeartbeats 1000000 in
theorem put_bad (v : Value) (l : List It) (w : World) (h : IsRow w 3 v l.length (itCells l)) (hl : l.length ≤ 4096) (hs : ∀ x ∈ l, x.s.size ≤ 140737488355328) (hbad : l.all mayIt = false) :
    Calls Tryz.prog 42 #[v] w fun e w' => e = .returned (.tuple #[.string ⟨#[]⟩, .int .i64 1]) ∧ Below w.heap.size w w' := by
  obtain ⟨a0, cap0, rfl⟩ := h.form
  have hl' : ¬ (4096 : Int) < l.length := by omega
  have HB : Hid (l.all mayIt = false) := hbad
  clear hbad
  go_enter Tryz.func42, Tryz.ntmps42
  go_wp2
  go_loopw [14] (fun i wr => ∃ k : Nat, k ≤ l.length ∧ i = .int .i64 k ∧ (l.take k).all mayIt = true ∧ Below w.heap.size w wr) (fun i _ => l.length - (intOf i).toNat)
  case atStart => exact ⟨0, Nat.zero_le _, rfl, rfl, Below.refl _ _⟩
  case round =>
    obtain ⟨k, hk, rfl, hall, hb⟩ := hrel
    have HA : Hid ((l.take k).all mayIt = true) := hall
    clear hall
    by_cases hlt : k < l.length
    · obtain ⟨b, off, rfl, hbl, c0, c1, c2⟩ := items_at (h.below hb) k hlt
      have hi : (k : Int) < l.length := by omega
      have hxs := hs _ (List.getElem_mem hlt)
      go_wp2_with fail
      refine (mayBe_any _ _ _ _ hxs).mono ?_
      rintro e w1 ⟨rfl, hb1⟩
      have hbb : Hid (Below w.heap.size w w1) := (hb.alloc hb.size _).trans (hb1.mono (by have := hb.size; simp; omega))
      clear c0 c1 c2 hb1
      cases hmm : mayB l[k].k l[k].n l[k].s
      · clear hmm
        go_wp2
        go_ret2
        exact ⟨rfl, hbb.out⟩
      · have HM : Hid (mayIt l[k] = true) := hmm
        clear hmm
        go_wp2
        go_roundw
        case rel => exact ⟨k + 1, by omega, by go_num, all_take hlt HA.out HM.out, hbb.out⟩
        case measure => simp [intOf]; omega
    · exfalso
      have e : l.take k = l := List.take_of_length_le (by omega)
      have h1 := HA.out
      rw [e, HB.out] at h1
      cases h1

theorem flat_len (l : List It) (h : l.all mayIt = true) : (l.flatMap itB).length ≤ l.length * 65544 := by
  induction l with
  | nil => simp
  | cons x l ih =>
    simp only [List.all_cons, Bool.and_eq_true] at h
    have h1 := itB_len x h.1
    have h2 := ih h.2
    simp only [List.flatMap_cons, List.length_append, List.length_cons]
    omega
theorem all_take' (l : List It) (k : Nat) (h : l.all mayIt = true) : (l.take k).all mayIt = true := by
  rw [List.all_eq_true] at h ⊢
  exact fun x hx => h x (List.mem_of_mem_take hx)

set_option maxHeartbeats 2000000 in
theorem put_ok (v : Value) (l : List It) (w : World) (h : IsRow w 3 v l.length (itCells l)) (hT : Tab w) (hl : l.length ≤ 4096) (hs : ∀ x ∈ l, x.s.size ≤ 140737488355328) (hok : l.all mayIt = true) :
    Calls Tryz.prog 42 #[v] w fun e w' => e = .returned (.tuple #[.string ⟨(l.flatMap itB).toArray⟩, .int .i64 0]) ∧ Below w.heap.size w w' := by
  obtain ⟨a0, cap0, rfl⟩ := h.form
  have hl' : ¬ (4096 : Int) < l.length := by omega
  have HB : Hid (l.all mayIt = true) := hok
  clear hok
  have hw1 := hT.size
  go_enter Tryz.func42, Tryz.ntmps42
  go_wp2
  go_loopw [14] (fun i wr => ∃ k : Nat, k ≤ l.length ∧ i = .int .i64 k ∧ Below w.heap.size w wr) (fun i _ => l.length - (intOf i).toNat)
  case atStart => exact ⟨0, Nat.zero_le _, rfl, Below.refl _ _⟩
  case round =>
    obtain ⟨k, hk, rfl, hb⟩ := hrel
    by_cases hlt : k < l.length
    · obtain ⟨b, off, rfl, hbl, c0, c1, c2⟩ := items_at (h.below hb) k hlt
      have hi : (k : Int) < l.length := by omega
      have hxs := hs _ (List.getElem_mem hlt)
      have HM : Hid (mayB l[k].k l[k].n l[k].s = true) := List.all_eq_true.1 HB.out _ (List.getElem_mem hlt)
      go_wp2_with fail
      refine (mayBe_any _ _ _ _ hxs).mono ?_
      rintro e w1 ⟨rfl, hb1⟩
      have hbb : Hid (Below w.heap.size w w1) := (hb.alloc hb.size _).trans (hb1.mono (by have := hb.size; simp; omega))
      clear c0 c1 c2 hb1
      rw [HM.out]
      go_wp2
      go_roundw
      case rel => exact ⟨k + 1, by omega, by go_num, hbb.out⟩
      case measure => simp [intOf]; omega
    · have hk' : k = l.length := by omega
      subst hk'
      obtain ⟨W1, rfl⟩ : ∃ W1, W1 = wr := ⟨_, rfl⟩
      have hT1 := hT.below hb hw1
      have hr1 := h.below hb
      have hs1 := hb.size
      go_wp2_with fail
      go_loopw [24] (fun i wx => ∃ k : Nat, k ≤ l.length ∧ i = .int .i64 k ∧ IsB W1.heap.size W1.heap.size (Lib.byteCells ((l.take k).flatMap itB)) wx ∧ Below W1.heap.size W1 wx) (fun i _ => l.length - (intOf i).toNat)
      case atStart => exact ⟨0, Nat.zero_le _, rfl, Lib.IsBuilderF.of (Lib.fresh_isBuilder _ _ W1), (Below.refl _ _).alloc (Nat.le_refl _) _⟩
      case round =>
        obtain ⟨k, hk, rfl, hI, hbx⟩ := hrel
        have hsx := hbx.size
        by_cases hlt : k < l.length
        · obtain ⟨b, off, rfl, hbl, c0, c1, c2⟩ := items_at (hr1.below hbx) k hlt
          have hi : (k : Int) < l.length := by omega
          have HM : Hid (mayB l[k].k l[k].n l[k].s = true) := List.all_eq_true.1 HB.out _ (List.getElem_mem hlt)
          have hfl := flat_len (l.take k) (all_take' l k HB.out)
          have hlk : (l.take k).length ≤ 4096 := by simp; omega
          have HF : Hid ((l.take k).flatMap itB ++ itB l[k] = (l.take (k + 1)).flatMap itB) := by show _ = _; rw [List.take_succ_eq_append_getElem hlt, List.flatMap_append]; simp
          have hTx := hT1.below hbx hT1.size
          go_wp2_with fail
          refine (putItem_any W1.heap.size W1.heap.size _ _ _ _ _ (IsB_alloc hI _) (Tab_alloc hTx _) HM.out (by omega) (by simp; omega)).mono ?_
          rintro e w2 ⟨rfl, h2, hb2⟩
          have H2 : Hid (IsB W1.heap.size W1.heap.size (Lib.byteCells ((l.take (k + 1)).flatMap itB)) w2) := by rw [← HF.out]; exact h2
          have hbb : Hid (Below W1.heap.size W1 w2) := (hbx.alloc hsx _).trans hb2
          clear c0 c1 c2 h2 hb2 hI hTx hfl
          go_wp2
          go_roundw
          case rel => exact ⟨k + 1, by omega, by go_num, H2.out, hbb.out⟩
          case measure => simp [intOf]; omega
        · have hk' : k = l.length := by omega
          subst hk'
          have e : l.take l.length = l := List.take_of_length_le (Nat.le_refl _)
          rw [e] at hI
          have hbf : Hid (Below w.heap.size w wr) := hb.trans (hbx.mono hs1)
          go_wp2_with fail
          refine (Tryz.Builder_String_any_k W1.heap.size W1.heap.size (l.flatMap itB) _ hI (by omega)).mono ?_
          rintro e w3 ⟨rfl, h3, hb3, _⟩
          have hfin : Hid (Below w.heap.size w w3) := hbf.out.trans (hb3.mono hs1)
          clear h3 hb3 hI hbf
          go_wp2
          go_ret2
          exact ⟨rfl, hfin.out⟩
end Go.Proofs.YtdendpckihckeaaGreatDoor.Q
/- The reference's one: an item's bytes. -/
namespace Go.Proofs.YtdendpckihckeaaGreatDoor.Q
open Go.RowKit

theorem str_num (n : Int) : strOfNums (numI n) = ⟨(numL n).toArray⟩ := rfl
theorem ba_append (a b : List UInt8) : (⟨a.toArray⟩ : ByteArray) ++ ⟨b.toArray⟩ = ⟨(a ++ b).toArray⟩ := by
  apply ByteArray.ext
  rw [ByteArray.data_append]
  simp
theorem ba_eta (s : ByteArray) : s = ⟨s.data.toList.toArray⟩ := by cases s; simp
theorem ret_st {a b : ByteArray} (h : a = b) : Ending.returned (.string a) = .returned (.string b) := by rw [h]

theorem cv_two (w : World) (o : Obj) (x : Int) : (convert 85 9 (.slice (some ⟨w.heap.size + 1, 0, none⟩) 1 1)).run Tryz.prog ((w.alloc o).alloc (.cells #[.int .u8 x] 5)) = .ok (.string (strOfNums [x])) ((w.alloc o).alloc (.cells #[.int .u8 x] 5)) := by
  refine run_convert_bytes_arg _ 85 5 Tryz.underlying85 Tryz.underlying5 (w.heap.size + 1) 0 1 1 [x] rfl ?_ 9 Tryz.underlying9
  intro i hi
  have : i = 0 := by omega
  subst this
  simp
end Go.Proofs.YtdendpckihckeaaGreatDoor.Q
/- The law's refs and few; the reference's Put. -/
namespace Go.Proofs.YtdendpckihckeaaGreatDoor.Q
open Go.RowKit

/-- An append of one element of several cells onto a row that the call owns. -/
theorem wpl_appk {P : Program} (wr : World) {ops : Array Oper} {rest : List Oper} {o : Oper} {a : Act} {Q : Exit → Act → World → Prop} (hgd : o.guard = none) (s x : Operand) (t e : TypeId)
    (ho : o.op = .call { callee := .builtin .append, args := #[s, x], argTypes := #[t, t] })
    (i : TypeInfo) (z : Value) (size bytes : Nat) (ht : P.underlying t = some (.slice e)) (hi : P.info? e = some i) (hz : i.zero = some z)
    (hsize : i.size = size) (hby : i.bytes = bytes) (hzs : z.cells.size = size) (hsz : 0 < size)
    (base : Nat) (v : Value) (n : Nat) (xs : List Value) (hs : a.eval s = v) (hown : wr.ownsRow base e size v n xs)
    (es : List Value) (hes : es.length = size) (C : Array Value) (hC : C = es.toArray) (hx : a.eval x = .slice (some ⟨wr.heap.size, 0, none⟩) 1 1) (h1 : ∀ u ∈ es, u.oneCell' = true)
    (hbytes : (n + 1) * bytes ≤ 140737488355328) (h63 : n + 1 ≤ maxLen) (hbase : base ≤ wr.heap.size)
    (h : ∀ v' w', w'.ownsRow base e size v' (n + 1) (xs ++ es) → Below base wr w' → wpList P ops Q rest (a.put o.dst v') w') :
    wpList P ops Q (o :: rest) a (wr.alloc (.cells C e)) := by
  subst hC
  refine wpList_append_own _ hgd s x t ho base e i z size bytes ht hi hz hsize hby hzs hsz v n xs hs (hown.alloc _) ⟨wr.heap.size, 0, none⟩ 1 1 es hx (by omega) ?_ h1 h63 hbytes ?_ ?_
  · intro j u hj
    have : (⟨wr.heap.size, 0, none⟩ : Addr).add j = ⟨wr.heap.size, j, none⟩ := by unfold Addr.add; split <;> simp_all
    rw [this]
    simpa using hj
  · simp; omega
  · intro v' w' h2 h3 h4
    refine h v' w' h2 ?_
    exact ((Below.refl _ _).alloc hbase _).grown h3 (by simp; omega) (fun k hk => (hown.lt k hk).1)

/-- What few lets by: no more than 201 items, their texts short. -/
def Small (l : List It) : Prop := l.length ≤ 201 ∧ ∀ x ∈ l, x.s.size ≤ 20000

def FewPost (l : List It) (w : World) (e : Ending) (w' : World) : Prop := ∃ b : Bool, e = .returned (.bool b) ∧ (b = true → Small l) ∧ Below w.heap.size w w'

end Go.Proofs.YtdendpckihckeaaGreatDoor.Q
