/- Items: which may be (quic.mayBe and the reference's May). -/
import Derived.Test.YtacpllmlpmllbaaGreatDoorZk16
import Derived.Test.YtacpllmlpmllbaaGreatDoorZk1
import Derived.Deep.Light
import Derived.Lib.OthersKept
import Derived.Test.YtacpllmlpmllbaaGreatDoorZk8
import Derived.Test.YtacpllmlpmllbaaGreatDoorZk12
namespace Go.Proofs.YtacpllmlpmllbaaGreatDoor.Q
open Go.RowKit
set_option linter.unusedVariables false

theorem ret_bool {a b : Bool} (h : a = b) : Ending.returned (.bool a) = .returned (.bool b) := by rw [h]
theorem qpos (n : Int) : (0 < qsize n) ↔ (0 ≤ n ∧ n ≤ 4611686018427387903) := by
  unfold qsize; (repeat' split) <;> constructor <;> intro <;> omega
theorem nil_size (s : ByteArray) : s.toList = [] ↔ s.size = 0 := by
  rw [toList_eq]
  constructor
  · intro h; have := congrArg List.length h; simpa using this
  · intro h; exact List.eq_nil_of_length_eq_zero (by simpa using h)

/-- May an item be? -/
def mayB (k n : Int) (s : ByteArray) : Bool :=
  if k = 1 then s.toList.isEmpty && decide (0 ≤ n ∧ n ≤ 4611686018427387903)
  else if k = 2 then s.toList.isEmpty && decide (-2305843009213693952 ≤ n ∧ n ≤ 2305843009213693951)
  else if k = 3 then s.toList.isEmpty && decide (n = 0 ∨ n = 1)
  else if k = 4 then decide (n = 0 ∧ s.size ≤ 65536)
  else false

set_option maxHeartbeats 1000000 in
theorem mayBe_any (k n : Int) (s : ByteArray) (w : World) (hs : s.size ≤ 140737488355328) :
    Calls Tryz.prog 102 #[.agg #[.int .i64 k, .int .i64 n, .string s]] w fun e w' => e = .returned (.bool (mayB k n s)) ∧ Below w.heap.size w w' := by
  go_enter Tryz.func102, Tryz.ntmps102
  go_wp2_with (first | (go_at_call 147; refine (size_any _ _).mono ?_; rintro e _ ⟨rfl, rfl⟩) | go_in)
  all_goals go_ret
  all_goals refine ⟨ret_bool ?_, (Below.refl _ _).alloc (Nat.le_refl _) _⟩
  all_goals go_light
  all_goals simp_all [mayB, qpos, nil_size]
  all_goals first | omega | (rw [Bool.eq_iff_iff]; simp; omega)
end Go.Proofs.YtacpllmlpmllbaaGreatDoor.Q
/- Plain mathematics: of numbers with as many bytes the lesser one stands ahead, byte by byte. -/
namespace Go.Proofs.YtacpllmlpmllbaaGreatDoor.Q
open Go.RowKit

/-- The bytes of a number, as bytes. -/
def numL (n : Int) : List UInt8 := (numI n).map fun x => UInt8.ofNat x.toNat
theorem strOfNums_toList (n : Int) : (strOfNums (numI n)).toList = numL n := by
  rw [ByteArray.toList_eq]; rfl
theorem strOfNums_len (n : Int) : ((strOfNums (numI n)).size : Int) = qsize n := by
  rw [strOfNums_size]
  unfold numI qsize
  (repeat' split) <;> rfl
theorem numL_len (n : Int) : ((numL n).length : Int) = qsize n := by
  unfold numL
  rw [List.length_map]
  unfold numI qsize
  (repeat' split) <;> rfl
theorem u8nat (x : Int) (h0 : 0 ≤ x) (h1 : x < 256) : ((UInt8.ofNat x.toNat).toNat : Int) = x := by
  rw [UInt8.toNat_ofNat']; omega
end Go.Proofs.YtacpllmlpmllbaaGreatDoor.Q
/- quic.putText and quic.putItem: what they write into a builder. -/
namespace Go.Proofs.YtacpllmlpmllbaaGreatDoor.Q
open Go.RowKit

theorem grown_of_below {w w1 : World} (hb : Below w.heap.size w w1) : w.grownBy w1 none := ⟨hb.os, hb.tape, hb.output, hb.size, fun k hk _ => hb.block k hk⟩
theorem IsB_below {B b : Nat} {bs : List Value} {w w1 : World} (h : IsB B b bs w) (hb : Below w.heap.size w w1) : IsB B b bs w1 := by
  have key : ∀ p, Lib.BuilderAtF 94 5 B b p bs w → Lib.BuilderAtF 94 5 B b p bs w1 := by
    rintro p ⟨hB, v, hbk, hown, hne⟩
    exact ⟨hB, v, (hb.block b (Array.getElem?_eq_some_iff.1 hbk).1).trans hbk, hown.kept (grown_of_below hb) (by cases hv : v.ownBlock <;> simp), hne⟩
  exact h.elim (fun x => .inl (key _ x)) (fun x => .inr (key _ x))
theorem IsB_alloc {B b : Nat} {bs : List Value} {w : World} (h : IsB B b bs w) (o : Obj) : IsB B b bs (w.alloc o) :=
  h.elim (fun x => .inl (x.alloc o)) (fun x => .inr (x.alloc o))

def itB (x : It) : List UInt8 := if x.k = 1 then numL x.n else if x.k = 2 then numL (zig x.n) else if x.k = 3 then [UInt8.ofNat x.n.toNat] else numL x.s.size ++ x.s.data.toList

theorem strCells_num (n : Int) : Lib.strCells (strOfNums (numI n)) = Lib.byteCells (numL n) := rfl
theorem num_size_le (n : Int) : (strOfNums (numI n)).size ≤ 8 := by
  have := strOfNums_len n
  have : qsize n ≤ 8 := by unfold qsize; (repeat' split) <;> omega
  omega

set_option maxHeartbeats 400000 in
theorem putText_any (B b : Nat) (bs : List UInt8) (s : ByteArray) (w : World) (h : IsB B b (Lib.byteCells bs) w) (hT : Tab w) (hlen : bs.length + s.size + 8 ≤ 140737488355328) (hBw : B ≤ w.heap.size) :
    Calls Tryz.prog 150 #[.pointer (some ⟨b, 0, none⟩), .string s] w fun e w' => e = .returned (.tuple #[]) ∧ IsB B b (Lib.byteCells (bs ++ (numL s.size ++ s.data.toList))) w' ∧ Below B w w' := by
  have hsz : s.size ≤ 140737488355328 := by omega
  have hnz := num_size_le s.size
  go_enter Tryz.func150, Tryz.ntmps150
  go_wp2_with fail
  refine (num_any _ _ hT).mono ?_
  rintro e w1 ⟨rfl, hb1⟩
  have h1 := IsB_below h hb1
  have hs1 := hb1.size
  go_wp2_with fail
  refine (writeString_any B b _ _ _ h1 (by rw [Lib.byteCells_length]; omega) (by omega)).mono ?_
  rintro e w2 ⟨rfl, h2, hb2⟩
  have hs2 := hb2.size
  rw [strCells_num, ← Lib.byteCells_append] at h2
  have hB2 : Hid (Below B w w2) := (hb1.mono hBw).trans hb2
  go_wp2_with fail
  refine (writeString_any B b _ _ _ h2 (by have := numL_len s.size; have := strOfNums_len s.size; rw [Lib.byteCells_length, List.length_append]; omega) (by omega)).mono ?_
  rintro e w3 ⟨rfl, h3, hb3⟩
  rw [Lib.strCells_eq, ← Lib.byteCells_append, List.append_assoc] at h3
  have hB3 : Hid (Below B w w3) := hB2.out.trans hb3
  have H3 : Hid (IsB B b (Lib.byteCells (bs ++ (numL s.size ++ s.data.toList))) w3) := h3
  clear h h1 h2 h3 hb1 hb2 hb3 hB2
  go_wp2
  go_end0
  exact ⟨rfl, H3.out, hB3.out⟩

theorem Tab_alloc {w : World} (h : Tab w) (o : Obj) : Tab (w.alloc o) := h.below ((Below.refl _ _).alloc (Nat.le_refl _) o) h.size
theorem itB_1 {k n : Int} {s : ByteArray} (h : (k == 1) = true) : itB ⟨k, n, s⟩ = numL n := by unfold itB; rw [if_pos (by simpa using h)]
theorem itB_2 {k n : Int} {s : ByteArray} (h1 : (k == 1) = false) (h : (k == 2) = true) : itB ⟨k, n, s⟩ = numL (zig n) := by unfold itB; rw [if_neg (by simpa using h1), if_pos (by simpa using h)]
theorem itB_3 {k n : Int} {s : ByteArray} (h1 : (k == 1) = false) (h2 : (k == 2) = false) (h : (k == 3) = true) : itB ⟨k, n, s⟩ = [UInt8.ofNat n.toNat] := by unfold itB; rw [if_neg (by simpa using h1), if_neg (by simpa using h2), if_pos (by simpa using h)]
theorem itB_4 {k n : Int} {s : ByteArray} (h1 : (k == 1) = false) (h2 : (k == 2) = false) (h : (k == 3) = false) : itB ⟨k, n, s⟩ = numL s.size ++ s.data.toList := by unfold itB; rw [if_neg (by simpa using h1), if_neg (by simpa using h2), if_neg (by simpa using h)]
theorem itB_len (x : It) (h : mayB x.k x.n x.s = true) : (itB x).length ≤ 65544 := by
  have hq : ∀ n, (numL n).length ≤ 8 := fun n => by have := num_size_le n; have := strOfNums_len n; have := numL_len n; omega
  unfold itB
  split
  · have := hq x.n; omega
  split
  · have := hq (zig x.n); omega
  split
  · simp
  · rename_i h1 h2 h3
    unfold mayB at h
    rw [if_neg h1, if_neg h2, if_neg h3] at h
    split at h
    · have hh := of_decide_eq_true h
      have := hq x.s.size
      rw [List.length_append]
      have e : x.s.data.toList.length = x.s.size := by simp
      omega
    · cases h

set_option maxHeartbeats 1000000 in
theorem putItem_any (B b : Nat) (bs : List UInt8) (k n : Int) (s : ByteArray) (w : World) (h : IsB B b (Lib.byteCells bs) w) (hT : Tab w) (hm : mayB k n s = true) (hlen : bs.length + 65600 ≤ 140737488355328) (hBw : B ≤ w.heap.size) :
    Calls Tryz.prog 103 #[.pointer (some ⟨b, 0, none⟩), .agg #[.int .i64 k, .int .i64 n, .string s]] w fun e w' => e = .returned (.tuple #[]) ∧ IsB B b (Lib.byteCells (bs ++ itB ⟨k, n, s⟩)) w' ∧ Below B w w' := by
  by_cases c1 : (k == 1) = true
  · have E : Hid (itB ⟨k, n, s⟩ = numL n) := itB_1 c1
    have hnz := num_size_le n
    clear hm
    go_enter Tryz.func103, Tryz.ntmps103
    go_wp2_with fail
    refine (num_any _ _ (Tab_alloc hT _)).mono ?_
    rintro e w1 ⟨rfl, hb1⟩
    have h1 := IsB_below (IsB_alloc h _) hb1
    have hs1 := hb1.size
    simp only [World.size_alloc] at hs1
    have hB1 : Hid (Below B w w1) := ((Below.refl _ _).alloc hBw _).trans (hb1.mono (by simp; omega))
    go_wp2_with fail
    refine (writeString_any B b _ _ _ h1 (by rw [Lib.byteCells_length]; omega) (by omega)).mono ?_
    rintro e w2 ⟨rfl, h2, hb2⟩
    rw [strCells_num, ← Lib.byteCells_append] at h2
    have H2 : Hid (IsB B b (Lib.byteCells (bs ++ numL n)) w2) := h2
    have hB2 : Hid (Below B w w2) := hB1.out.trans hb2
    clear h h1 h2 hb1 hb2 hB1
    go_wp2
    go_end0
    exact ⟨rfl, by rw [E.out]; exact H2.out, hB2.out⟩
  have c1 : (k == 1) = false := by simpa using c1
  by_cases c2 : (k == 2) = true
  · have E : Hid (itB ⟨k, n, s⟩ = numL (zig n)) := itB_2 c1 c2
    have hnz := num_size_le (zig n)
    clear hm
    go_enter Tryz.func103, Tryz.ntmps103
    go_wp2_with fail
    refine (whole_any _ _ (Tab_alloc hT _)).mono ?_
    rintro e w1 ⟨rfl, hb1⟩
    have h1 := IsB_below (IsB_alloc h _) hb1
    have hs1 := hb1.size
    simp only [World.size_alloc] at hs1
    have hB1 : Hid (Below B w w1) := ((Below.refl _ _).alloc hBw _).trans (hb1.mono (by simp; omega))
    go_wp2_with fail
    refine (writeString_any B b _ _ _ h1 (by rw [Lib.byteCells_length]; omega) (by omega)).mono ?_
    rintro e w2 ⟨rfl, h2, hb2⟩
    rw [strCells_num, ← Lib.byteCells_append] at h2
    have H2 : Hid (IsB B b (Lib.byteCells (bs ++ numL (zig n))) w2) := h2
    have hB2 : Hid (Below B w w2) := hB1.out.trans hb2
    clear h h1 h2 hb1 hb2 hB1
    go_wp2
    go_end0
    exact ⟨rfl, by rw [E.out]; exact H2.out, hB2.out⟩
  have c2 : (k == 2) = false := by simpa using c2
  by_cases c3 : (k == 3) = true
  · have E : Hid (itB ⟨k, n, s⟩ = [UInt8.ofNat n.toNat]) := itB_3 c1 c2 c3
    obtain ⟨hn0, hn1⟩ : 0 ≤ n ∧ n ≤ 1 := by
      have k3 : k = 3 := by simpa using c3
      subst k3
      simp [mayB] at hm
      omega
    clear hm
    go_enter Tryz.func103, Tryz.ntmps103
    go_wp2_with fail
    refine (writeByte_any B b _ _ _ (IsB_alloc h _) (by rw [Lib.byteCells_length]; omega) (by simp; omega)).mono ?_
    rintro e w2 ⟨rfl, h2, hb2⟩
    have e2 : Lib.byteCells bs ++ [Value.int .u8 n] = Lib.byteCells (bs ++ [UInt8.ofNat n.toNat]) := by
      rw [Lib.byteCells_append]
      have : ((UInt8.ofNat n.toNat).toNat : Int) = n := u8nat n hn0 (by omega)
      simp only [Lib.byteCells, List.map_cons, List.map_nil, this]
    have H2 : Hid (IsB B b (Lib.byteCells (bs ++ [UInt8.ofNat n.toNat])) w2) := by rw [← e2]; exact h2
    have hB2 : Hid (Below B w w2) := ((Below.refl _ _).alloc hBw _).trans hb2
    clear h h2 hb2 e2
    go_wp2
    go_end0
    exact ⟨rfl, by rw [E.out]; exact H2.out, hB2.out⟩
  have c3 : (k == 3) = false := by simpa using c3
  by_cases c4 : (k == 4) = true
  · have E : Hid (itB ⟨k, n, s⟩ = numL s.size ++ s.data.toList) := itB_4 c1 c2 c3
    have hsm : s.size ≤ 65536 := by
      have k4 : k = 4 := by simpa using c4
      subst k4
      simp [mayB] at hm
      omega
    clear hm
    go_enter Tryz.func103, Tryz.ntmps103
    go_wp2_with fail
    refine (putText_any B b bs s _ (IsB_alloc h _) (Tab_alloc hT _) (by omega) (by simp; omega)).mono ?_
    rintro e w2 ⟨rfl, h2, hb2⟩
    have H2 : Hid (IsB B b (Lib.byteCells (bs ++ (numL s.size ++ s.data.toList))) w2) := h2
    have hB2 : Hid (Below B w w2) := ((Below.refl _ _).alloc hBw _).trans hb2
    clear h h2 hb2
    go_wp2
    go_end0
    exact ⟨rfl, by rw [E.out]; exact H2.out, hB2.out⟩
  · exfalso
    have a1 : ¬ k = 1 := by simpa using c1
    have a2 : ¬ k = 2 := by simpa using c2
    have a3 : ¬ k = 3 := by simpa using c3
    have a4 : ¬ k = 4 := by simpa using c4
    unfold mayB at hm
    rw [if_neg a1, if_neg a2, if_neg a3, if_neg a4] at hm
    cases hm
end Go.Proofs.YtacpllmlpmllbaaGreatDoor.Q
/- quic.Put: its walk. -/
namespace Go.Proofs.YtacpllmlpmllbaaGreatDoor.Q
open Go.RowKit

def mayIt (x : It) : Bool := mayB x.k x.n x.s
theorem all_take {l : List It} {k : Nat} (h : k < l.length) (h1 : (l.take k).all mayIt = true) (h2 : mayIt (l[k]'h) = true) : (l.take (k + 1)).all mayIt = true := by
  rw [List.take_succ_eq_append_getElem h, List.all_append, h1]
  simp [h2]
theorem flat_len (l : List It) (h : l.all mayIt = true) : (l.flatMap itB).length ≤ l.length * 65544 := by
  induction l with
  | nil => simp
  | cons x l ih =>
    simp only [List.all_cons, Bool.and_eq_true] at h
    have h1 := itB_len x h.1
    have h2 := ih h.2
    simp only [List.flatMap_cons, List.length_append, List.length_cons]
    omega
theorem all_take' (l : List It) (k : Nat) (h : l.all mayIt = true) : (l.take k).all mayIt = true := by
  rw [List.all_eq_true] at h ⊢
  exact fun x hx => h x (List.mem_of_mem_take hx)

set_option maxHeartbeats 2000000 in
theorem put_ok (v : Value) (l : List It) (w : World) (h : IsRow w 3 v l.length (itCells l)) (hT : Tab w) (hl : l.length ≤ 4096) (hs : ∀ x ∈ l, x.s.size ≤ 140737488355328) (hok : l.all mayIt = true) :
    Calls Tryz.prog 56 #[v] w fun e w' => e = .returned (.tuple #[.string ⟨(l.flatMap itB).toArray⟩, .int .i64 0]) ∧ Below w.heap.size w w' := by
  obtain ⟨a0, cap0, rfl⟩ := h.form
  have hl' : ¬ (4096 : Int) < l.length := by omega
  have HB : Hid (l.all mayIt = true) := hok
  clear hok
  have hw1 := hT.size
  go_enter Tryz.func56, Tryz.ntmps56
  go_wp2
  go_loopw [14] (fun i wr => ∃ k : Nat, k ≤ l.length ∧ i = .int .i64 k ∧ Below w.heap.size w wr) (fun i _ => l.length - (intOf i).toNat)
  case atStart => exact ⟨0, Nat.zero_le _, rfl, Below.refl _ _⟩
  case round =>
    obtain ⟨k, hk, rfl, hb⟩ := hrel
    by_cases hlt : k < l.length
    · obtain ⟨b, off, rfl, hbl, c0, c1, c2⟩ := items_at (h.below hb) k hlt
      have hi : (k : Int) < l.length := by omega
      have hxs := hs _ (List.getElem_mem hlt)
      have HM : Hid (mayB l[k].k l[k].n l[k].s = true) := List.all_eq_true.1 HB.out _ (List.getElem_mem hlt)
      go_wp2_with fail
      refine (mayBe_any _ _ _ _ hxs).mono ?_
      rintro e w1 ⟨rfl, hb1⟩
      have hbb : Hid (Below w.heap.size w w1) := (hb.alloc hb.size _).trans (hb1.mono (by have := hb.size; simp; omega))
      clear c0 c1 c2 hb1
      rw [HM.out]
      go_wp2
      go_roundw
      case rel => exact ⟨k + 1, by omega, by go_num, hbb.out⟩
      case measure => simp [intOf]; omega
    · have hk' : k = l.length := by omega
      subst hk'
      obtain ⟨W1, rfl⟩ : ∃ W1, W1 = wr := ⟨_, rfl⟩
      have hT1 := hT.below hb hw1
      have hr1 := h.below hb
      have hs1 := hb.size
      go_wp2_with fail
      go_loopw [24] (fun i wx => ∃ k : Nat, k ≤ l.length ∧ i = .int .i64 k ∧ IsB W1.heap.size W1.heap.size (Lib.byteCells ((l.take k).flatMap itB)) wx ∧ Below W1.heap.size W1 wx) (fun i _ => l.length - (intOf i).toNat)
      case atStart => exact ⟨0, Nat.zero_le _, rfl, Lib.IsBuilderF.of (Lib.fresh_isBuilder _ _ W1), (Below.refl _ _).alloc (Nat.le_refl _) _⟩
      case round =>
        obtain ⟨k, hk, rfl, hI, hbx⟩ := hrel
        have hsx := hbx.size
        by_cases hlt : k < l.length
        · obtain ⟨b, off, rfl, hbl, c0, c1, c2⟩ := items_at (hr1.below hbx) k hlt
          have hi : (k : Int) < l.length := by omega
          have HM : Hid (mayB l[k].k l[k].n l[k].s = true) := List.all_eq_true.1 HB.out _ (List.getElem_mem hlt)
          have hfl := flat_len (l.take k) (all_take' l k HB.out)
          have hlk : (l.take k).length ≤ 4096 := by simp; omega
          have HF : Hid ((l.take k).flatMap itB ++ itB l[k] = (l.take (k + 1)).flatMap itB) := by show _ = _; rw [List.take_succ_eq_append_getElem hlt, List.flatMap_append]; simp
          have hTx := hT1.below hbx hT1.size
          go_wp2_with fail
          refine (putItem_any W1.heap.size W1.heap.size _ _ _ _ _ (IsB_alloc hI _) (Tab_alloc hTx _) HM.out (by omega) (by simp; omega)).mono ?_
          rintro e w2 ⟨rfl, h2, hb2⟩
          have H2 : Hid (IsB W1.heap.size W1.heap.size (Lib.byteCells ((l.take (k + 1)).flatMap itB)) w2) := by rw [← HF.out]; exact h2
          have hbb : Hid (Below W1.heap.size W1 w2) := (hbx.alloc hsx _).trans hb2
          clear c0 c1 c2 h2 hb2 hI hTx hfl
          go_wp2
          go_roundw
          case rel => exact ⟨k + 1, by omega, by go_num, H2.out, hbb.out⟩
          case measure => simp [intOf]; omega
        · have hk' : k = l.length := by omega
          subst hk'
          have e : l.take l.length = l := List.take_of_length_le (Nat.le_refl _)
          rw [e] at hI
          have hbf : Hid (Below w.heap.size w wr) := hb.trans (hbx.mono hs1)
          go_wp2_with fail
          refine (Tryz.Builder_String_any_k W1.heap.size W1.heap.size (l.flatMap itB) _ hI (by omega)).mono ?_
          rintro e w3 ⟨rfl, h3, hb3, _⟩
          have hfin : Hid (Below w.heap.size w w3) := hbf.out.trans (hb3.mono hs1)
          clear h3 hb3 hI hbf
          go_wp2
          go_ret2
          exact ⟨rfl, hfin.out⟩
end Go.Proofs.YtacpllmlpmllbaaGreatDoor.Q
/- The reference's one: an item's bytes. -/
namespace Go.Proofs.YtacpllmlpmllbaaGreatDoor.Q
open Go.RowKit

theorem ba_append (a b : List UInt8) : (⟨a.toArray⟩ : ByteArray) ++ ⟨b.toArray⟩ = ⟨(a ++ b).toArray⟩ := by
  apply ByteArray.ext
  rw [ByteArray.data_append]
  simp
end Go.Proofs.YtacpllmlpmllbaaGreatDoor.Q
/- The law's refs and few; the reference's Put. -/
namespace Go.Proofs.YtacpllmlpmllbaaGreatDoor.Q
open Go.RowKit

end Go.Proofs.YtacpllmlpmllbaaGreatDoor.Q
/- quic.Take: items of kinds at the front of bytes. -/
namespace Go.Proofs.YtacpllmlpmllbaaGreatDoor.Q
open Go.RowKit

end Go.Proofs.YtacpllmlpmllbaaGreatDoor.Q
/- value.itemOf and value.Read at any bytes: walks over quic's contracts. -/
namespace Go.Proofs.YtacpllmlpmllbaaGreatDoor.V
open Go.RowKit

/-- The kind of the item that a value of this kind is written as; 0 if there is none. -/
def itm (k : Int) : Int := if k = 1 then 2 else if k = 3 then 3 else if k = 2 ∨ k = 4 then 4 else 0
theorem itemOf_any (k : Int) (w : World) : Calls Tryz.prog 152 #[.int .i64 k] w fun e w' => e = .returned (.int .i64 (itm k)) ∧ w' = w := by
  by_cases e1 : k = 1
  · subst e1
    go_enter Tryz.func152, Tryz.ntmps152
    go_wp2
    go_ret
    exact ⟨rfl, rfl⟩
  by_cases e3 : k = 3
  · subst e3
    go_enter Tryz.func152, Tryz.ntmps152
    go_wp2
    go_ret
    exact ⟨rfl, rfl⟩
  by_cases e2 : k = 2
  · subst e2
    go_enter Tryz.func152, Tryz.ntmps152
    go_wp2
    go_ret
    exact ⟨rfl, rfl⟩
  by_cases e4 : k = 4
  · subst e4
    go_enter Tryz.func152, Tryz.ntmps152
    go_wp2
    go_ret
    exact ⟨rfl, rfl⟩
  have g : itm k = 0 := by unfold itm; rw [if_neg e1, if_neg e3, if_neg (by omega)]
  rw [g]
  clear g
  have f1 : (k == 1) = false := by rw [beq_eq_false_iff_ne]; exact e1
  have f2 : (k == 2) = false := by rw [beq_eq_false_iff_ne]; exact e2
  have f3 : (k == 3) = false := by rw [beq_eq_false_iff_ne]; exact e3
  have f4 : (k == 4) = false := by rw [beq_eq_false_iff_ne]; exact e4
  clear e1 e2 e3 e4
  go_enter Tryz.func152, Tryz.ntmps152
  go_wp2
  go_ret
  exact ⟨rfl, rfl⟩

/-- What Read says: the value, the rest, the error. -/
structure Rd where
  k : Int
  n : Int
  s : ByteArray
  r : ByteArray
  e : Int
end Go.Proofs.YtacpllmlpmllbaaGreatDoor.V
/- value.Text of any value: walks over quic.Put's contract. -/
namespace Go.Proofs.YtacpllmlpmllbaaGreatDoor.V
open Go.RowKit

/-- A value's bytes. -/
def txt (k n : Int) (s : ByteArray) : ByteArray := ⟨([(⟨1, k, ⟨#[]⟩⟩ : It), ⟨itm k, n, s⟩].flatMap Q.itB).toArray⟩
theorem chk_kind {k n : Int} {s : ByteArray} (h : chkV k n s = true) : 1 ≤ k ∧ k ≤ 4 := by
  unfold chkV at h
  (repeat' split at h) <;> first | omega | (exact absurd h (by decide))
theorem isE {s : ByteArray} (h : s.size = 0) : s.toList.isEmpty = true := empty_is s h
theorem chk_may {k n : Int} {s : ByteArray} (h : chkV k n s = true) : [(⟨1, k, ⟨#[]⟩⟩ : It), ⟨itm k, n, s⟩].all Q.mayIt = true := by
  have hk := chk_kind h
  have h1 : Q.mayIt ⟨1, k, ⟨#[]⟩⟩ = true := by
    show Q.mayB 1 k ⟨#[]⟩ = true
    unfold Q.mayB
    rw [if_pos rfl, isE rfl, Bool.true_and, decide_eq_true_eq]
    omega
  have h2 : Q.mayIt ⟨itm k, n, s⟩ = true := by
    show Q.mayB (itm k) n s = true
    obtain rfl | rfl | rfl | rfl : k = 1 ∨ k = 2 ∨ k = 3 ∨ k = 4 := by omega
    · have e : itm 1 = 2 := by decide
      rw [e]
      simp only [chkV, if_pos, Bool.and_eq_true, decide_eq_true_eq] at h
      unfold Q.mayB
      rw [if_neg (by decide), if_pos rfl, isE h.1, Bool.true_and, decide_eq_true_eq]
      omega
    · have e : itm 2 = 4 := by decide
      rw [e]
      have h' : n = 0 ∧ s.size ≤ 200 := by
        unfold chkV at h
        rw [if_neg (by decide), if_pos rfl] at h
        simp only [Bool.and_eq_true, decide_eq_true_eq] at h
        exact ⟨h.1, h.2.1⟩
      unfold Q.mayB
      rw [if_neg (by decide), if_neg (by decide), if_neg (by decide), if_pos rfl, decide_eq_true_eq]
      omega
    · have e : itm 3 = 3 := by decide
      rw [e]
      unfold chkV at h
      rw [if_neg (by decide), if_neg (by decide), if_pos rfl] at h
      simp only [Bool.and_eq_true, decide_eq_true_eq] at h
      unfold Q.mayB
      rw [if_neg (by decide), if_neg (by decide), if_pos rfl, isE h.1, Bool.true_and, decide_eq_true_eq]
      exact h.2
    · have e : itm 4 = 4 := by decide
      rw [e]
      unfold chkV at h
      rw [if_neg (by decide), if_neg (by decide), if_neg (by decide), if_pos rfl] at h
      simp only [Bool.and_eq_true, decide_eq_true_eq] at h
      unfold Q.mayB
      rw [if_neg (by decide), if_neg (by decide), if_neg (by decide), if_pos rfl, decide_eq_true_eq]
      omega
  simp [h1, h2]
theorem row_two (W : World) (k I n : Int) (s : ByteArray) (t : TypeId) : IsRow (W.alloc (.cells #[.int .i64 1, .int .i64 k, .string ⟨#[]⟩, .int .i64 I, .int .i64 n, .string s] t)) 3 (.slice (some ⟨W.heap.size, 0, none⟩) 2 2) [(⟨1, k, ⟨#[]⟩⟩ : It), ⟨I, n, s⟩].length (itCells [(⟨1, k, ⟨#[]⟩⟩ : It), ⟨I, n, s⟩]) := by
  refine ⟨rfl, .inr ⟨W.heap.size, 0, 2, rfl, by simp, Nat.le_refl _, by decide, fun j u hu => ?_⟩⟩
  have hc : (W.alloc (.cells #[.int .i64 1, .int .i64 k, .string ⟨#[]⟩, .int .i64 I, .int .i64 n, .string s] t)).cell? ⟨W.heap.size, 0 + j, none⟩ = #[Value.int .i64 1, .int .i64 k, .string ⟨#[]⟩, .int .i64 I, .int .i64 n, .string s][j]? := by simp
  rw [hc]
  have e : (itCells [(⟨1, k, ⟨#[]⟩⟩ : It), ⟨I, n, s⟩]) = [Value.int .i64 1, .int .i64 k, .string ⟨#[]⟩, .int .i64 I, .int .i64 n, .string s] := rfl
  rw [e] at hu
  simpa using hu
theorem row_two_d {W : World} {v : Value} {n : Nat} {xs : List Value} (h : IsRow W 3 v n xs) : IsRow W.drew 3 v n xs := by
  obtain ⟨h1, h2⟩ := h
  refine ⟨h1, ?_⟩
  rcases h2 with h | ⟨b, off, cap, hv, hl, hc, hm, hcell⟩
  · exact .inl h
  · exact .inr ⟨b, off, cap, hv, hl, hc, hm, hcell⟩
theorem put_2n (k n : Int) (s : ByteArray) (t : TypeId) (W : World) (N : Nat) (hN : N = W.heap.size) (hs : s.size ≤ 140737488355328) (hT : Q.Tab W) (h : chkV k n s = true) :
    Calls Tryz.prog 56 #[.slice (some ⟨N, 0, none⟩) 2 2] (W.alloc (.cells #[.int .i64 1, .int .i64 k, .string ⟨#[]⟩, .int .i64 (itm k), .int .i64 n, .string s] t)) fun e w' => e = .returned (.tuple #[.string (txt k n s), .int .i64 0]) ∧ Below W.heap.size W w' := by
  subst hN
  refine (Q.put_ok _ _ _ (row_two W k (itm k) n s t) (Q.Tab_alloc hT _) (by simp) ?_ (chk_may h)).mono ?_
  · intro x hx
    simp only [List.mem_cons, List.not_mem_nil, or_false] at hx
    rcases hx with rfl | rfl
    · exact Nat.zero_le _
    · exact hs
  · rintro e w' ⟨he, hb⟩
    exact ⟨he, ((Below.refl _ _).alloc (Nat.le_refl _) _).trans (hb.mono (by simp))⟩
theorem put_2 (k n : Int) (s : ByteArray) (t : TypeId) (W : World) (hs : s.size ≤ 140737488355328) (hT : Q.Tab W) (h : chkV k n s = true) :
    Calls Tryz.prog 56 #[.slice (some ⟨W.heap.size, 0, none⟩) 2 2] (W.alloc (.cells #[.int .i64 1, .int .i64 k, .string ⟨#[]⟩, .int .i64 (itm k), .int .i64 n, .string s] t)).drew fun e w' => e = .returned (.tuple #[.string (txt k n s), .int .i64 0]) ∧ Below W.heap.size W w' := by
  have hA := Q.Tab_alloc hT (.cells #[.int .i64 1, .int .i64 k, .string ⟨#[]⟩, .int .i64 (itm k), .int .i64 n, .string s] t)
  have hD : Below W.heap.size W (W.alloc (.cells #[.int .i64 1, .int .i64 k, .string ⟨#[]⟩, .int .i64 (itm k), .int .i64 n, .string s] t)).drew := ((Below.refl _ _).alloc (Nat.le_refl _) _).drew
  have hA' : Q.Tab (W.alloc (.cells #[.int .i64 1, .int .i64 k, .string ⟨#[]⟩, .int .i64 (itm k), .int .i64 n, .string s] t)).drew := hA.below (Below.drew (Below.refl _ _)) hA.size
  refine (Q.put_ok _ _ _ (row_two_d (row_two W k (itm k) n s t)) hA' (by simp) ?_ (chk_may h)).mono ?_
  · intro x hx
    simp only [List.mem_cons, List.not_mem_nil, or_false] at hx
    rcases hx with rfl | rfl
    · exact Nat.zero_le _
    · exact hs
  · rintro e w' ⟨he, hb⟩
    exact ⟨he, hD.trans (hb.mono hD.size)⟩
end Go.Proofs.YtacpllmlpmllbaaGreatDoor.V
/- value.Text of any value: its walk. -/
namespace Go.Proofs.YtacpllmlpmllbaaGreatDoor.V
open Go.RowKit

/-- A value that lies in a block, and what was there before. -/
abbrev S9 (w0 : World) (k n : Int) (s : ByteArray) (w : World) : Prop :=
  w.cell? ⟨w0.heap.size, 0, none⟩ = some (.int .i64 k) ∧ w.cell? ⟨w0.heap.size, 1, none⟩ = some (.int .i64 n) ∧ w.cell? ⟨w0.heap.size, 2, none⟩ = some (.string s) ∧ w0.heap.size < w.heap.size ∧ Below w0.heap.size w0 w
theorem S9_call {w0 W w' : World} {k n : Int} {s : ByteArray} (hb : Below W.heap.size W w') (h : S9 w0 k n s W) : S9 w0 k n s w' := by
  obtain ⟨a0, a1, a2, l1, hB⟩ := h
  exact ⟨(hb.cell (p := ⟨w0.heap.size, 0, none⟩) l1).trans a0, (hb.cell (p := ⟨w0.heap.size, 1, none⟩) l1).trans a1, (hb.cell (p := ⟨w0.heap.size, 2, none⟩) l1).trans a2, Nat.lt_of_lt_of_le l1 hb.size, hB.trans (hb.mono hB.size)⟩
theorem S9_drew {w0 W : World} {k n : Int} {s : ByteArray} (h : S9 w0 k n s W) : S9 w0 k n s W.drew := by
  obtain ⟨a0, a1, a2, l1, hB⟩ := h
  exact ⟨a0, a1, a2, l1, hB.drew⟩
theorem S9_alloc {w0 W : World} {k n : Int} {s : ByteArray} (o : Obj) (h : S9 w0 k n s W) : S9 w0 k n s (W.alloc o) := S9_call ((Below.refl _ _).alloc (Nat.le_refl _) o) h
theorem S9_tab {w0 W : World} {k n : Int} {s : ByteArray} (hT : Q.Tab w0) (h : S9 w0 k n s W) : Q.Tab W := hT.below h.2.2.2.2 hT.size

set_option maxRecDepth 100000 in
set_option maxHeartbeats 4000000 in
theorem text_ok (k n : Int) (s : ByteArray) (w : World) (hs : s.size ≤ 140737488355328) (hU : UT w) (hT : Q.Tab w) (h : chkV k n s = true) :
    Calls Tryz.prog 105 #[vv k n s] w fun e w' => e = .returned (.string (txt k n s)) ∧ Below w.heap.size w w' := by
  have HC : Hid (chkV k n s = true) := h
  have hA : Below w.heap.size w (w.alloc (.cells #[.int .i64 k, .int .i64 n, .string s] 76)) := (Below.refl _ _).alloc (Nat.le_refl _) _
  clear h
  go_enter Tryz.func105, Tryz.ntmps105
  go_wp2_with fail
  refine (check_any _ _ _ _ hs (Utf8Tabs_below hU hA)).mono ?_
  rintro e w1 ⟨rfl, hb1⟩
  rw [HC.out]
  have c0 : w1.cell? ⟨w.heap.size, 0, none⟩ = some (.int .i64 k) := (hb1.cell (p := ⟨w.heap.size, 0, none⟩) (by simp)).trans (by simp)
  have c1 : w1.cell? ⟨w.heap.size, 1, none⟩ = some (.int .i64 n) := (hb1.cell (p := ⟨w.heap.size, 1, none⟩) (by simp)).trans (by simp)
  have c2 : w1.cell? ⟨w.heap.size, 2, none⟩ = some (.string s) := (hb1.cell (p := ⟨w.heap.size, 2, none⟩) (by simp)).trans (by simp)
  have hB1 : Below w.heap.size w w1 := hA.trans (hb1.mono (by simp))
  have hS : S9 w k n s w1 := ⟨c0, c1, c2, by have := hb1.size; simp at this; omega, hB1⟩
  clear hb1 hA hU c0 c1 c2 hB1
  go_wp2_with fail
  go_region_held3 (fun w' => S9 w k n s w') (first | assumption | exact S9_call (by assumption) (by assumption) | exact S9_drew (by assumption) | exact S9_alloc _ (by assumption) | exact S9_drew (S9_alloc _ (by assumption)) | exact S9_alloc _ (S9_drew (by assumption)))
    (first
      | (go_at_call 152; refine (itemOf_any _ _).mono ?_; rintro e w' ⟨rfl, rfl⟩)
      | (go_at_call 56; refine (put_2 k n s 104 _ hs (S9_tab hT (by assumption)) HC.out).mono ?_; rintro e w' ⟨rfl, hb⟩)
      | (go_at_call 56; refine (put_2n k n s 104 _ _ (by simp) hs (S9_tab hT (by assumption)) HC.out).mono ?_; rintro e w' ⟨rfl, hb⟩))
  rename_i hS3
  have hB3 := hS3.2.2.2.2
  clear hS3 hS
  go_wp2
  go_ret
  exact ⟨rfl, hB3⟩

set_option maxRecDepth 100000 in
theorem text_no (k n : Int) (s : ByteArray) (w : World) (hs : s.size ≤ 140737488355328) (hU : UT w) (h : chkV k n s = false) :
    Calls Tryz.prog 105 #[vv k n s] w fun e w' => e = .returned (.string ⟨#[]⟩) ∧ Below w.heap.size w w' := by
  have HC : Hid (chkV k n s = false) := h
  have hA : Below w.heap.size w (w.alloc (.cells #[.int .i64 k, .int .i64 n, .string s] 76)) := (Below.refl _ _).alloc (Nat.le_refl _) _
  clear h
  go_enter Tryz.func105, Tryz.ntmps105
  go_wp2_with fail
  refine (check_any _ _ _ _ hs (Utf8Tabs_below hU hA)).mono ?_
  rintro e w1 ⟨rfl, hb1⟩
  rw [HC.out]
  have hB1 : Below w.heap.size w w1 := hA.trans (hb1.mono (by simp))
  clear hb1 hA
  go_wp2
  go_ret
  exact ⟨rfl, hB1⟩
/-- A value's bytes, or none. -/
def txtV (k n : Int) (s : ByteArray) : ByteArray := if chkV k n s = true then txt k n s else ⟨#[]⟩
theorem text_any (k n : Int) (s : ByteArray) (w : World) (hs : s.size ≤ 140737488355328) (hU : UT w) (hT : Q.Tab w) :
    Calls Tryz.prog 105 #[vv k n s] w fun e w' => e = .returned (.string (txtV k n s)) ∧ Below w.heap.size w w' := by
  unfold txtV
  by_cases h : chkV k n s = true
  · rw [if_pos h]; exact text_ok k n s w hs hU hT h
  · rw [if_neg h]; exact text_no k n s w hs hU (by simpa using h)
end Go.Proofs.YtacpllmlpmllbaaGreatDoor.V
/- Plain mathematics: the bytes of a number stand at the front of bytes just if its form is the shortest one. -/
namespace Go.Proofs.YtacpllmlpmllbaaGreatDoor.Q
open Go.RowKit

end Go.Proofs.YtacpllmlpmllbaaGreatDoor.Q
/- quic.List and quic.Unlist: their walks. -/
namespace Go.Proofs.YtacpllmlpmllbaaGreatDoor.Q
open Go.RowKit

end Go.Proofs.YtacpllmlpmllbaaGreatDoor.Q
/- Plain mathematics: what is read, written again, are the bytes that were read. -/
namespace Go.Proofs.YtacpllmlpmllbaaGreatDoor.Q
open Go.RowKit

end Go.Proofs.YtacpllmlpmllbaaGreatDoor.Q
/- Plain mathematics: what is written is read, whatever stands behind it. -/
namespace Go.Proofs.YtacpllmlpmllbaaGreatDoor.Q
open Go.RowKit

end Go.Proofs.YtacpllmlpmllbaaGreatDoor.Q
