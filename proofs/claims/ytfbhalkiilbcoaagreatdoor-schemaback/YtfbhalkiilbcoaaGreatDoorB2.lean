/- quic.putText and quic.putItem: what they write into a builder. -/
import Derived.Test.YtfbhalkiilbcoaaGreatDoorB
import Derived.Test.YtfbhalkiilbcoaaGreatDoorI
import Derived.Test.YtfbhalkiilbcoaaGreatDoorM2
import Derived.Test.YtfbhalkiilbcoaaGreatDoorU3
import Derived.Lib.OthersKept
namespace Go.Proofs.YtfbhalkiilbcoaaGreatDoor.Q
open Go.RowKit

theorem grown_of_below {w w1 : World} (hb : Below w.heap.size w w1) : w.grownBy w1 none := ⟨hb.os, hb.tape, hb.output, hb.size, fun k hk _ => hb.block k hk⟩
theorem IsB_below {B b : Nat} {bs : List Value} {w w1 : World} (h : IsB B b bs w) (hb : Below w.heap.size w w1) : IsB B b bs w1 := by
  have key : ∀ p, Lib.BuilderAtF 73 5 B b p bs w → Lib.BuilderAtF 73 5 B b p bs w1 := by
    rintro p ⟨hB, v, hbk, hown, hne⟩
    exact ⟨hB, v, (hb.block b (Array.getElem?_eq_some_iff.1 hbk).1).trans hbk, hown.kept (grown_of_below hb) (by cases hv : v.ownBlock <;> simp), hne⟩
  exact h.elim (fun x => .inl (key _ x)) (fun x => .inr (key _ x))
theorem IsB_alloc {B b : Nat} {bs : List Value} {w : World} (h : IsB B b bs w) (o : Obj) : IsB B b bs (w.alloc o) :=
  h.elim (fun x => .inl (x.alloc o)) (fun x => .inr (x.alloc o))

def itB (x : It) : List UInt8 := if x.k = 1 then numL x.n else if x.k = 2 then numL (zig x.n) else if x.k = 3 then [UInt8.ofNat x.n.toNat] else numL x.s.size ++ x.s.data.toList

theorem strCells_num (n : Int) : Lib.strCells (strOfNums (numI n)) = Lib.byteCells (numL n) := rfl
theorem num_size_le (n : Int) : (strOfNums (numI n)).size ≤ 8 := by
  have := strOfNums_len n
  have : qsize n ≤ 8 := by unfold qsize; (repeat' split) <;> omega
  omega

set_option maxHeartbeats 400000 in
theorem putText_any (B b : Nat) (bs : List UInt8) (s : ByteArray) (w : World) (h : IsB B b (Lib.byteCells bs) w) (hT : Tab w) (hlen : bs.length + s.size + 8 ≤ 140737488355328) (hBw : B ≤ w.heap.size) :
    Calls Tryz.prog 81 #[.pointer (some ⟨b, 0, none⟩), .string s] w fun e w' => e = .returned (.tuple #[]) ∧ IsB B b (Lib.byteCells (bs ++ (numL s.size ++ s.data.toList))) w' ∧ Below B w w' := by
  have hsz : s.size ≤ 140737488355328 := by omega
  have hnz := num_size_le s.size
  go_enter Tryz.func81, Tryz.ntmps81
  go_wp2_with fail
  refine (num_any _ _ hT).mono ?_
  rintro e w1 ⟨rfl, hb1⟩
  have h1 := IsB_below h hb1
  have hs1 := hb1.size
  go_wp2_with fail
  refine (writeString_any B b _ _ _ h1 (by rw [Lib.byteCells_length]; omega) (by omega)).mono ?_
  rintro e w2 ⟨rfl, h2, hb2⟩
  have hs2 := hb2.size
  rw [strCells_num, ← Lib.byteCells_append] at h2
  have hB2 : Hid (Below B w w2) := (hb1.mono hBw).trans hb2
  go_wp2_with fail
  refine (writeString_any B b _ _ _ h2 (by have := numL_len s.size; have := strOfNums_len s.size; rw [Lib.byteCells_length, List.length_append]; omega) (by omega)).mono ?_
  rintro e w3 ⟨rfl, h3, hb3⟩
  rw [Lib.strCells_eq, ← Lib.byteCells_append, List.append_assoc] at h3
  have hB3 : Hid (Below B w w3) := hB2.out.trans hb3
  have H3 : Hid (IsB B b (Lib.byteCells (bs ++ (numL s.size ++ s.data.toList))) w3) := h3
  clear h h1 h2 h3 hb1 hb2 hb3 hB2
  go_wp2
  go_end0
  exact ⟨rfl, H3.out, hB3.out⟩

theorem Tab_alloc {w : World} (h : Tab w) (o : Obj) : Tab (w.alloc o) := h.below ((Below.refl _ _).alloc (Nat.le_refl _) o) h.size
theorem itB_1 {k n : Int} {s : ByteArray} (h : (k == 1) = true) : itB ⟨k, n, s⟩ = numL n := by unfold itB; rw [if_pos (by simpa using h)]
theorem itB_2 {k n : Int} {s : ByteArray} (h1 : (k == 1) = false) (h : (k == 2) = true) : itB ⟨k, n, s⟩ = numL (zig n) := by unfold itB; rw [if_neg (by simpa using h1), if_pos (by simpa using h)]
theorem itB_3 {k n : Int} {s : ByteArray} (h1 : (k == 1) = false) (h2 : (k == 2) = false) (h : (k == 3) = true) : itB ⟨k, n, s⟩ = [UInt8.ofNat n.toNat] := by unfold itB; rw [if_neg (by simpa using h1), if_neg (by simpa using h2), if_pos (by simpa using h)]
theorem itB_4 {k n : Int} {s : ByteArray} (h1 : (k == 1) = false) (h2 : (k == 2) = false) (h : (k == 3) = false) : itB ⟨k, n, s⟩ = numL s.size ++ s.data.toList := by unfold itB; rw [if_neg (by simpa using h1), if_neg (by simpa using h2), if_neg (by simpa using h)]
theorem itB_len (x : It) (h : mayB x.k x.n x.s = true) : (itB x).length ≤ 65544 := by
  have hq : ∀ n, (numL n).length ≤ 8 := fun n => by have := num_size_le n; have := strOfNums_len n; have := numL_len n; omega
  unfold itB
  split
  · have := hq x.n; omega
  split
  · have := hq (zig x.n); omega
  split
  · simp
  · rename_i h1 h2 h3
    unfold mayB at h
    rw [if_neg h1, if_neg h2, if_neg h3] at h
    split at h
    · have hh := of_decide_eq_true h
      have := hq x.s.size
      rw [List.length_append]
      have e : x.s.data.toList.length = x.s.size := by simp
      omega
    · cases h

set_option maxHeartbeats 1000000 in
theorem putItem_any (B b : Nat) (bs : List UInt8) (k n : Int) (s : ByteArray) (w : World) (h : IsB B b (Lib.byteCells bs) w) (hT : Tab w) (hm : mayB k n s = true) (hlen : bs.length + 65600 ≤ 140737488355328) (hBw : B ≤ w.heap.size) :
    Calls Tryz.prog 54 #[.pointer (some ⟨b, 0, none⟩), .agg #[.int .i64 k, .int .i64 n, .string s]] w fun e w' => e = .returned (.tuple #[]) ∧ IsB B b (Lib.byteCells (bs ++ itB ⟨k, n, s⟩)) w' ∧ Below B w w' := by
  by_cases c1 : (k == 1) = true
  · have E : Hid (itB ⟨k, n, s⟩ = numL n) := itB_1 c1
    have hnz := num_size_le n
    clear hm
    go_enter Tryz.func54, Tryz.ntmps54
    go_wp2_with fail
    refine (num_any _ _ (Tab_alloc hT _)).mono ?_
    rintro e w1 ⟨rfl, hb1⟩
    have h1 := IsB_below (IsB_alloc h _) hb1
    have hs1 := hb1.size
    simp only [World.size_alloc] at hs1
    have hB1 : Hid (Below B w w1) := ((Below.refl _ _).alloc hBw _).trans (hb1.mono (by simp; omega))
    go_wp2_with fail
    refine (writeString_any B b _ _ _ h1 (by rw [Lib.byteCells_length]; omega) (by omega)).mono ?_
    rintro e w2 ⟨rfl, h2, hb2⟩
    rw [strCells_num, ← Lib.byteCells_append] at h2
    have H2 : Hid (IsB B b (Lib.byteCells (bs ++ numL n)) w2) := h2
    have hB2 : Hid (Below B w w2) := hB1.out.trans hb2
    clear h h1 h2 hb1 hb2 hB1
    go_wp2
    go_end0
    exact ⟨rfl, by rw [E.out]; exact H2.out, hB2.out⟩
  have c1 : (k == 1) = false := by simpa using c1
  by_cases c2 : (k == 2) = true
  · have E : Hid (itB ⟨k, n, s⟩ = numL (zig n)) := itB_2 c1 c2
    have hnz := num_size_le (zig n)
    clear hm
    go_enter Tryz.func54, Tryz.ntmps54
    go_wp2_with fail
    refine (whole_any _ _ (Tab_alloc hT _)).mono ?_
    rintro e w1 ⟨rfl, hb1⟩
    have h1 := IsB_below (IsB_alloc h _) hb1
    have hs1 := hb1.size
    simp only [World.size_alloc] at hs1
    have hB1 : Hid (Below B w w1) := ((Below.refl _ _).alloc hBw _).trans (hb1.mono (by simp; omega))
    go_wp2_with fail
    refine (writeString_any B b _ _ _ h1 (by rw [Lib.byteCells_length]; omega) (by omega)).mono ?_
    rintro e w2 ⟨rfl, h2, hb2⟩
    rw [strCells_num, ← Lib.byteCells_append] at h2
    have H2 : Hid (IsB B b (Lib.byteCells (bs ++ numL (zig n))) w2) := h2
    have hB2 : Hid (Below B w w2) := hB1.out.trans hb2
    clear h h1 h2 hb1 hb2 hB1
    go_wp2
    go_end0
    exact ⟨rfl, by rw [E.out]; exact H2.out, hB2.out⟩
  have c2 : (k == 2) = false := by simpa using c2
  by_cases c3 : (k == 3) = true
  · have E : Hid (itB ⟨k, n, s⟩ = [UInt8.ofNat n.toNat]) := itB_3 c1 c2 c3
    obtain ⟨hn0, hn1⟩ : 0 ≤ n ∧ n ≤ 1 := by
      have k3 : k = 3 := by simpa using c3
      subst k3
      simp [mayB] at hm
      omega
    clear hm
    go_enter Tryz.func54, Tryz.ntmps54
    go_wp2_with fail
    refine (writeByte_any B b _ _ _ (IsB_alloc h _) (by rw [Lib.byteCells_length]; omega) (by simp; omega)).mono ?_
    rintro e w2 ⟨rfl, h2, hb2⟩
    have e2 : Lib.byteCells bs ++ [Value.int .u8 n] = Lib.byteCells (bs ++ [UInt8.ofNat n.toNat]) := by
      rw [Lib.byteCells_append]
      have : ((UInt8.ofNat n.toNat).toNat : Int) = n := u8nat n hn0 (by omega)
      simp only [Lib.byteCells, List.map_cons, List.map_nil, this]
    have H2 : Hid (IsB B b (Lib.byteCells (bs ++ [UInt8.ofNat n.toNat])) w2) := by rw [← e2]; exact h2
    have hB2 : Hid (Below B w w2) := ((Below.refl _ _).alloc hBw _).trans hb2
    clear h h2 hb2 e2
    go_wp2
    go_end0
    exact ⟨rfl, by rw [E.out]; exact H2.out, hB2.out⟩
  have c3 : (k == 3) = false := by simpa using c3
  by_cases c4 : (k == 4) = true
  · have E : Hid (itB ⟨k, n, s⟩ = numL s.size ++ s.data.toList) := itB_4 c1 c2 c3
    have hsm : s.size ≤ 65536 := by
      have k4 : k = 4 := by simpa using c4
      subst k4
      simp [mayB] at hm
      omega
    clear hm
    go_enter Tryz.func54, Tryz.ntmps54
    go_wp2_with fail
    refine (putText_any B b bs s _ (IsB_alloc h _) (Tab_alloc hT _) (by omega) (by simp; omega)).mono ?_
    rintro e w2 ⟨rfl, h2, hb2⟩
    have H2 : Hid (IsB B b (Lib.byteCells (bs ++ (numL s.size ++ s.data.toList))) w2) := h2
    have hB2 : Hid (Below B w w2) := ((Below.refl _ _).alloc hBw _).trans hb2
    clear h h2 hb2
    go_wp2
    go_end0
    exact ⟨rfl, by rw [E.out]; exact H2.out, hB2.out⟩
  · exfalso
    have a1 : ¬ k = 1 := by simpa using c1
    have a2 : ¬ k = 2 := by simpa using c2
    have a3 : ¬ k = 3 := by simpa using c3
    have a4 : ¬ k = 4 := by simpa using c4
    unfold mayB at hm
    rw [if_neg a1, if_neg a2, if_neg a3, if_neg a4] at hm
    cases hm
end Go.Proofs.YtfbhalkiilbcoaaGreatDoor.Q
