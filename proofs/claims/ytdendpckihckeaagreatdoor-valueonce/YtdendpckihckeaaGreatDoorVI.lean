/- value.showText, and Show of a text: walks. -/
import Derived.Test.YtdendpckihckeaaGreatDoorVH
import Derived.Test.YtdendpckihckeaaGreatDoorShelf
namespace Go.Proofs.YtdendpckihckeaaGreatDoor
open Go.RowKit

theorem grown_below {w w1 : World} (hb : Below w.heap.size w w1) : w.grownBy w1 none := ⟨hb.os, hb.tape, hb.output, hb.size, fun k hk _ => hb.block k hk⟩
theorem IsB_below {B b : Nat} {bs : List Value} {w w1 : World} (h : IsB B b bs w) (hb : Below w.heap.size w w1) : IsB B b bs w1 := by
  have key : ∀ p, Lib.BuilderAtF 87 5 B b p bs w → Lib.BuilderAtF 87 5 B b p bs w1 := by
    rintro p ⟨hB, v, hbk, hown, hne⟩
    exact ⟨hB, v, (hb.block b (Array.getElem?_eq_some_iff.1 hbk).1).trans hbk, hown.kept (grown_below hb) (by cases hv : v.ownBlock <;> simp), hne⟩
  exact h.elim (fun x => .inl (key _ x)) (fun x => .inr (key _ x))
theorem IsB_alloc {B b : Nat} {bs : List Value} {w : World} (h : IsB B b bs w) (o : Obj) : IsB B b bs (w.alloc o) :=
  h.elim (fun x => .inl (x.alloc o)) (fun x => .inr (x.alloc o))
theorem IsB_iter {B b : Nat} {bs : List Value} {w : World} (h : IsB B b bs w) {k : Nat} {s : ByteArray} {p : Nat} (hk : w.heap[k]? = some (.stringIter s p)) (p' : Nat) : IsB B b bs (w.iterAt k s p') := by
  have key : ∀ q, Lib.BuilderAtF 87 5 B b q bs w → Lib.BuilderAtF 87 5 B b q bs (w.iterAt k s p') := by
    rintro q ⟨hB, v, hbk, hown, hne⟩
    have hbne : b ≠ k := fun e => by rw [e, hk] at hbk; cases hbk
    refine ⟨hB, v, (Lib.iterAt_other w k b s p' hbne).trans hbk, hown.kept (row := some k) ⟨rfl, rfl, rfl, by rw [Lib.iterAt_size]; exact Nat.le_refl _, fun j _ hj => Lib.iterAt_other w k j s p' (fun e => hj (by rw [e]))⟩ ?_, hne⟩
    refine .inr fun e => ?_
    obtain ⟨c, fz, hc⟩ := rowF_cells hown k e
    rw [hk] at hc
    cases hc
  exact h.elim (fun x => .inl (key _ x)) (fun x => .inr (key _ x))
theorem iterPos_of {w : World} {k : Nat} {s : ByteArray} {p : Nat} (h : w.heap[k]? = some (.stringIter s p)) : w.iterPos k = p := by
  simp [World.iterPos, h]
theorem iter_kept {w w' : World} {b : Nat} (ok : Lib.OthersKept 5 (some b) w w') {k : Nat} {s : ByteArray} {p : Nat} (h : w.heap[k]? = some (.stringIter s p)) (hb : k ≠ b) : w'.heap[k]? = some (.stringIter s p) :=
  ok k _ h (fun e => hb (Option.some.inj e)) (fun c fz e => by cases e)
theorem IsB_ne {B b : Nat} {bs : List Value} {w : World} (h : IsB B b bs w) {k : Nat} {s : ByteArray} {p : Nat} (hk : w.heap[k]? = some (.stringIter s p)) : k ≠ b := by
  intro e
  subst e
  rcases h with ⟨_, v, hbk, _⟩ | ⟨_, v, hbk, _⟩
  · rw [hk] at hbk; cases hbk
  · rw [hk] at hbk; cases hbk

def okR (c : Nat) : Prop := c < 16 ∨ (32 ≤ c ∧ c ≠ 127)
def shows (l : List Nat) : List UInt8 := l.flatMap showR
theorem showR_len (c : Nat) : (showR c).length ≤ 5 := by
  unfold showR
  repeat' split
  all_goals first | decide | (simp) | (have := enc_len4 c; omega)
/-- What holds of showText's loop at every round. -/
def StRel (s : ByteArray) (w : World) (k0 : Nat) (wr : World) : Prop :=
  ∃ (pos : Nat) (acc : List UInt8), IsB w.heap.size w.heap.size (Lib.byteCells (34 :: acc)) wr ∧ wr.heap[k0]? = some (.stringIter s pos) ∧ Below w.heap.size w wr ∧ w.heap.size < wr.heap.size ∧ acc ++ shows (rns (s.data.toList.drop pos)) = shows (rns s.data.toList) ∧ acc.length ≤ 5 * pos ∧ (∀ c ∈ rns (s.data.toList.drop pos), okR c)
theorem cells_byte (l : List UInt8) (x : UInt8) : Lib.byteCells l ++ [Value.int .u8 (x.toNat : Int)] = Lib.byteCells (l ++ [x]) := by rw [Lib.byteCells_append]; rfl

set_option maxRecDepth 100000 in
set_option maxHeartbeats 4000000 in
theorem showText_any (s : ByteArray) (w : World) (hs : s.size ≤ 1000000) (hT : T16 w) (hok : ∀ c ∈ rns s.data.toList, okR c) :
    Calls Tryz.prog 41 #[.string s] w fun e w' => e = .returned (.string (str (34 :: shows (rns s.data.toList) ++ [34]))) ∧ Below w.heap.size w w' := by
  have HOK : Hid (∀ c ∈ rns s.data.toList, okR c) := hok
  clear hok
  go_enter Tryz.func41, Tryz.ntmps41
  go_wp2_with fail
  refine (writeByte_k w.heap.size w.heap.size [] 34 _ (Lib.IsBuilderF.of (Lib.fresh_isBuilder _ _ w)) (by simp) (by first | simp | omega | skip)).mono ?_
  rintro e w1 ⟨rfl, hI1, hb1, ok1⟩
  have hs1 := hb1.size
  have hs1' : w.heap.size < w1.heap.size := by first | omega | (simp at hs1; omega)
  have hB1 : Below w.heap.size w w1 := ((Below.refl _ _).alloc (Nat.le_refl _) _).trans hb1
  clear hb1 ok1 hs1
  go_wp2_with fail
  go_loopw [] (fun wr => StRel s w w1.heap.size wr) (fun wr => s.size - wr.iterPos w1.heap.size)
  case atStart =>
    exact ⟨0, [], IsB_alloc hI1 _, World.iter_heap w1 s 0, hB1.alloc (by omega) _, Nat.lt_of_lt_of_le hs1' ((Below.refl w1.heap.size w1).alloc (Nat.le_refl _) (.stringIter s 0)).size, rfl, Nat.le_refl _, HOK.out⟩
  case round =>
    obtain ⟨pos, acc, hI, hit, hbw, hws, hck, hal, hokr⟩ := hrel
    have HC : Hid (acc ++ shows (rns (s.data.toList.drop pos)) = shows (rns s.data.toList)) := hck
    have HOR : Hid (∀ c ∈ rns (s.data.toList.drop pos), okR c) := hokr
    clear hck hokr
    have hsz : w1.heap.size < wr.heap.size := (Array.getElem?_eq_some_iff.1 hit).1
    by_cases hp : pos < s.size
    · have hnx : ∀ ty, (Instr.next (.pointer (some ⟨w1.heap.size, 0, none⟩)) true ty).run Tryz.prog wr = _ := fun ty => Lib.run_next_any_at wr w1.heap.size s pos ty hit hp
      have hwd := Lib.decode_width_pos s pos hp
      have hit2 := Lib.iterAt_heap wr w1.heap.size s pos (pos + (Utf8.decode s pos).2) hit
      have hbw2 := Lib.below_iterAt hbw (k := w1.heap.size) (by omega) s (pos + (Utf8.decode s pos).2)
      have hI2 := IsB_iter hI hit (pos + (Utf8.decode s pos).2)
      have hszI : (wr.iterAt w1.heap.size s (pos + (Utf8.decode s pos).2)).heap.size = wr.heap.size := Lib.iterAt_size ..
      have hrl := Lib.rune_le s pos
      have hrn : Hid (rns (s.data.toList.drop pos) = (Utf8.decode s pos).1 :: rns (s.data.toList.drop (pos + (Utf8.decode s pos).2))) := rns_at s pos hp
      have hsc : Hid (scal (Utf8.decode s pos).1) := rns_scal (s.data.toList.drop pos) _ (by rw [hrn.out]; simp)
      have hmeas : Hid (s.size - (pos + (Utf8.decode s pos).2) < s.size - wr.iterPos w1.heap.size) := by
        show _ < _
        rw [iterPos_of hit]; omega
      have hwl : pos + (Utf8.decode s pos).2 ≤ s.size := by
        have hne : s.data.toList.drop pos ≠ [] := by
          intro e
          have := congrArg List.length e
          rw [List.length_drop, Array.length_toList] at this
          have e2 : s.data.size = s.size := rfl
          simp at this
          omega
        have h1 := Lib.decodeL_le _ hne
        rw [Lib.decodeL_drop, List.length_drop, Array.length_toList] at h1
        have e2 : s.data.size = s.size := rfl
        omega
      generalize (Utf8.decode s pos).1 = c at *
      generalize (Utf8.decode s pos).2 = d at *
      generalize hW : wr.iterAt w1.heap.size s (pos + d) = W at *
      have hcl := showR_len c
      have hcok := HOR.out c (by rw [hrn.out]; simp)
      have HOR2 : Hid (∀ x ∈ rns (s.data.toList.drop (pos + d)), okR x) := fun x hx => HOR.out x (by rw [hrn.out]; exact List.mem_cons_of_mem _ hx)
      have HC2 : Hid ((acc ++ showR c) ++ shows (rns (s.data.toList.drop (pos + d))) = shows (rns s.data.toList)) := by
        show _ = _; rw [← HC.out, hrn.out]; simp [shows]
      clear HC hrn hW hI hbw HOR
      go_wp2_with fail
      refine (showRune_any c _ hsc.out hcok (T16_below hT hbw2)).mono ?_
      rintro e w3 ⟨rfl, hb3⟩
      have hI3 := IsB_below hI2 hb3
      have hit3 := (hb3.block _ (Array.getElem?_eq_some_iff.1 hit2).1).trans hit2
      have hbw3 := hbw2.trans (hb3.mono (by omega))
      have hs3 := hb3.size
      have hzs : (str (showR c)).size ≤ 5 := by rw [str_size]; exact hcl
      clear hb3 hI2 hit2 hbw2
      go_wp2_with fail
      refine (writeString_k w.heap.size w.heap.size _ (str (showR c)) _ hI3 (by rw [Lib.byteCells_length, List.length_cons]; omega) (by omega)).mono ?_
      rintro e w4 ⟨rfl, hI4, hb4, ok4⟩
      have hit4 : Hid (w4.heap[w1.heap.size]? = some (.stringIter s (pos + d))) := iter_kept ok4 hit3 (IsB_ne hI3 hit3)
      have hmW : Hid (w4.iterPos w1.heap.size = pos + d) := iterPos_of hit4.out
      have HI : Hid (IsB w.heap.size w.heap.size (Lib.byteCells (34 :: (acc ++ showR c))) w4) := by
        rw [Lib.strCells_eq, str_data, ← Lib.byteCells_append, List.cons_append] at hI4
        exact hI4
      have HB : Hid (Below w.heap.size w w4) := hbw3.trans hb4
      have hs4 := hb4.size
      clear hI4 hb4 ok4 hI3 hit3 hbw3
      go_wp2
      go_roundw
      case rel => exact ⟨pos + d, acc ++ showR c, HI.out, hit4.out, HB.out, by omega, HC2.out, by rw [List.length_append]; omega, HOR2.out⟩
      case measure => rw [hmW.out]; exact hmeas.out
    · have hnx : ∀ ty, (Instr.next (.pointer (some ⟨w1.heap.size, 0, none⟩)) true ty).run Tryz.prog wr = _ := fun ty => Lib.run_next_end_at wr w1.heap.size s pos ty hit hp
      have HC2 : Hid (acc = shows (rns s.data.toList)) := by show _ = _; rw [← HC.out, rns_end s pos hp]; simp [shows]
      have hpl : acc.length ≤ 10000000 := by
        have h3 := rns_len_le s.data.toList.length s.data.toList
        have e : s.data.toList.length = s.size := Array.length_toList
        have h4 : (rns s.data.toList).length ≤ s.data.toList.length := h3
        have h5 : ∀ l : List Nat, (shows l).length ≤ 5 * l.length := by
          intro l
          induction l with
          | nil => simp [shows]
          | cons c l ih => have := showR_len c; simp only [shows, List.flatMap_cons, List.length_append, List.length_cons] at ih ⊢; omega
        have h6 := h5 (rns s.data.toList)
        rw [HC2.out]
        omega
      clear HC HOR
      go_wp2_with fail
      refine (writeByte_k w.heap.size w.heap.size _ 34 _ hI (by rw [Lib.byteCells_length, List.length_cons]; omega) (by omega)).mono ?_
      rintro e w3 ⟨rfl, hI3, hb3, ok3⟩
      have hs3 := hb3.size
      have hI4 : IsB w.heap.size w.heap.size (Lib.byteCells (34 :: acc ++ [34])) w3 := by
        have := cells_byte (34 :: acc) 34
        rw [← this]
        exact hI3
      have hB3 := hbw.trans hb3
      clear hI3 hb3 ok3
      go_wp2_with fail
      refine (Tryz.Builder_String_any_k w.heap.size w.heap.size (34 :: acc ++ [34]) _ hI4 (by omega)).mono ?_
      rintro e w4 ⟨rfl, hI5, hb5, ok5⟩
      have HB : Hid (Below w.heap.size w w4) := hB3.trans hb5
      clear hI5 hb5 ok5 hI4
      go_wp2
      go_ret
      refine ⟨?_, HB.out⟩
      rw [← HC2.out]
      rfl

set_option maxRecDepth 100000 in
set_option maxHeartbeats 1000000 in
theorem show_text (s : ByteArray) (w : World) (hc : chkV 2 0 s = true) (hT : T16 w) (hU : UT w) (hok : ∀ c ∈ rns s.data.toList, okR c) :
    Calls Tryz.prog 16 #[vv 2 0 s] w fun e w' => e = .returned (.string (str (34 :: shows (rns s.data.toList) ++ [34]))) ∧ Below w.heap.size w w' := by
  have hz : s.size ≤ 200 := by simp [chkV] at hc; omega
  have hb1 : Below w.heap.size w (w.alloc (.cells #[.int .i64 2, .int .i64 0, .string s] 25)) := (Below.refl _ _).alloc (Nat.le_refl _) _
  have HST : Hid (∀ w, T16 w → Calls Tryz.prog 41 #[.string s] w fun e w' => e = .returned (.string (str (34 :: shows (rns s.data.toList) ++ [34]))) ∧ Below w.heap.size w w') := fun w hT => showText_any s w (by omega) hT hok
  generalize str (34 :: shows (rns s.data.toList) ++ [34]) = R at *
  clear hok
  go_enter Tryz.func16, Tryz.ntmps16
  go_wp2_with fail
  refine (check_any 2 0 s _ (by omega) (Utf8Tabs_below hU hb1)).mono ?_
  rintro e w1 ⟨rfl, hb2⟩
  rw [hc]
  have c0 : w1.cell? ⟨w.heap.size, 0, none⟩ = some (.int .i64 2) := (hb2.cell (p := ⟨w.heap.size, 0, none⟩) (by simp)).trans (by simp)
  have c2 : w1.cell? ⟨w.heap.size, 2, none⟩ = some (.string s) := (hb2.cell (p := ⟨w.heap.size, 2, none⟩) (by simp)).trans (by simp)
  have hb3 := hb1.trans (hb2.mono hb1.size)
  clear hb1 hb2
  go_wp2_with fail
  refine (HST.out _ (T16_below hT hb3)).mono ?_
  rintro e w2 ⟨rfl, hb4⟩
  have hb5 : Hid (Below w.heap.size w w2) := hb3.trans (hb4.mono hb3.size)
  clear hb3 hb4
  go_wp2
  go_ret
  exact ⟨rfl, hb5.out⟩
end Go.Proofs.YtdendpckihckeaaGreatDoor
