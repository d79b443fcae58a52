/- (*strings.Builder).Grow at a builder of the call's own, strings.Join with a blank between: walks. -/
import Derived.Test.YtmfeoiblhjfpjaaGreatDoorZb1
import Derived.Test.YtmfeoiblhjfpjaaGreatDoorZb2
import Derived.Test.YtmfeoiblhjfpjaaGreatDoorZb5
import Derived.Lib.Join
import Derived.RegionTactic
import Derived.Test.YtmfeoiblhjfpjaaGreatDoorZb3
import Derived.Shelf.Small.Strs
import Derived.Shelf.LaysM
import Derived.Shelf.Strconv.Itoa3
import Derived.Test.YtmfeoiblhjfpjaaGreatDoorProg
namespace Go.Proofs.YtmfeoiblhjfpjaaGreatDoor
open Go.RowKit

set_option maxRecDepth 100000 in
set_option maxHeartbeats 1000000 in
theorem grow_new (b n : Nat) (w : World) (hbk : w.heap[b]? = some (.cells #[.pointer none, .slice none 0 0] 65 (0, 0))) (h0 : 0 < n) (hn : n ≤ 1000000000) :
    Calls Tryz.prog 25 #[.pointer (some ⟨b, 0, none⟩), .int .i64 n] w fun e w' => e = .returned (.tuple #[]) ∧ IsB b b [] w' ∧ Below b w w' := by
  have hlt : b < w.heap.size := (Array.getElem?_eq_some_iff.1 hbk).1
  have hat : Lib.BuilderAtF 65 5 b b (.pointer none) [] w := Lib.BuilderAtF.of ⟨Nat.le_refl _, .slice none 0 0, hbk, World.ownsRow_nil _ _ _ _, by simp [Value.ownBlock]⟩
  have hb0 : Below b w (w.setCell ⟨b, 0, none⟩ (.pointer (some ⟨b, 0, none⟩))) := (Below.refl b w).setCell (p := ⟨b, 0, none⟩) (Nat.le_refl _) _
  have hbk2 : (w.setCell ⟨b, 0, none⟩ (.pointer (some ⟨b, 0, none⟩))).heap[b]? = some (.cells #[.pointer (some ⟨b, 0, none⟩), .slice none 0 0] 65 (0, 0)) := by
    simp [World.setCell, Array.getElem?_modify, hbk]
  have d0 : decide ((n : Int) < 0) = false := by simp
  have d1 : decide ((0 : Int) < n) = true := by simp; omega
  go_enter Tryz.func25, Tryz.ntmps25
  go_wp2_with fail
  refine (copyCheck_fresh b w hat.cell0 hat.shape hat.frozen0).mono ?_
  rintro e w1 ⟨rfl, rfl⟩
  generalize w.setCell ⟨b, 0, none⟩ (.pointer (some ⟨b, 0, none⟩)) = W at *
  have hs := hb0.size
  have c1 : W.cell? ⟨b, 1, none⟩ = some (.slice none 0 0) := by rw [Lib.cell_of_heap hbk2]; rfl
  go_wp2_with fail
  go_region
  go_wp2_with fail
  refine (Tryz.Builder_grow_fresh b b n W.drew (Nat.le_refl _) hbk2 (by show b ≤ W.heap.size; omega) (by omega)).mono ?_
  rintro e w2 ⟨rfl, h2, hb2⟩
  have HB : Hid (Below b w w2) := hb0.trans (Below.trans (by exact (Below.refl b W).drew) hb2)
  go_wp2
  go_end0
  exact ⟨rfl, .inr (Lib.BuilderAtF.of h2), HB.out⟩
/-- The strings of a row. -/
def sCells (xs : List (List UInt8)) : List Value := xs.map fun x => .string (str x)
theorem sCells_at {w : World} {a : Option Addr} {cap : Nat} {xs : List (List UInt8)} (h : IsRow w 1 (.slice a xs.length cap) xs.length (sCells xs)) (h0 : 0 < xs.length) :
    ∃ b off, a = some ⟨b, off, none⟩ ∧ b < w.heap.size ∧ xs.length ≤ cap ∧ ∀ (k : Nat) (hk : k < xs.length), w.cell? ⟨b, off + k, none⟩ = some (.string (str xs[k])) := by
  obtain ⟨b, off, cap', hv, hlt, q1, q2, hc⟩ := h.open (by omega)
  simp only [Value.slice.injEq] at hv
  exact ⟨b, off, hv.1, hlt, by omega, fun k hk => hc k _ (by simp [sCells, hk])⟩
theorem bc_str (l : List UInt8) : Lib.strCells (str l) = Lib.byteCells l := rfl
theorem bc_app (l m : List UInt8) : Lib.byteCells l ++ Lib.byteCells m = Lib.byteCells (l ++ m) := by simp [Lib.byteCells]
theorem join_len (x : List UInt8) (r : List (List UInt8)) : (Lib.join (x :: r) [32]).length = r.length + Lib.lens (x :: r) := by
  rw [Lib.join_cons, List.length_append, Lib.joinTail_length]
  simp [Lib.lens]
  omega
set_option maxRecDepth 100000 in
set_option maxHeartbeats 4000000 in
theorem join_any (v : Value) (xs : List (List UInt8)) (w : World) (hr : IsRow w 1 v xs.length (sCells xs)) (hn : xs.length ≤ 1000) (hlen : (Lib.join xs [32]).length ≤ 1000000) :
    Calls Tryz.prog 16 #[v, .string ⟨#[32]⟩] w fun e w' => e = .returned (.string (str (Lib.join xs [32]))) ∧ Below w.heap.size w w' := by
  obtain ⟨a0, cap0, rfl⟩ := hr.form
  match xs, hr, hn, hlen with
  | [], hr, _, _ =>
    go_enter Tryz.func16, Tryz.ntmps16
    go_wp2
    go_ret
    exact ⟨rfl, Below.refl _ _⟩
  | [x], hr, _, _ =>
    obtain ⟨b, off, rfl, hlt, hcap, hc⟩ := sCells_at hr (by simp)
    have c0 : w.cell? ⟨b, off, none⟩ = some (.string (str x)) := hc 0 (by simp)
    clear hc hr
    rw [Lib.join_one]
    go_enter Tryz.func16, Tryz.ntmps16
    go_wp2
    go_ret
    exact ⟨rfl, Below.refl _ _⟩
  | x :: y :: r, hr, hn, hlen =>
    obtain ⟨b, off, rfl, hlt, hcap, hc⟩ := sCells_at hr (by simp)
    have HC : Hid (∀ (k : Nat) (hk : k < (x :: y :: r).length), w.cell? ⟨b, off + k, none⟩ = some (.string (str (x :: y :: r)[k]))) := hc
    clear hc hr
    have hJ := join_len x (y :: r)
    obtain ⟨m, hm⟩ : ∃ m, m = r.length := ⟨_, rfl⟩
    have hL : (x :: y :: r).length = m + 2 := by rw [hm]; rfl
    have hL' : (y :: r).length = m + 1 := by rw [hm]; rfl
    rw [hL] at hn hcap ⊢
    rw [hL'] at hJ
    generalize hX : x :: y :: r = xs at *
    have HX : Hid (xs = x :: y :: r) := hX.symm
    have HJ : Hid ((Lib.join xs [32]).length = m + 1 + Lib.lens xs) := hJ
    have hle := Lib.lens_take_le xs
    have hS : Lib.lens xs ≤ 1000000 := by omega
    clear hX hm hJ hL'
    have e1 : ((m : Int) + 2 - 1) = m + 1 := by omega
    have q1 : decide ((9223372036854775807 : Int) / ((m : Int) + 1) ≤ 1) = false := by
      simp only [decide_eq_false_iff_not, Int.not_le]
      have : (2 : Int) ≤ 9223372036854775807 / ((m : Int) + 1) := Int.le_ediv_of_mul_le (by omega) (by omega)
      omega
    go_enter Tryz.func16, Tryz.ntmps16
    go_wp2_with fail
    go_loopw [5, 41] (fun n i wr => ∃ k t : Nat, k ≤ m + 2 ∧ i = .int .i64 (k : Int) ∧ n = .int .i64 (t : Int) ∧ Hid (t = m + 1 + Lib.lens (xs.take k)) ∧ t ≤ 2000000 ∧ w = wr) (fun _ i _ => m + 2 - (intOf i).toNat)
    case atStart => exact ⟨0, m + 1, by omega, rfl, by simp, by show _ = _; simp [Lib.lens], by omega, rfl⟩
    case round =>
      obtain ⟨k, t, hk, rfl, rfl, HT, ht, rfl⟩ := hrel
      by_cases hlk : k < m + 2
      · have hck := HC.out k (by omega)
        have hls := Lib.lens_take_succ xs k xs[k] (by simp [hL, hlk])
        have hl2 := hle (k + 1)
        have hz : (str xs[k]).size = xs[k].length := str_size _
        have dk : decide ((k : Int) < (m : Int) + 2) = true := by simp; omega
        have ht1 := HT.out
        have HT2 : Hid (t + (str xs[k]).size = m + 1 + Lib.lens (xs.take (k + 1))) := by show _ = _; omega
        have ht2 : t + (str xs[k]).size ≤ 2000000 := by omega
        generalize str xs[k] = z at *
        have dz : decide ((9223372036854775807 : Int) - t < z.size) = false := by simp; omega
        clear hls hl2 hz ht1 HC hle
        go_wp2
        exact ⟨⟨k + 1, t + z.size, by omega, by simp, by simp, HT2, ht2, trivial⟩, by simp [intOf]; omega⟩
      · have hk' : k = m + 2 := by omega
        subst hk'
        have ht1 := HT.out
        rw [List.take_of_length_le (by omega)] at ht1
        have HTJ : Hid (t = (Lib.join xs [32]).length) := by show _ = _; rw [HJ.out]; exact ht1
        have ht0 : 0 < t := by omega
        have ht9 : t ≤ 1000000000 := by omega
        clear ht1 HT ht hk hlk
        obtain ⟨Y, HY⟩ : ∃ Y, Hid (Y = y :: r) := ⟨_, rfl⟩
        have HYl : Hid (Y.length = m + 1) := by show _ = _; have := congrArg List.length HX.out; rw [HY.out]; simp at this ⊢; omega
        have hXY : xs = x :: Y := by rw [HY.out]; exact HX.out
        subst hXY
        have c0 : w.cell? ⟨b, off, none⟩ = some (.string (str x)) := HC.out 0 (by simp)
        have HC2 : Hid (∀ (k : Nat) (hk : k < m + 1), w.cell? ⟨b, off + 1 + k, none⟩ = some (.string (str (Y[k]'(by rw [HYl.out]; exact hk))))) := fun k hk => by
          have := HC.out (k + 1) (by rw [List.length_cons, HYl.out]; omega)
          rw [show off + (k + 1) = off + 1 + k by omega] at this
          simpa using this
        have HJl : Hid (∀ k, x.length + (Lib.joinTail [32] (Y.take k)).length ≤ 1000000) := fun k => by
          have e := congrArg List.length (Lib.join_cons x Y [32])
          have := Lib.joinTail_take_le [32] Y k
          rw [List.length_append] at e
          omega
        have HXs : Hid ((str x).size = x.length) := str_size _
        have hxz : (str x).size ≤ 1000000 := by have := HJl.out 0; rw [HXs.out]; omega
        have dm : decide ((m : Int) + 2 < m + 2) = false := by simp
        clear HC HX HJ hle hL hlen
        go_wp2_with fail
        refine (grow_new w.heap.size t _ (heap_alloc_new w _) ht0 ht9).mono ?_
        rintro e w1 ⟨rfl, hI1, hb1⟩
        have hB1 : Below w.heap.size w w1 := ((Below.refl _ _).alloc (Nat.le_refl _) _).trans hb1
        have hs1 : w.heap.size < w1.heap.size := by have := hb1.size; simp at this; omega
        have c1 : w1.cell? ⟨b, off, none⟩ = some (.string (str x)) := by rw [hB1.cell hlt]; exact c0
        clear hb1
        go_wp2_with fail
        refine (writeString_k w.heap.size w.heap.size [] (str x) _ hI1 (by simp; omega) (by omega)).mono ?_
        rintro e w2 ⟨rfl, hI2, hb2, ok2⟩
        have hB2 : Below w.heap.size w w2 := hB1.trans hb2
        have hs2 : w.heap.size < w2.heap.size := by have := hb2.size; omega
        rw [bc_str, List.nil_append] at hI2
        clear hb2 ok2 hI1 hB1 c1
        go_wp2_with fail
        go_loopw [65] (fun i wq => ∃ k : Nat, k ≤ m + 1 ∧ i = .int .i64 (k : Int) ∧ IsB w.heap.size w.heap.size (Lib.byteCells (x ++ Lib.joinTail [32] (Y.take k))) wq ∧ Below w.heap.size w wq ∧ w.heap.size < wq.heap.size) (fun i _ => m + 1 - (intOf i).toNat)
        case atStart => exact ⟨0, Nat.zero_le _, rfl, by simpa [Lib.joinTail] using hI2, hB2, hs2⟩
        case round =>
          obtain ⟨k, hk, rfl, hI, hB, hs⟩ := hrel
          by_cases hlk : k < m + 1
          · have dk : decide ((k : Int) < (m : Int) + 1) = true := by simp; omega
            have hck := HC2.out k hlk
            rw [← hB.cell hlt] at hck
            have HTk : Hid (x ++ Lib.joinTail [32] (Y.take (k + 1)) = (x ++ Lib.joinTail [32] (Y.take k)) ++ [32] ++ (Y[k]'(by rw [HYl.out]; exact hlk))) := by
              show _ = _
              rw [Lib.joinTail_take_succ [32] Y k _ (List.getElem?_eq_getElem (by rw [HYl.out]; exact hlk))]
              simp [List.append_assoc]
            have hz := HJl.out (k + 1)
            rw [← List.length_append, HTk.out, List.length_append, List.length_append] at hz
            generalize hZ : (Y[k]'(by rw [HYl.out]; exact hlk)) = z at *
            clear hZ HC2
            have HZ : Hid ((str z).size = z.length) := str_size _
            have hbc : (Lib.byteCells (x ++ Lib.joinTail [32] (Y.take k))).length = (x ++ Lib.joinTail [32] (Y.take k)).length := Lib.byteCells_length _
            have hlz : (x ++ Lib.joinTail [32] (Y.take k)).length + 1 + z.length ≤ 1000000 := hz
            generalize hP : x ++ Lib.joinTail [32] (Y.take k) = p at *
            clear hP hz
            have HBC : Hid ((Lib.byteCells p).length = p.length) := hbc
            clear hbc
            go_wp2_with fail
            refine (writeString_k w.heap.size w.heap.size _ ⟨#[32]⟩ _ hI (by rw [HBC.out]; show p.length + 1 ≤ _; omega) (by omega)).mono ?_
            rintro e w3 ⟨rfl, hI3, hb3, ok3⟩
            have hB3 := hB.trans hb3
            have hs3 := hb3.size
            rw [show Lib.strCells ⟨#[32]⟩ = Lib.byteCells [32] from rfl, bc_app] at hI3
            clear hb3 ok3 hI hB
            go_wp2_with fail
            refine (writeString_k w.heap.size w.heap.size _ (str z) _ hI3 (by rw [Lib.byteCells_length, List.length_append, HZ.out]; simp; omega) (by omega)).mono ?_
            rintro e w4 ⟨rfl, hI4, hb4, ok4⟩
            rw [bc_str, bc_app, ← HTk.out] at hI4
            have HI : Hid (IsB w.heap.size w.heap.size (Lib.byteCells (x ++ Lib.joinTail [32] (Y.take (k + 1)))) w4) := hI4
            have HB : Hid (Below w.heap.size w w4) := hB3.trans hb4
            have hs4 := hb4.size
            have hs4' : w.heap.size < w4.heap.size := by omega
            clear hb4 ok4 hI3 hB3 hI4
            go_wp2
            go_roundw
            case rel => exact ⟨k + 1, by omega, by simp, HI.out, HB.out, hs4'⟩
            case measure => simp [intOf]; omega
          · have hk' : k = m + 1 := by omega
            subst hk'
            have dk : decide (((m + 1 : Nat) : Int) < (m : Int) + 1) = false := by simp
            rw [List.take_of_length_le (by rw [HYl.out]; exact Nat.le_refl _), ← Lib.join_cons] at hI
            clear HC2 HTJ
            go_wp2_with fail
            refine (Tryz.Builder_String_any_k w.heap.size w.heap.size (Lib.join (x :: Y) [32]) _ hI (by omega)).mono ?_
            rintro e w5 ⟨rfl, hI5, hb5, ok5⟩
            have HB : Hid (Below w.heap.size w w5) := hB.trans hb5
            clear hI5 hb5 ok5 hI hB
            go_wp2
            go_ret
            exact ⟨rfl, HB.out⟩
end Go.Proofs.YtmfeoiblhjfpjaaGreatDoor
/- value.showText of any text: its walk. -/
namespace Go.Proofs.YtmfeoiblhjfpjaaGreatDoor
open Go.RowKit

def shws (l : List Nat) : List UInt8 := l.flatMap shR
theorem shR_len (c : Nat) : (shR c).length ≤ 6 := by
  unfold shR
  split
  · decide
  split
  · decide
  split
  · decide
  split
  · decide
  split
  · decide
  split
  · exact Nat.le_of_lt (by decide : 5 < 6)
  split
  · exact Nat.le_refl 6
  · have := enc_len4 c; omega
/-- What holds of showText's loop at every round. -/
def StRl (s : ByteArray) (w : World) (k0 : Nat) (wr : World) : Prop :=
  ∃ (pos : Nat) (acc : List UInt8), IsB w.heap.size w.heap.size (Lib.byteCells (34 :: acc)) wr ∧ wr.heap[k0]? = some (.stringIter s pos) ∧ Below w.heap.size w wr ∧ w.heap.size < wr.heap.size ∧ acc ++ shws (rns (s.data.toList.drop pos)) = shws (rns s.data.toList) ∧ acc.length ≤ 6 * pos

set_option maxRecDepth 100000 in
set_option maxHeartbeats 4000000 in
theorem showText_all (s : ByteArray) (w : World) (hs : s.size ≤ 1000000) (hT : T16 w) :
    Calls Tryz.prog 42 #[.string s] w fun e w' => e = .returned (.string (str (34 :: shws (rns s.data.toList) ++ [34]))) ∧ Below w.heap.size w w' := by
  go_enter Tryz.func42, Tryz.ntmps42
  go_wp2_with fail
  refine (writeByte_k w.heap.size w.heap.size [] 34 _ (Lib.IsBuilderF.of (Lib.fresh_isBuilder _ _ w)) (by simp) (by first | simp | omega | skip)).mono ?_
  rintro e w1 ⟨rfl, hI1, hb1, ok1⟩
  have hs1 := hb1.size
  have hs1' : w.heap.size < w1.heap.size := by first | omega | (simp at hs1; omega)
  have hB1 : Below w.heap.size w w1 := ((Below.refl _ _).alloc (Nat.le_refl _) _).trans hb1
  clear hb1 ok1 hs1
  go_wp2_with fail
  go_loopw [] (fun wr => StRl s w w1.heap.size wr) (fun wr => s.size - wr.iterPos w1.heap.size)
  case atStart =>
    exact ⟨0, [], IsB_alloc hI1 _, World.iter_heap w1 s 0, hB1.alloc (by omega) _, Nat.lt_of_lt_of_le hs1' ((Below.refl w1.heap.size w1).alloc (Nat.le_refl _) (.stringIter s 0)).size, rfl, Nat.le_refl _⟩
  case round =>
    obtain ⟨pos, acc, hI, hit, hbw, hws, hck, hal⟩ := hrel
    have HC : Hid (acc ++ shws (rns (s.data.toList.drop pos)) = shws (rns s.data.toList)) := hck
    clear hck
    have hsz : w1.heap.size < wr.heap.size := (Array.getElem?_eq_some_iff.1 hit).1
    by_cases hp : pos < s.size
    · have hnx : ∀ ty, (Instr.next (.pointer (some ⟨w1.heap.size, 0, none⟩)) true ty).run Tryz.prog wr = _ := fun ty => Lib.run_next_any_at wr w1.heap.size s pos ty hit hp
      have hwd := Lib.decode_width_pos s pos hp
      have hit2 := Lib.iterAt_heap wr w1.heap.size s pos (pos + (Utf8.decode s pos).2) hit
      have hbw2 := Lib.below_iterAt hbw (k := w1.heap.size) (by omega) s (pos + (Utf8.decode s pos).2)
      have hI2 := IsB_iter hI hit (pos + (Utf8.decode s pos).2)
      have hszI : (wr.iterAt w1.heap.size s (pos + (Utf8.decode s pos).2)).heap.size = wr.heap.size := Lib.iterAt_size ..
      have hrl := Lib.rune_le s pos
      have hrn : Hid (rns (s.data.toList.drop pos) = (Utf8.decode s pos).1 :: rns (s.data.toList.drop (pos + (Utf8.decode s pos).2))) := rns_at s pos hp
      have hsc : Hid (scal (Utf8.decode s pos).1) := rns_scal (s.data.toList.drop pos) _ (by rw [hrn.out]; simp)
      have hmeas : Hid (s.size - (pos + (Utf8.decode s pos).2) < s.size - wr.iterPos w1.heap.size) := by
        show _ < _
        rw [iterPos_of hit]; omega
      have hwl : pos + (Utf8.decode s pos).2 ≤ s.size := by
        have hne : s.data.toList.drop pos ≠ [] := by
          intro e
          have := congrArg List.length e
          rw [List.length_drop, Array.length_toList] at this
          have e2 : s.data.size = s.size := rfl
          simp at this
          omega
        have h1 := Lib.decodeL_le _ hne
        rw [Lib.decodeL_drop, List.length_drop, Array.length_toList] at h1
        have e2 : s.data.size = s.size := rfl
        omega
      generalize (Utf8.decode s pos).1 = c at *
      generalize (Utf8.decode s pos).2 = d at *
      generalize hW : wr.iterAt w1.heap.size s (pos + d) = W at *
      have hcl := shR_len c
      have HC2 : Hid ((acc ++ shR c) ++ shws (rns (s.data.toList.drop (pos + d))) = shws (rns s.data.toList)) := by
        show _ = _; rw [← HC.out, hrn.out]; simp [shws]
      clear HC hrn hW hI hbw
      go_wp2_with fail
      refine (showRune_all c _ hsc.out (T16_below hT hbw2)).mono ?_
      rintro e w3 ⟨rfl, hb3⟩
      have hI3 := IsB_below hI2 hb3
      have hit3 := (hb3.block _ (Array.getElem?_eq_some_iff.1 hit2).1).trans hit2
      have hbw3 := hbw2.trans (hb3.mono (by omega))
      have hs3 := hb3.size
      have hzs : (str (shR c)).size ≤ 6 := by rw [str_size]; exact hcl
      clear hb3 hI2 hit2 hbw2
      go_wp2_with fail
      refine (writeString_k w.heap.size w.heap.size _ (str (shR c)) _ hI3 (by rw [Lib.byteCells_length, List.length_cons]; omega) (by omega)).mono ?_
      rintro e w4 ⟨rfl, hI4, hb4, ok4⟩
      have hit4 : Hid (w4.heap[w1.heap.size]? = some (.stringIter s (pos + d))) := iter_kept ok4 hit3 (IsB_ne hI3 hit3)
      have hmW : Hid (w4.iterPos w1.heap.size = pos + d) := iterPos_of hit4.out
      have HI : Hid (IsB w.heap.size w.heap.size (Lib.byteCells (34 :: (acc ++ shR c))) w4) := by
        rw [Lib.strCells_eq, str_data, ← Lib.byteCells_append, List.cons_append] at hI4
        exact hI4
      have HB : Hid (Below w.heap.size w w4) := hbw3.trans hb4
      have hs4 := hb4.size
      clear hI4 hb4 ok4 hI3 hit3 hbw3
      go_wp2
      go_roundw
      case rel => exact ⟨pos + d, acc ++ shR c, HI.out, hit4.out, HB.out, by omega, HC2.out, by rw [List.length_append]; omega⟩
      case measure => rw [hmW.out]; exact hmeas.out
    · have hnx : ∀ ty, (Instr.next (.pointer (some ⟨w1.heap.size, 0, none⟩)) true ty).run Tryz.prog wr = _ := fun ty => Lib.run_next_end_at wr w1.heap.size s pos ty hit hp
      have HC2 : Hid (acc = shws (rns s.data.toList)) := by show _ = _; rw [← HC.out, rns_end s pos hp]; simp [shws]
      have hpl : acc.length ≤ 10000000 := by
        have h3 := rns_len_le s.data.toList.length s.data.toList
        have e : s.data.toList.length = s.size := Array.length_toList
        have h4 : (rns s.data.toList).length ≤ s.data.toList.length := h3
        have h5 : ∀ l : List Nat, (shws l).length ≤ 6 * l.length := by
          intro l
          induction l with
          | nil => simp [shws]
          | cons c l ih => have := shR_len c; simp only [shws, List.flatMap_cons, List.length_append, List.length_cons] at ih ⊢; omega
        have h6 := h5 (rns s.data.toList)
        rw [HC2.out]
        omega
      clear HC
      go_wp2_with fail
      refine (writeByte_k w.heap.size w.heap.size _ 34 _ hI (by rw [Lib.byteCells_length, List.length_cons]; omega) (by omega)).mono ?_
      rintro e w3 ⟨rfl, hI3, hb3, ok3⟩
      have hs3 := hb3.size
      have hI4 : IsB w.heap.size w.heap.size (Lib.byteCells (34 :: acc ++ [34])) w3 := by
        have := cells_byte (34 :: acc) 34
        rw [← this]
        exact hI3
      have hB3 := hbw.trans hb3
      clear hI3 hb3 ok3
      go_wp2_with fail
      refine (Tryz.Builder_String_any_k w.heap.size w.heap.size (34 :: acc ++ [34]) _ hI4 (by omega)).mono ?_
      rintro e w4 ⟨rfl, hI5, hb5, ok5⟩
      have HB : Hid (Below w.heap.size w w4) := hB3.trans hb5
      clear hI5 hb5 ok5 hI4
      go_wp2
      go_ret
      refine ⟨?_, HB.out⟩
      rw [← HC2.out]
      rfl

end Go.Proofs.YtmfeoiblhjfpjaaGreatDoor
/- The shelf's contract of strconv.Itoa, at this program, laid by the shelf's tool in plain words. -/
namespace Go.Proofs
open Go.Shelf
def Tryz.laysM171_ren : Go.Shelf.Ren := ⟨fun | 171 => 39 | 243 => 59 | 246 => 78 | 283 => 87 | 284 => 88 | 285 => 89 | 286 => 90 | 129 => 97 | 317 => 96 | 318 => 98 | 319 => 99 | 320 => 100 | 337 => 105 | 338 => 106 | n => n, fun | 3 => 3 | 9 => 9 | 2 => 2 | 4 => 4 | 171 => 113 | 0 => 0 | 53 => 74 | 37 => 63 | 5 => 5 | 173 => 116 | 212 => 123 | 51 => 110 | 20 => 20 | 213 => 124 | 46 => 57 | 232 => 136 | 233 => 137 | n => n, fun | 17 => 3 | 18 => 4 | 19 => 5 | n => n⟩
theorem Tryz.laysM171 : Go.Proofs.LaysM.n171 Tryz.prog Tryz.laysM171_ren := {
  mixed := by kernel_rfl
  f129 := Tryz.func97.trans (congrArg some (by kernel_rfl))
  f171 := Tryz.func39.trans (congrArg some (by kernel_rfl))
  f243 := Tryz.func59.trans (congrArg some (by kernel_rfl))
  f246 := Tryz.func78.trans (congrArg some (by kernel_rfl))
  f283 := Tryz.func87.trans (congrArg some (by kernel_rfl))
  f284 := Tryz.func88.trans (congrArg some (by kernel_rfl))
  f285 := Tryz.func89.trans (congrArg some (by kernel_rfl))
  f286 := Tryz.func90.trans (congrArg some (by kernel_rfl))
  f317 := Tryz.func96.trans (congrArg some (by kernel_rfl))
  f318 := Tryz.func98.trans (congrArg some (by kernel_rfl))
  f319 := Tryz.func99.trans (congrArg some (by kernel_rfl))
  f320 := Tryz.func100.trans (congrArg some (by kernel_rfl))
  f337 := Tryz.func105.trans (congrArg some (by kernel_rfl))
  f338 := Tryz.func106.trans (congrArg some (by kernel_rfl))
  t0 := Tryz.underlying0
  a0 := Tryz.isAgg0
  z0 := Tryz.sizeOf0
  v0 := Tryz.zeroValue0
  t2 := Tryz.underlying2
  a2 := Tryz.isAgg2
  z2 := Tryz.sizeOf2
  v2 := Tryz.zeroValue2
  t3 := Tryz.underlying3
  a3 := Tryz.isAgg3
  z3 := Tryz.sizeOf3
  v3 := Tryz.zeroValue3
  t4 := Tryz.underlying4
  a4 := Tryz.isAgg4
  z4 := Tryz.sizeOf4
  v4 := Tryz.zeroValue4
  t5 := Tryz.underlying5
  a5 := Tryz.isAgg5
  z5 := Tryz.sizeOf5
  v5 := Tryz.zeroValue5
  t9 := Tryz.underlying9
  a9 := Tryz.isAgg9
  z9 := Tryz.sizeOf9
  v9 := Tryz.zeroValue9
  t20 := Tryz.underlying20
  a20 := Tryz.isAgg20
  z20 := Tryz.sizeOf20
  v20 := Tryz.zeroValue20
  t37 := Tryz.underlying63
  a37 := Tryz.isAgg63
  z37 := Tryz.sizeOf63
  v37 := Tryz.zeroValue63
  t46 := Tryz.underlying57
  a46 := Tryz.isAgg57
  z46 := Tryz.sizeOf57
  v46 := Tryz.zeroValue57
  t51 := Tryz.underlying110
  a51 := Tryz.isAgg110
  z51 := Tryz.sizeOf110
  v51 := Tryz.zeroValue110
  t53 := Tryz.underlying74
  a53 := Tryz.isAgg74
  z53 := Tryz.sizeOf74
  v53 := Tryz.zeroValue74
  t171 := Tryz.underlying113
  a171 := Tryz.isAgg113
  z171 := Tryz.sizeOf113
  v171 := Tryz.zeroValue113
  t173 := Tryz.underlying116
  a173 := Tryz.isAgg116
  z173 := Tryz.sizeOf116
  v173 := Tryz.zeroValue116
  t212 := Tryz.underlying123
  a212 := Tryz.isAgg123
  z212 := Tryz.sizeOf123
  v212 := Tryz.zeroValue123
  t213 := Tryz.underlying124
  a213 := Tryz.isAgg124
  z213 := Tryz.sizeOf124
  t232 := Tryz.underlying136
  a232 := Tryz.isAgg136
  z232 := Tryz.sizeOf136
  v232 := Tryz.zeroValue136
  t233 := Tryz.underlying137
  a233 := Tryz.isAgg137
  z233 := Tryz.sizeOf137
  v233 := Tryz.zeroValue137
  g17 := by kernel_rfl
  g18 := by kernel_rfl
  g19 := by kernel_rfl
  i0 := by kernel_rfl
  i2 := by kernel_rfl
  i3 := by kernel_rfl
  i4 := by kernel_rfl
  i5 := by kernel_rfl
  i9 := by kernel_rfl
  i20 := by kernel_rfl
  i37 := by kernel_rfl
  i46 := by kernel_rfl
  i51 := by kernel_rfl
  i53 := by kernel_rfl
  i171 := by kernel_rfl
  i173 := by kernel_rfl
  i212 := by kernel_rfl
  i232 := by kernel_rfl
  i233 := by kernel_rfl
  m17 := by kernel_rfl
  m18 := by kernel_rfl
  m19 := by kernel_rfl }
open Go.RowKit in
theorem Tryz.strconv_Itoa (n : Int) (h0 : -9223372036854775808 ≤ n) (h1 : n ≤ 9223372036854775807) (w : World) (htab : Lib.TabIs Tryz.prog w "internal/strconv.uint64pow10" .u64 Lib.pow10Tab) :
    Calls Tryz.prog 39 #[.int .i64 n] w fun e w' => e = .returned (.string ⟨(Lib.itoa n).toArray⟩) ∧ ∃ k os, w' = Sort.grow (w.drewN k) os := Any.strconv_Itoa Tryz.laysM171 n h0 h1 w htab
end Go.Proofs
