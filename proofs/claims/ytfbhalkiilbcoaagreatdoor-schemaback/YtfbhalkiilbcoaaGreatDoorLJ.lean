/- (*strings.Builder).Grow at a builder of the call's own, strings.Join with a comma and a blank between: walks. -/
import Derived.Test.YtfbhalkiilbcoaaGreatDoorVB
import Derived.Test.YtfbhalkiilbcoaaGreatDoorU3
import Derived.Test.YtfbhalkiilbcoaaGreatDoorND
import Derived.Test.YtfbhalkiilbcoaaGreatDoorShelf
import Derived.Test.YtfbhalkiilbcoaaGreatDoorJShelf
import Derived.Lib.Join
import Derived.RegionTactic
namespace Go.Proofs.YtfbhalkiilbcoaaGreatDoor
open Go.RowKit

set_option maxRecDepth 100000 in
set_option maxHeartbeats 1000000 in
theorem grow_new (b n : Nat) (w : World) (hbk : w.heap[b]? = some (.cells #[.pointer none, .slice none 0 0] 73 (0, 0))) (h0 : 0 < n) (hn : n ≤ 1000000000) :
    Calls Tryz.prog 50 #[.pointer (some ⟨b, 0, none⟩), .int .i64 n] w fun e w' => e = .returned (.tuple #[]) ∧ IsB b b [] w' ∧ Below b w w' := by
  have hlt : b < w.heap.size := (Array.getElem?_eq_some_iff.1 hbk).1
  have hat : Lib.BuilderAtF 73 5 b b (.pointer none) [] w := Lib.BuilderAtF.of ⟨Nat.le_refl _, .slice none 0 0, hbk, World.ownsRow_nil _ _ _ _, by simp [Value.ownBlock]⟩
  have hb0 : Below b w (w.setCell ⟨b, 0, none⟩ (.pointer (some ⟨b, 0, none⟩))) := (Below.refl b w).setCell (p := ⟨b, 0, none⟩) (Nat.le_refl _) _
  have hbk2 : (w.setCell ⟨b, 0, none⟩ (.pointer (some ⟨b, 0, none⟩))).heap[b]? = some (.cells #[.pointer (some ⟨b, 0, none⟩), .slice none 0 0] 73 (0, 0)) := by
    simp [World.setCell, Array.getElem?_modify, hbk]
  have d0 : decide ((n : Int) < 0) = false := by simp
  have d1 : decide ((0 : Int) < n) = true := by simp; omega
  go_enter Tryz.func50, Tryz.ntmps50
  go_wp2_with fail
  refine (copyCheck_fresh b w hat.cell0 hat.shape hat.frozen0).mono ?_
  rintro e w1 ⟨rfl, rfl⟩
  generalize w.setCell ⟨b, 0, none⟩ (.pointer (some ⟨b, 0, none⟩)) = W at *
  have hs := hb0.size
  have c1 : W.cell? ⟨b, 1, none⟩ = some (.slice none 0 0) := by rw [Lib.cell_of_heap hbk2]; rfl
  go_wp2_with fail
  go_region
  go_wp2_with fail
  refine (Tryz.Builder_grow_fresh b b n W.drew (Nat.le_refl _) hbk2 (by show b ≤ W.heap.size; omega) (by omega)).mono ?_
  rintro e w2 ⟨rfl, h2, hb2⟩
  have HB : Hid (Below b w w2) := hb0.trans (Below.trans (by exact (Below.refl b W).drew) hb2)
  go_wp2
  go_end0
  exact ⟨rfl, .inr (Lib.BuilderAtF.of h2), HB.out⟩
/-- The strings of a row. -/
def sCells (xs : List (List UInt8)) : List Value := xs.map fun x => .string (str x)
theorem sCells_at {w : World} {a : Option Addr} {cap : Nat} {xs : List (List UInt8)} (h : IsRow w 1 (.slice a xs.length cap) xs.length (sCells xs)) (h0 : 0 < xs.length) :
    ∃ b off, a = some ⟨b, off, none⟩ ∧ b < w.heap.size ∧ xs.length ≤ cap ∧ ∀ (k : Nat) (hk : k < xs.length), w.cell? ⟨b, off + k, none⟩ = some (.string (str xs[k])) := by
  obtain ⟨b, off, cap', hv, hlt, q1, q2, hc⟩ := h.open (by omega)
  simp only [Value.slice.injEq] at hv
  exact ⟨b, off, hv.1, hlt, by omega, fun k hk => hc k _ (by simp [sCells, hk])⟩
theorem bc_str (l : List UInt8) : Lib.strCells (str l) = Lib.byteCells l := rfl
theorem bc_app (l m : List UInt8) : Lib.byteCells l ++ Lib.byteCells m = Lib.byteCells (l ++ m) := by simp [Lib.byteCells]
theorem join_len (x : List UInt8) (r : List (List UInt8)) : (Lib.join (x :: r) [44, 32]).length = 2 * r.length + Lib.lens (x :: r) := by
  rw [Lib.join_cons, List.length_append, Lib.joinTail_length]
  simp [Lib.lens]
  omega
set_option maxRecDepth 100000 in
set_option maxHeartbeats 4000000 in
theorem join_any (v : Value) (xs : List (List UInt8)) (w : World) (hr : IsRow w 1 v xs.length (sCells xs)) (hn : xs.length ≤ 1000) (hlen : (Lib.join xs [44, 32]).length ≤ 1000000) :
    Calls Tryz.prog 29 #[v, .string ⟨#[44, 32]⟩] w fun e w' => e = .returned (.string (str (Lib.join xs [44, 32]))) ∧ Below w.heap.size w w' := by
  obtain ⟨a0, cap0, rfl⟩ := hr.form
  match xs, hr, hn, hlen with
  | [], hr, _, _ =>
    go_enter Tryz.func29, Tryz.ntmps29
    go_wp2
    go_ret
    exact ⟨rfl, Below.refl _ _⟩
  | [x], hr, _, _ =>
    obtain ⟨b, off, rfl, hlt, hcap, hc⟩ := sCells_at hr (by simp)
    have c0 : w.cell? ⟨b, off, none⟩ = some (.string (str x)) := hc 0 (by simp)
    clear hc hr
    rw [Lib.join_one]
    go_enter Tryz.func29, Tryz.ntmps29
    go_wp2
    go_ret
    exact ⟨rfl, Below.refl _ _⟩
  | x :: y :: r, hr, hn, hlen =>
    obtain ⟨b, off, rfl, hlt, hcap, hc⟩ := sCells_at hr (by simp)
    have HC : Hid (∀ (k : Nat) (hk : k < (x :: y :: r).length), w.cell? ⟨b, off + k, none⟩ = some (.string (str (x :: y :: r)[k]))) := hc
    clear hc hr
    have hJ := join_len x (y :: r)
    obtain ⟨m, hm⟩ : ∃ m, m = r.length := ⟨_, rfl⟩
    have hL : (x :: y :: r).length = m + 2 := by rw [hm]; rfl
    have hL' : (y :: r).length = m + 1 := by rw [hm]; rfl
    rw [hL] at hn hcap ⊢
    rw [hL'] at hJ
    generalize hX : x :: y :: r = xs at *
    have HX : Hid (xs = x :: y :: r) := hX.symm
    have HJ : Hid ((Lib.join xs [44, 32]).length = 2 * (m + 1) + Lib.lens xs) := hJ
    have hle := Lib.lens_take_le xs
    have hS : Lib.lens xs ≤ 1000000 := by omega
    clear hX hm hJ hL'
    have e1 : ((m : Int) + 2 - 1) = m + 1 := by omega
    have q1 : decide ((9223372036854775807 : Int) / ((m : Int) + 1) ≤ 2) = false := by
      simp only [decide_eq_false_iff_not, Int.not_le]
      have : (3 : Int) ≤ 9223372036854775807 / ((m : Int) + 1) := Int.le_ediv_of_mul_le (by omega) (by omega)
      omega
    go_enter Tryz.func29, Tryz.ntmps29
    go_wp2_with fail
    go_loopw [5, 41] (fun n i wr => ∃ k t : Nat, k ≤ m + 2 ∧ i = .int .i64 (k : Int) ∧ n = .int .i64 (t : Int) ∧ Hid (t = 2 * (m + 1) + Lib.lens (xs.take k)) ∧ t ≤ 2000000 ∧ w = wr) (fun _ i _ => m + 2 - (intOf i).toNat)
    case atStart => exact ⟨0, 2 * (m + 1), by omega, rfl, by simp, by show _ = _; simp [Lib.lens], by omega, rfl⟩
    case round =>
      obtain ⟨k, t, hk, rfl, rfl, HT, ht, rfl⟩ := hrel
      by_cases hlk : k < m + 2
      · have hck := HC.out k (by omega)
        have hls := Lib.lens_take_succ xs k xs[k] (by simp [hL, hlk])
        have hl2 := hle (k + 1)
        have hz : (str xs[k]).size = xs[k].length := str_size _
        have dk : decide ((k : Int) < (m : Int) + 2) = true := by simp; omega
        have ht1 := HT.out
        have HT2 : Hid (t + (str xs[k]).size = 2 * (m + 1) + Lib.lens (xs.take (k + 1))) := by show _ = _; omega
        have ht2 : t + (str xs[k]).size ≤ 2000000 := by omega
        generalize str xs[k] = z at *
        have dz : decide ((9223372036854775807 : Int) - t < z.size) = false := by simp; omega
        clear hls hl2 hz ht1 HC hle
        go_wp2
        exact ⟨⟨k + 1, t + z.size, by omega, by simp, by simp, HT2, ht2, trivial⟩, by simp [intOf]; omega⟩
      · have hk' : k = m + 2 := by omega
        subst hk'
        have ht1 := HT.out
        rw [List.take_of_length_le (by omega)] at ht1
        have HTJ : Hid (t = (Lib.join xs [44, 32]).length) := by show _ = _; rw [HJ.out]; exact ht1
        have ht0 : 0 < t := by omega
        have ht9 : t ≤ 1000000000 := by omega
        clear ht1 HT ht hk hlk
        obtain ⟨Y, HY⟩ : ∃ Y, Hid (Y = y :: r) := ⟨_, rfl⟩
        have HYl : Hid (Y.length = m + 1) := by show _ = _; have := congrArg List.length HX.out; rw [HY.out]; simp at this ⊢; omega
        have hXY : xs = x :: Y := by rw [HY.out]; exact HX.out
        subst hXY
        have c0 : w.cell? ⟨b, off, none⟩ = some (.string (str x)) := HC.out 0 (by simp)
        have HC2 : Hid (∀ (k : Nat) (hk : k < m + 1), w.cell? ⟨b, off + 1 + k, none⟩ = some (.string (str (Y[k]'(by rw [HYl.out]; exact hk))))) := fun k hk => by
          have := HC.out (k + 1) (by rw [List.length_cons, HYl.out]; omega)
          rw [show off + (k + 1) = off + 1 + k by omega] at this
          simpa using this
        have HJl : Hid (∀ k, x.length + (Lib.joinTail [44, 32] (Y.take k)).length ≤ 1000000) := fun k => by
          have e := congrArg List.length (Lib.join_cons x Y [44, 32])
          have := Lib.joinTail_take_le [44, 32] Y k
          rw [List.length_append] at e
          omega
        have HXs : Hid ((str x).size = x.length) := str_size _
        have hxz : (str x).size ≤ 1000000 := by have := HJl.out 0; rw [HXs.out]; omega
        have dm : decide ((m : Int) + 2 < m + 2) = false := by simp
        clear HC HX HJ hle hL hlen
        go_wp2_with fail
        refine (grow_new w.heap.size t _ (heap_alloc_new w _) ht0 ht9).mono ?_
        rintro e w1 ⟨rfl, hI1, hb1⟩
        have hB1 : Below w.heap.size w w1 := ((Below.refl _ _).alloc (Nat.le_refl _) _).trans hb1
        have hs1 : w.heap.size < w1.heap.size := by have := hb1.size; simp at this; omega
        have c1 : w1.cell? ⟨b, off, none⟩ = some (.string (str x)) := by rw [hB1.cell hlt]; exact c0
        clear hb1
        go_wp2_with fail
        refine (writeString_k w.heap.size w.heap.size [] (str x) _ hI1 (by simp; omega) (by omega)).mono ?_
        rintro e w2 ⟨rfl, hI2, hb2, ok2⟩
        have hB2 : Below w.heap.size w w2 := hB1.trans hb2
        have hs2 : w.heap.size < w2.heap.size := by have := hb2.size; omega
        rw [bc_str, List.nil_append] at hI2
        clear hb2 ok2 hI1 hB1 c1
        go_wp2_with fail
        go_loopw [65] (fun i wq => ∃ k : Nat, k ≤ m + 1 ∧ i = .int .i64 (k : Int) ∧ IsB w.heap.size w.heap.size (Lib.byteCells (x ++ Lib.joinTail [44, 32] (Y.take k))) wq ∧ Below w.heap.size w wq ∧ w.heap.size < wq.heap.size) (fun i _ => m + 1 - (intOf i).toNat)
        case atStart => exact ⟨0, Nat.zero_le _, rfl, by simpa [Lib.joinTail] using hI2, hB2, hs2⟩
        case round =>
          obtain ⟨k, hk, rfl, hI, hB, hs⟩ := hrel
          by_cases hlk : k < m + 1
          · have dk : decide ((k : Int) < (m : Int) + 1) = true := by simp; omega
            have hck := HC2.out k hlk
            rw [← hB.cell hlt] at hck
            have HTk : Hid (x ++ Lib.joinTail [44, 32] (Y.take (k + 1)) = (x ++ Lib.joinTail [44, 32] (Y.take k)) ++ [44, 32] ++ (Y[k]'(by rw [HYl.out]; exact hlk))) := by
              show _ = _
              rw [Lib.joinTail_take_succ [44, 32] Y k _ (List.getElem?_eq_getElem (by rw [HYl.out]; exact hlk))]
              simp [List.append_assoc]
            have hz := HJl.out (k + 1)
            rw [← List.length_append, HTk.out, List.length_append, List.length_append] at hz
            generalize hZ : (Y[k]'(by rw [HYl.out]; exact hlk)) = z at *
            clear hZ HC2
            have HZ : Hid ((str z).size = z.length) := str_size _
            have hbc : (Lib.byteCells (x ++ Lib.joinTail [44, 32] (Y.take k))).length = (x ++ Lib.joinTail [44, 32] (Y.take k)).length := Lib.byteCells_length _
            have hlz : (x ++ Lib.joinTail [44, 32] (Y.take k)).length + 2 + z.length ≤ 1000000 := hz
            generalize hP : x ++ Lib.joinTail [44, 32] (Y.take k) = p at *
            clear hP hz
            have HBC : Hid ((Lib.byteCells p).length = p.length) := hbc
            clear hbc
            go_wp2_with fail
            refine (writeString_k w.heap.size w.heap.size _ ⟨#[44, 32]⟩ _ hI (by rw [HBC.out]; show p.length + 2 ≤ _; omega) (by omega)).mono ?_
            rintro e w3 ⟨rfl, hI3, hb3, ok3⟩
            have hB3 := hB.trans hb3
            have hs3 := hb3.size
            rw [show Lib.strCells ⟨#[44, 32]⟩ = Lib.byteCells [44, 32] from rfl, bc_app] at hI3
            clear hb3 ok3 hI hB
            go_wp2_with fail
            refine (writeString_k w.heap.size w.heap.size _ (str z) _ hI3 (by rw [Lib.byteCells_length, List.length_append, HZ.out]; simp; omega) (by omega)).mono ?_
            rintro e w4 ⟨rfl, hI4, hb4, ok4⟩
            rw [bc_str, bc_app, ← HTk.out] at hI4
            have HI : Hid (IsB w.heap.size w.heap.size (Lib.byteCells (x ++ Lib.joinTail [44, 32] (Y.take (k + 1)))) w4) := hI4
            have HB : Hid (Below w.heap.size w w4) := hB3.trans hb4
            have hs4 := hb4.size
            have hs4' : w.heap.size < w4.heap.size := by omega
            clear hb4 ok4 hI3 hB3 hI4
            go_wp2
            go_roundw
            case rel => exact ⟨k + 1, by omega, by simp, HI.out, HB.out, hs4'⟩
            case measure => simp [intOf]; omega
          · have hk' : k = m + 1 := by omega
            subst hk'
            have dk : decide (((m + 1 : Nat) : Int) < (m : Int) + 1) = false := by simp
            rw [List.take_of_length_le (by rw [HYl.out]; exact Nat.le_refl _), ← Lib.join_cons] at hI
            clear HC2 HTJ
            go_wp2_with fail
            refine (Tryz.Builder_String_any_k w.heap.size w.heap.size (Lib.join (x :: Y) [44, 32]) _ hI (by omega)).mono ?_
            rintro e w5 ⟨rfl, hI5, hb5, ok5⟩
            have HB : Hid (Below w.heap.size w w5) := hB.trans hb5
            clear hI5 hb5 ok5 hI hB
            go_wp2
            go_ret
            exact ⟨rfl, HB.out⟩
end Go.Proofs.YtfbhalkiilbcoaaGreatDoor
