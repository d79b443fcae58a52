/- The reference's Text of a view: its walk. -/
import Derived.Test.YtciibeldmcakeaaDoorVxC
import Derived.Test.YtciibeldmcakeaaDoorVwK
import Derived.Test.YtciibeldmcakeaaDoorRTb
import Derived.BigQuiet
import Derived.Deep.Quiet
namespace Go.Proofs.YtciibeldmcakeaaDoor
open Go.RowKit

/-- A region whose operations stand as a list, at a class of worlds of our own. -/
theorem region_quietX {P : Program} {C : World → Prop} {id : Nat} {Q : Exit → Act → World → Prop} {a : Act} {w : World} {l : List Oper} (hm : P.follows .mixedOrders = true) (hB : Region.lexB .any l.toArray = true) (hC : C { w with drawn := w.drawn + 1 })
    (h : wpQuiet P l.toArray C (fun a' => ∀ w', C w' → Q .normal a' w') l a) : (Code.region id l.toArray true).wp P Q a w := wp_region_quiet hm hB hC (by simpa using h)
theorem cat_list (a b : ByteArray) : (a ++ b).data.toList = a.data.toList ++ b.data.toList := by simp [ByteArray.data_append]
theorem num_list (n : Int) : (strOfNums (Q.numI n)).data.toList = Q.numL n := rfl
theorem itsV_step (ep : Int) (n : Nat) (l : List Mb) (m : Mb) : (itsV ep n (l ++ [m])).flatMap Q.itB = (itsV ep n l).flatMap Q.itB ++ (Q.numL m.nd ++ (Q.numL m.lf ++ [UInt8.ofNat (if m.up = true then (1 : Int) else 0).toNat])) := by
  simp [itsV, itM, Q.itB]
set_option maxRecDepth 100000 in
set_option maxHeartbeats 4000000 in
theorem refVText_any (ep : Int) (v : Value) (l : List Mb) (w : World) (hr : IsRow w 3 v l.length (mCells l)) (hl : l.length ≤ 1000000) :
    Calls Tryd.prog 9 #[vwV ep v] w fun e w' => e = .returned (.string (txV ep l)) ∧ Below w.heap.size w w' := by
  obtain ⟨a0, cap0, rfl⟩ := hr.form
  have HB0 : Hid (Below w.heap.size w (w.alloc (.cells #[.int .i64 ep, .slice a0 l.length cap0] 32))) := al_belowV w _
  have HC : Hid (Calls Tryd.prog 22 #[.agg #[.int .i64 ep, .slice a0 l.length cap0]] (w.alloc (.cells #[.int .i64 ep, .slice a0 l.length cap0] 32)) fun e w' => e = .returned (.bool (vB ep l)) ∧ Below (w.alloc (.cells #[.int .i64 ep, .slice a0 l.length cap0] 32)).heap.size (w.alloc (.cells #[.int .i64 ep, .slice a0 l.length cap0] 32)) w') := refCheck_any ep _ l _ (hr.below HB0.out) hl
  have HNm : Hid (∀ (n : Int) (W : World), Calls Tryd.prog 23 #[.int .i64 n] W fun e w' => e = .returned (.string (strOfNums (Q.numI n))) ∧ Below W.heap.size W w') := fun n W => Q.refNum_any n W
  have HR : Hid (∀ w', Below w.heap.size w w' → IsRow w' 3 (.slice a0 l.length cap0) l.length (mCells l)) := fun w' h => hr.below h
  clear hr
  go_enter Tryd.func9, Tryd.ntmps9
  go_wp2_with fail
  refine HC.out.mono ?_
  rintro e w1 ⟨rfl, hb1⟩
  have HB1 : Hid (Below w.heap.size w w1) := HB0.out.trans (hb1.mono HB0.out.size)
  have h0 : w1.heap[w.heap.size]? = some (.cells #[.int .i64 ep, .slice a0 l.length cap0] 32 (0, 0)) := (hb1.block _ (by simp)).trans (alloc_top w _)
  have hg1 := (heap_at h0).2.2
  have HV : Hid (∀ W, Below w1.heap.size w1 W → W.cell? ⟨w.heap.size, 0, none⟩ = some (.int .i64 ep) ∧ W.cell? ⟨w.heap.size, 1, none⟩ = some (.slice a0 l.length cap0)) := fun W h => by
    have h2 := two_V ((h.block _ hg1).trans h0)
    exact ⟨h2.1, h2.2.1⟩
  have hs1 := HB1.out.size
  clear hb1 HC HB0 h0
  by_cases hv : VwP ep l
  · have hvb : vB ep l = true := vB_true hv
    rw [hvb]
    have HE : Hid (txV ep l = ⟨((itsV ep l.length l).flatMap Q.itB).toArray⟩) := if_pos hvb
    have h15 := hv.len
    clear hvb hv
    obtain ⟨C, hC⟩ : ∃ C : World → Prop, C = fun W => Below w1.heap.size w1 W := ⟨_, rfl⟩
    have HCV : Hid (∀ W, C W → W.cell? ⟨w.heap.size, 0, none⟩ = some (.int .i64 ep) ∧ W.cell? ⟨w.heap.size, 1, none⟩ = some (.slice a0 l.length cap0)) := by subst hC; exact HV
    have HCR : Hid (∀ W, C W → IsRow W 3 (.slice a0 l.length cap0) l.length (mCells l)) := by subst hC; exact fun W h => HR.out W (HB1.out.trans (h.mono hs1))
    have HCC : Hid (∀ W W', C W → Below W.heap.size W W' → C W') := by subst hC; exact fun W W' h hb => h.trans (hb.mono h.size)
    have HCB : Hid (∀ W, C W → Below w.heap.size w W) := by subst hC; exact fun W h => HB1.out.trans (h.mono hs1)
    have HC1 : Hid (C w1.drew) := by subst hC; exact (Below.refl _ _).drew
    have HCd : Hid (∀ W, C W → C W.drew) := by subst hC; exact fun W h => h.drew
    clear hC HV HR HB1
    have z1 := Q.num_size_le ep
    have z2 := Q.num_size_le (l.length : Int)
    have HX0 : Hid ((strOfNums (Q.numI ep) ++ strOfNums (Q.numI (l.length : Int))).data.toList = (itsV ep l.length []).flatMap Q.itB) := by
      show _ = _
      rw [cat_list, num_list, num_list]
      simp [itsV, Q.itB]
    have l1 : ¬ 9223372036854775807 < (strOfNums (Q.numI ep)).size + (strOfNums (Q.numI (l.length : Int))).size := by omega
    have hX1 : (strOfNums (Q.numI ep) ++ strOfNums (Q.numI (l.length : Int))).size ≤ 16 := by rw [ByteArray.size_append]; omega
    go_wp2_with fail
    refine region_quietX (C := C) (by kernel_rfl) (by kernel_rfl) HC1.out ?_
    try simp only [List.append]
    repeat (first
      | go_big_quiet_skip
      | (go_big_quiet_want
         apply Exists.intro
         refine ⟨fun W' hW' => ?_, ?_⟩
         · obtain ⟨g0, g1⟩ := HCV.out W' hW'
           go_simp
           first
             | done
             | rfl
             | (go_at_call 23; refine (HNm.out _ W').mono ?_; rintro e w'' ⟨rfl, hb⟩; exact ⟨rfl, HCC.out _ _ hW' hb⟩)
         go_big_quiet_on
         try simp only [Act.put, List.setIfInBounds_toArray, List.set_cons_zero, List.set_cons_succ]))
    refine wpQuiet_nil ?_
    intro w2 hS2
    have HC2 : Hid (C w2) := hS2
    clear hS2
    generalize strOfNums (Q.numI ep) ++ strOfNums (Q.numI (l.length : Int)) = X0 at *
    go_wp2_with fail
    go_loopw [3, 4] (fun x i wr => ∃ (k : Nat) (X : ByteArray), k ≤ l.length ∧ x = .string X ∧ i = .int .i64 (k : Int) ∧ X.size ≤ 16 + 17 * k ∧ Hid (X.data.toList = (itsV ep l.length (l.take k)).flatMap Q.itB) ∧ Hid (C wr)) (fun _ i _ => l.length - (intOf i).toNat)
    case atStart => exact ⟨0, X0, Nat.zero_le _, rfl, rfl, by omega, HX0, HC2⟩
    case round =>
      clear HX0 HC2 hX1 HC1 l1 z1 z2
      obtain ⟨k, X, hk, rfl, rfl, hXs, HX, HCr⟩ := hrel
      obtain ⟨p0, p1⟩ := HCV.out wr HCr.out
      by_cases hlk : k < l.length
      · have dk : decide (k < l.length) = true := by simp; omega
        have i1 : (0 : Int) ≤ (k : Int) := by omega
        have i2 : (k : Int) < (l.length : Int) := by omega
        have wk : IntKind.i64.wrap ((k : Int) + 1) = (k : Int) + 1 := wrapI (by omega) (by omega)
        have HTt : Hid (l.take (k + 1) = l.take k ++ [l[k]]) := List.take_succ_eq_append_getElem hlk
        obtain ⟨b, off, cap, hvv, hlt, hc1, hc2, -⟩ := mb_at (HCR.out _ HCr.out) hlk
        obtain ⟨rfl, -, rfl⟩ := Value.slice.inj hvv
        have HM : Hid (∀ W, C W → W.cell? ⟨b, off + k * 3, none⟩ = some (.int .i64 l[k].nd) ∧ W.cell? ⟨b, off + k * 3 + 1, none⟩ = some (.int .i64 l[k].lf) ∧ W.cell? ⟨b, off + k * 3 + 2, none⟩ = some (.bool l[k].up)) := fun W h => by
          obtain ⟨b', off', cap', hv', -, -, -, c0, c1, c2⟩ := mb_at (HCR.out _ h) hlk
          obtain ⟨h1, -, -⟩ := Value.slice.inj hv'
          simp at h1
          obtain ⟨rfl, rfl⟩ := h1
          exact ⟨c0, c1, c2⟩
        generalize l[k]'hlk = m at *
        obtain ⟨mn, ml, mu⟩ := m
        dsimp only at *
        have z1 := Q.num_size_le mn
        have z2 := Q.num_size_le ml
        have HY : Hid (∀ u : UInt8, u = UInt8.ofNat (if mu = true then (1 : Int) else 0).toNat → (X ++ strOfNums (Q.numI mn) ++ strOfNums (Q.numI ml) ++ ⟨#[u]⟩).data.toList = (itsV ep l.length (l.take (k + 1))).flatMap Q.itB) := fun u hu => by
          rw [HTt.out, itsV_step, cat_list, cat_list, cat_list, num_list, num_list, HX.out, hu]
          simp
        have l1 : ¬ 9223372036854775807 < X.size + (strOfNums (Q.numI mn)).size := by omega
        have l2 : ¬ 9223372036854775807 < X.size + (strOfNums (Q.numI mn)).size + (strOfNums (Q.numI ml)).size := by omega
        have l3 : ¬ 9223372036854775807 < X.size + (strOfNums (Q.numI mn)).size + (strOfNums (Q.numI ml)).size + 1 := by omega
        have HC1 : Hid (C wr.drew) := HCd.out _ HCr.out
        have hZ : (X ++ strOfNums (Q.numI mn) ++ strOfNums (Q.numI ml)).size = X.size + (strOfNums (Q.numI mn)).size + (strOfNums (Q.numI ml)).size := by rw [ByteArray.size_append, ByteArray.size_append]
        clear HTt HX hvv
        go_wp2_with fail
        refine region_quietX (C := C) (by kernel_rfl) (by kernel_rfl) HC1.out ?_
        try simp only [List.append]
        repeat (first
          | go_big_quiet_skip
          | (go_big_quiet_want
             apply Exists.intro
             refine ⟨fun W' hW' => ?_, ?_⟩
             · obtain ⟨g0, g1⟩ := HCV.out W' hW'
               obtain ⟨g2, g3, g4⟩ := HM.out W' hW'
               go_simp
               first
                 | done
                 | rfl
                 | (go_at_call 23; refine (HNm.out _ W').mono ?_; rintro e w'' ⟨rfl, hb⟩; exact ⟨rfl, HCC.out _ _ hW' hb⟩)
             go_big_quiet_on
             try simp only [Act.put, List.setIfInBounds_toArray, List.set_cons_zero, List.set_cons_succ]))
        refine wpQuiet_nil ?_
        intro w3 hS3
        have HC3 : Hid (C w3) := hS3
        clear p0 p1
        obtain ⟨p0, p1⟩ := HCV.out w3 hS3
        obtain ⟨g2, g3, g4⟩ := HM.out w3 hS3
        clear hS3 HM HC1 HCr l1 l2
        generalize X ++ strOfNums (Q.numI mn) ++ strOfNums (Q.numI ml) = Z at *
        cases mu
        · have HY2 := HY.out 0 rfl
          have HY3 : Hid _ := HY2
          have l4 : ¬ 9223372036854775807 < Z.size + 1 := by omega
          clear HY HY2
          go_wp2_with fail
          go_roundw
          case rel => exact ⟨k + 1, _, by omega, rfl, by simp, by rw [ByteArray.size_append]; show Z.size + 1 ≤ _; omega, HY3, HC3⟩
          case measure => simp [intOf]; omega
        · have HY2 := HY.out 1 rfl
          have HY3 : Hid _ := HY2
          have l4 : ¬ 9223372036854775807 < Z.size + 1 := by omega
          clear HY HY2
          go_wp2_with fail
          go_roundw
          case rel => exact ⟨k + 1, _, by omega, rfl, by simp, by rw [ByteArray.size_append]; show Z.size + 1 ≤ _; omega, HY3, HC3⟩
          case measure => simp [intOf]; omega
      · obtain rfl : k = l.length := by omega
        have dk : decide (l.length < l.length) = false := by simp
        have hX := HX.out
        rw [List.take_of_length_le (Nat.le_refl _)] at hX
        have HE2 : Hid (txV ep l = X) := by
          show _ = _
          rw [HE.out]
          apply Q.ba_of
          show ((itsV ep l.length l).flatMap Q.itB).toArray.toList = X.data.toList
          rw [hX]
        have HBf : Hid (Below w.heap.size w wr) := HCB.out _ HCr.out
        clear HX hX HE
        go_wp2
        go_ret
        exact ⟨by rw [HE2.out]; rfl, HBf.out⟩
  · have hvb : vB ep l = false := vB_false hv
    rw [hvb]
    have HE : Hid (txV ep l = e0) := if_neg (by rw [hvb]; decide)
    clear hvb hv HV HR
    go_wp2
    go_ret
    exact ⟨by rw [HE.out]; rfl, HB1.out⟩
end Go.Proofs.YtciibeldmcakeaaDoor
