/- wire: partsMayBe at a message of the examples: a walk. -/
import Derived.Test.YtoplpohpodkpdaaGreatDoorZk4
import Derived.Deep.DeepCutAuto
import Derived.Deep.CutBlock
import Derived.Test.YtoplpohpodkpdaaGreatDoorZk3
namespace Go.Proofs.YtoplpohpodkpdaaGreatDoor
open Go.RowKit

set_option maxRecDepth 100000 in
set_option maxHeartbeats 8000000 in
theorem parts_c (k ep a b c : Int) (s : ByteArray) (hs : Int → Bool) (w : World) (h : MsgOk (msgC k ep a b c s) hs w) (h1 : 1 ≤ k) (h2 : k ≤ 14) (h3 : cntI ep = true) :
    Calls Tryz.prog 23 #[.agg (msgC k ep a b c s)] w fun e w' => e = .returned (.bool true) ∧ Below w.heap.size w w' := by
  have HI : Hid (∀ W, Calls Tryz.prog 31 #[.int .i64 k] W fun e w' => e = .returned (.bool true) ∧ w' = W) := fun W => isKindW_any k W h1 h2
  have HN : Hid (∀ W, Calls Tryz.prog 16 #[.int .i64 ep] W fun e w' => e = .returned (.bool true) ∧ w' = W) := fun W => by
    have h0 := countsW_any ep W
    rw [h3] at h0
    exact h0
  have HM : Hid (MsgOk (msgC k ep a b c s) hs w) := h
  clear h h1 h2 h3
  obtain ⟨w1, hw1⟩ : ∃ w1, w1 = w.alloc (.cells (msgC k ep a b c s) 45) := ⟨_, rfl⟩
  have B1 : Hid (Below w.heap.size w w1) := by show Below _ _ _; rw [hw1]; exact al_f _ _
  have hk : w1.heap[w.heap.size]? = some (.cells (msgC k ep a b c s) 45 (0, 0)) := by rw [hw1]; exact nw_at _ _
  have HK : Hid (∀ W, Below w1.heap.size w1 W → W.heap[w.heap.size]? = some (.cells (msgC k ep a b c s) 45 (0, 0))) := fun W hb => (hb.block _ (Array.getElem?_eq_some_iff.1 hk).1).trans hk
  have c0 : w1.cell? ⟨w.heap.size, 0, none⟩ = some (.int .i64 k) := by rw [Lib.cell_of_heap hk]; rfl
  have c1 : w1.cell? ⟨w.heap.size, 1, none⟩ = some (.int .i64 ep) := by rw [Lib.cell_of_heap hk]; rfl
  clear hk
  rw [hw1] at c0 c1
  go_enter Tryz.func23, Tryz.ntmps23
  go_wp2_with fail
  rw [← hw1]
  refine (HI.out _).mono ?_
  rintro e w1 ⟨rfl, rfl⟩
  rw [← hw1] at c1
  clear HI c0 hw1
  go_wp2_with fail
  refine (HN.out _).mono ?_
  rintro e w1 ⟨rfl, rfl⟩
  clear HN c1
  go_wp2_with fail
  go_loopw [3] (fun i wr => ∃ p : Int, (p ∈ pts ∨ p = 512) ∧ i = .int .i64 p ∧ Hid (Below w1.heap.size w1 wr)) (fun i _ => 512 - (intOf i).toNat)
  case atStart => exact ⟨1, .inl (by decide), rfl, Below.refl _ _⟩
  case round =>
    obtain ⟨p, hp, rfl, HB⟩ := hrel
    have HBw : Hid (Below w.heap.size w wr) := bT B1.out HB.out
    as_aux_lemma =>
      rcases hp with hp | rfl
      rotate_left
      · go_wp2
        go_ret
        exact ⟨rfl, HBw.out⟩
      have hlt := (pts_lt hp).2
      have hge := (pts_lt hp).1
      have d1 : decide (p < 512) = true := decide_eq_true hlt
      have HP : Hid (p ∈ pts) := hp
      have hk := HK.out wr HB.out
      have c0 : wr.cell? ⟨w.heap.size, 0, none⟩ = some (.int .i64 k) := by rw [Lib.cell_of_heap hk]; rfl
      have c1 : wr.cell? ⟨w.heap.size, 1, none⟩ = some (.int .i64 ep) := by rw [Lib.cell_of_heap hk]; rfl
      have c2 : wr.cell? ⟨w.heap.size, 2, none⟩ = some (.int .i64 a) := by rw [Lib.cell_of_heap hk]; rfl
      have c3 : wr.cell? ⟨w.heap.size, 3, none⟩ = some (.int .i64 b) := by rw [Lib.cell_of_heap hk]; rfl
      have c4 : wr.cell? ⟨w.heap.size, 4, none⟩ = some (.int .i64 c) := by rw [Lib.cell_of_heap hk]; rfl
      have c5 : wr.cell? ⟨w.heap.size, 5, none⟩ = some (.int .i64 0) := by rw [Lib.cell_of_heap hk]; rfl
      have c6 : wr.cell? ⟨w.heap.size, 6, none⟩ = some (.string s) := by rw [Lib.cell_of_heap hk]; rfl
      have c7 : wr.cell? ⟨w.heap.size, 7, none⟩ = some (.string ⟨#[]⟩) := by rw [Lib.cell_of_heap hk]; rfl
      have c8 : wr.cell? ⟨w.heap.size, 8, none⟩ = some (.int .i64 0) := by rw [Lib.cell_of_heap hk]; rfl
      have c9 : wr.cell? ⟨w.heap.size, 9, none⟩ = some (.slice none 0 0) := by rw [Lib.cell_of_heap hk]; rfl
      have c10 : wr.cell? ⟨w.heap.size, 10, none⟩ = some (.slice none 0 0) := by rw [Lib.cell_of_heap hk]; rfl
      have c11 : wr.cell? ⟨w.heap.size, 11, none⟩ = some (.slice none 0 0) := by rw [Lib.cell_of_heap hk]; rfl
      have c12 : wr.cell? ⟨w.heap.size, 12, none⟩ = some (.int .i64 0) := by rw [Lib.cell_of_heap hk]; rfl
      have c13 : wr.cell? ⟨w.heap.size, 13, none⟩ = some (.int .i64 0) := by rw [Lib.cell_of_heap hk]; rfl
      have c14 : wr.cell? ⟨w.heap.size, 14, none⟩ = some (.int .i64 0) := by rw [Lib.cell_of_heap hk]; rfl
      have c15 : wr.cell? ⟨w.heap.size, 15, none⟩ = some (.string ⟨#[]⟩) := by rw [Lib.cell_of_heap hk]; rfl
      have c16 : wr.cell? ⟨w.heap.size, 16, none⟩ = some (.slice none 0 0) := by rw [Lib.cell_of_heap hk]; rfl
      clear hk hp
      go_wp2_with fail
      clear c0 c1 c2 c3 c4 c5 c6 c7 c8 c9 c10 c11 c12 c13 c14 c15 c16
      refine (HM.out.has p HP.out _ HBw.out).mono ?_
      as_aux_lemma =>
        rintro e w3 ⟨rfl, hb⟩
        have B3 : Hid (Below w1.heap.size w1 w3) := bT HB.out hb
        have Bw3 : Hid (Below w.heap.size w w3) := bT HBw.out hb
        clear hb
        have hk := HK.out w3 B3.out
        have c0 : w3.cell? ⟨w.heap.size, 0, none⟩ = some (.int .i64 k) := by rw [Lib.cell_of_heap hk]; rfl
        have c1 : w3.cell? ⟨w.heap.size, 1, none⟩ = some (.int .i64 ep) := by rw [Lib.cell_of_heap hk]; rfl
        have c2 : w3.cell? ⟨w.heap.size, 2, none⟩ = some (.int .i64 a) := by rw [Lib.cell_of_heap hk]; rfl
        have c3 : w3.cell? ⟨w.heap.size, 3, none⟩ = some (.int .i64 b) := by rw [Lib.cell_of_heap hk]; rfl
        have c4 : w3.cell? ⟨w.heap.size, 4, none⟩ = some (.int .i64 c) := by rw [Lib.cell_of_heap hk]; rfl
        have c5 : w3.cell? ⟨w.heap.size, 5, none⟩ = some (.int .i64 0) := by rw [Lib.cell_of_heap hk]; rfl
        have c6 : w3.cell? ⟨w.heap.size, 6, none⟩ = some (.string s) := by rw [Lib.cell_of_heap hk]; rfl
        have c7 : w3.cell? ⟨w.heap.size, 7, none⟩ = some (.string ⟨#[]⟩) := by rw [Lib.cell_of_heap hk]; rfl
        have c8 : w3.cell? ⟨w.heap.size, 8, none⟩ = some (.int .i64 0) := by rw [Lib.cell_of_heap hk]; rfl
        have c9 : w3.cell? ⟨w.heap.size, 9, none⟩ = some (.slice none 0 0) := by rw [Lib.cell_of_heap hk]; rfl
        have c10 : w3.cell? ⟨w.heap.size, 10, none⟩ = some (.slice none 0 0) := by rw [Lib.cell_of_heap hk]; rfl
        have c11 : w3.cell? ⟨w.heap.size, 11, none⟩ = some (.slice none 0 0) := by rw [Lib.cell_of_heap hk]; rfl
        have c12 : w3.cell? ⟨w.heap.size, 12, none⟩ = some (.int .i64 0) := by rw [Lib.cell_of_heap hk]; rfl
        have c13 : w3.cell? ⟨w.heap.size, 13, none⟩ = some (.int .i64 0) := by rw [Lib.cell_of_heap hk]; rfl
        have c14 : w3.cell? ⟨w.heap.size, 14, none⟩ = some (.int .i64 0) := by rw [Lib.cell_of_heap hk]; rfl
        have c15 : w3.cell? ⟨w.heap.size, 15, none⟩ = some (.string ⟨#[]⟩) := by rw [Lib.cell_of_heap hk]; rfl
        have c16 : w3.cell? ⟨w.heap.size, 16, none⟩ = some (.slice none 0 0) := by rw [Lib.cell_of_heap hk]; rfl
        clear hk
        obtain ⟨H, hH⟩ : ∃ H, Hid (hs p = H) := ⟨_, rfl⟩
        rw [hH.out]
        cases H with
        | true =>
          go_wp2_with fail
          clear c0 c1 c2 c3 c4 c5 c6 c7 c8 c9 c10 c11 c12 c13 c14 c15 c16
          refine (HM.out.may p HP.out hH.out _ Bw3.out).mono ?_
          as_aux_lemma =>
            rintro e w4 ⟨rfl, hb⟩
            have B4 : Hid (Below w1.heap.size w1 w4) := bT B3.out hb
            have Bw4 : Hid (Below w.heap.size w w4) := bT Bw3.out hb
            clear hb
            have hk := HK.out w4 B4.out
            have c0 : w4.cell? ⟨w.heap.size, 0, none⟩ = some (.int .i64 k) := by rw [Lib.cell_of_heap hk]; rfl
            have c1 : w4.cell? ⟨w.heap.size, 1, none⟩ = some (.int .i64 ep) := by rw [Lib.cell_of_heap hk]; rfl
            have c2 : w4.cell? ⟨w.heap.size, 2, none⟩ = some (.int .i64 a) := by rw [Lib.cell_of_heap hk]; rfl
            have c3 : w4.cell? ⟨w.heap.size, 3, none⟩ = some (.int .i64 b) := by rw [Lib.cell_of_heap hk]; rfl
            have c4 : w4.cell? ⟨w.heap.size, 4, none⟩ = some (.int .i64 c) := by rw [Lib.cell_of_heap hk]; rfl
            have c5 : w4.cell? ⟨w.heap.size, 5, none⟩ = some (.int .i64 0) := by rw [Lib.cell_of_heap hk]; rfl
            have c6 : w4.cell? ⟨w.heap.size, 6, none⟩ = some (.string s) := by rw [Lib.cell_of_heap hk]; rfl
            have c7 : w4.cell? ⟨w.heap.size, 7, none⟩ = some (.string ⟨#[]⟩) := by rw [Lib.cell_of_heap hk]; rfl
            have c8 : w4.cell? ⟨w.heap.size, 8, none⟩ = some (.int .i64 0) := by rw [Lib.cell_of_heap hk]; rfl
            have c9 : w4.cell? ⟨w.heap.size, 9, none⟩ = some (.slice none 0 0) := by rw [Lib.cell_of_heap hk]; rfl
            have c10 : w4.cell? ⟨w.heap.size, 10, none⟩ = some (.slice none 0 0) := by rw [Lib.cell_of_heap hk]; rfl
            have c11 : w4.cell? ⟨w.heap.size, 11, none⟩ = some (.slice none 0 0) := by rw [Lib.cell_of_heap hk]; rfl
            have c12 : w4.cell? ⟨w.heap.size, 12, none⟩ = some (.int .i64 0) := by rw [Lib.cell_of_heap hk]; rfl
            have c13 : w4.cell? ⟨w.heap.size, 13, none⟩ = some (.int .i64 0) := by rw [Lib.cell_of_heap hk]; rfl
            have c14 : w4.cell? ⟨w.heap.size, 14, none⟩ = some (.int .i64 0) := by rw [Lib.cell_of_heap hk]; rfl
            have c15 : w4.cell? ⟨w.heap.size, 15, none⟩ = some (.string ⟨#[]⟩) := by rw [Lib.cell_of_heap hk]; rfl
            have c16 : w4.cell? ⟨w.heap.size, 16, none⟩ = some (.slice none 0 0) := by rw [Lib.cell_of_heap hk]; rfl
            clear hk
            go_wp2_with fail
            clear c0 c1 c2 c3 c4 c5 c6 c7 c8 c9 c10 c11 c12 c13 c14 c15 c16
            refine (HM.out.has p HP.out _ Bw4.out).mono ?_
            as_aux_lemma =>
              rintro e w5 ⟨rfl, hb⟩
              have B5 : Hid (Below w1.heap.size w1 w5) := bT B4.out hb
              clear hb
              rw [hH.out]
              have hnx := pts_next HP.out
              have HNx : Hid (p * 2 ∈ pts ∨ p * 2 = 512) := hnx
              clear HP HM hH HK d1 hnx
              go_wp2
              go_roundw
              case rel => exact ⟨p * 2, HNx.out, rfl, B5.out⟩
              case measure => simp [intOf]; omega
        | false =>
          go_wp2_with fail
          clear c0 c1 c2 c3 c4 c5 c6 c7 c8 c9 c10 c11 c12 c13 c14 c15 c16
          refine (HM.out.has p HP.out _ Bw3.out).mono ?_
          as_aux_lemma =>
            rintro e w4 ⟨rfl, hb⟩
            have B4 : Hid (Below w1.heap.size w1 w4) := bT B3.out hb
            have Bw4 : Hid (Below w.heap.size w w4) := bT Bw3.out hb
            clear hb
            rw [hH.out]
            have hk := HK.out w4 B4.out
            have c0 : w4.cell? ⟨w.heap.size, 0, none⟩ = some (.int .i64 k) := by rw [Lib.cell_of_heap hk]; rfl
            have c1 : w4.cell? ⟨w.heap.size, 1, none⟩ = some (.int .i64 ep) := by rw [Lib.cell_of_heap hk]; rfl
            have c2 : w4.cell? ⟨w.heap.size, 2, none⟩ = some (.int .i64 a) := by rw [Lib.cell_of_heap hk]; rfl
            have c3 : w4.cell? ⟨w.heap.size, 3, none⟩ = some (.int .i64 b) := by rw [Lib.cell_of_heap hk]; rfl
            have c4 : w4.cell? ⟨w.heap.size, 4, none⟩ = some (.int .i64 c) := by rw [Lib.cell_of_heap hk]; rfl
            have c5 : w4.cell? ⟨w.heap.size, 5, none⟩ = some (.int .i64 0) := by rw [Lib.cell_of_heap hk]; rfl
            have c6 : w4.cell? ⟨w.heap.size, 6, none⟩ = some (.string s) := by rw [Lib.cell_of_heap hk]; rfl
            have c7 : w4.cell? ⟨w.heap.size, 7, none⟩ = some (.string ⟨#[]⟩) := by rw [Lib.cell_of_heap hk]; rfl
            have c8 : w4.cell? ⟨w.heap.size, 8, none⟩ = some (.int .i64 0) := by rw [Lib.cell_of_heap hk]; rfl
            have c9 : w4.cell? ⟨w.heap.size, 9, none⟩ = some (.slice none 0 0) := by rw [Lib.cell_of_heap hk]; rfl
            have c10 : w4.cell? ⟨w.heap.size, 10, none⟩ = some (.slice none 0 0) := by rw [Lib.cell_of_heap hk]; rfl
            have c11 : w4.cell? ⟨w.heap.size, 11, none⟩ = some (.slice none 0 0) := by rw [Lib.cell_of_heap hk]; rfl
            have c12 : w4.cell? ⟨w.heap.size, 12, none⟩ = some (.int .i64 0) := by rw [Lib.cell_of_heap hk]; rfl
            have c13 : w4.cell? ⟨w.heap.size, 13, none⟩ = some (.int .i64 0) := by rw [Lib.cell_of_heap hk]; rfl
            have c14 : w4.cell? ⟨w.heap.size, 14, none⟩ = some (.int .i64 0) := by rw [Lib.cell_of_heap hk]; rfl
            have c15 : w4.cell? ⟨w.heap.size, 15, none⟩ = some (.string ⟨#[]⟩) := by rw [Lib.cell_of_heap hk]; rfl
            have c16 : w4.cell? ⟨w.heap.size, 16, none⟩ = some (.slice none 0 0) := by rw [Lib.cell_of_heap hk]; rfl
            clear hk
            go_wp2_with fail
            clear c0 c1 c2 c3 c4 c5 c6 c7 c8 c9 c10 c11 c12 c13 c14 c15 c16
            refine (HM.out.zer p HP.out hH.out _ Bw4.out).mono ?_
            as_aux_lemma =>
              rintro e w5 ⟨rfl, hb⟩
              have B5 : Hid (Below w1.heap.size w1 w5) := bT B4.out hb
              clear hb
              have hnx := pts_next HP.out
              have HNx : Hid (p * 2 ∈ pts ∨ p * 2 = 512) := hnx
              clear HP HM hH HK d1 hnx
              go_wp2
              go_roundw
              case rel => exact ⟨p * 2, HNx.out, rfl, B5.out⟩
              case measure => simp [intOf]; omega
end Go.Proofs.YtoplpohpodkpdaaGreatDoor
/- wire.write at a message of the examples: a walk. -/
namespace Go.Proofs.YtoplpohpodkpdaaGreatDoor
open Go.RowKit

set_option maxRecDepth 100000 in
set_option maxHeartbeats 40000000 in
theorem write_c (k ep a b c : Int) (s : ByteArray) (hs : Int → Bool) (rk re : ByteArray) (C : Int → List UInt8) (S : Int → ByteArray) (w : World) (h : MsgOk (msgC k ep a b c s) hs w) (hT : Q.Tab w) (hrk : strOfNums (Q.numI k) = rk) (hre : strOfNums (Q.numI ep) = re) (hC0 : C 1 = (rk ++ re).data.toList)
    (hW : ∀ p ∈ pts, hs p = true → ∀ W, Below w.heap.size w W → Calls Tryz.prog 38 #[.agg (msgC k ep a b c s), .int .i64 p] W fun e w' => e = .returned (.string (S p)) ∧ Below W.heap.size W w')
    (hCn : ∀ p ∈ pts, C (p * 2) = if hs p = true then C p ++ (S p).data.toList else C p) (hlen : ∀ p ∈ pts, (C p).length + (S p).size ≤ 1000) (hl0 : (rk ++ re).size ≤ 1000) (_hl9 : (C 512).length ≤ 1000) :
    Calls Tryz.prog 24 #[.agg (msgC k ep a b c s)] w fun e w' => e = .returned (.string ⟨(C 512).toArray⟩) ∧ Below w.heap.size w w' := by
  have HM : Hid (MsgOk (msgC k ep a b c s) hs w) := h
  have HNk : Hid (∀ W, Below w.heap.size w W → Calls Tryz.prog 37 #[.int .i64 k] W fun e w' => e = .returned (.string rk) ∧ Below W.heap.size W w') := fun W hb => numS k rk hrk W (hT.below hb hT.size)
  have HNe : Hid (∀ W, Below w.heap.size w W → Calls Tryz.prog 37 #[.int .i64 ep] W fun e w' => e = .returned (.string re) ∧ Below W.heap.size W w') := fun W hb => numS ep re hre W (hT.below hb hT.size)
  have HW : Hid (∀ p ∈ pts, hs p = true → ∀ W, Below w.heap.size w W → Calls Tryz.prog 38 #[.agg (msgC k ep a b c s), .int .i64 p] W fun e w' => e = .returned (.string (S p)) ∧ Below W.heap.size W w') := hW
  have HCn : Hid (∀ p ∈ pts, C (p * 2) = if hs p = true then C p ++ (S p).data.toList else C p) := hCn
  have HLn : Hid (∀ p ∈ pts, (C p).length + (S p).size ≤ 1000) := hlen
  have HC0 : Hid (C 1 = (rk ++ re).data.toList) := hC0
  have hl1 : rk.size + re.size ≤ 1000 := by rw [ByteArray.size_append] at hl0; exact hl0
  have hrs : ¬ 9223372036854775807 < rk.size + re.size := by omega
  clear h hT hrk hre hC0 hW hCn hlen
  obtain ⟨w1, hw1⟩ : ∃ w1, w1 = w.alloc (.cells (msgC k ep a b c s) 45) := ⟨_, rfl⟩
  have B1 : Hid (Below w.heap.size w w1) := by show Below _ _ _; rw [hw1]; exact al_f _ _
  have hk : w1.heap[w.heap.size]? = some (.cells (msgC k ep a b c s) 45 (0, 0)) := by rw [hw1]; exact nw_at _ _
  have HK : Hid (∀ W, Below w1.heap.size w1 W → W.heap[w.heap.size]? = some (.cells (msgC k ep a b c s) 45 (0, 0))) := fun W hb => (hb.block _ (Array.getElem?_eq_some_iff.1 hk).1).trans hk
  clear hk
  have HI0 : Hid (Q.IsB w1.heap.size w1.heap.size (Lib.byteCells []) (w1.alloc (.cells #[.pointer none, .slice none 0 0] 76))) := Lib.IsBuilderF.of (Lib.fresh_isBuilder _ _ w1)
  have HA0 : Hid (Below w1.heap.size w1 (w1.alloc (.cells #[.pointer none, .slice none 0 0] 76))) := al_f w1 _
  have HS0 : Hid (w1.heap.size < (w1.alloc (.cells #[.pointer none, .slice none 0 0] 76)).heap.size) := by show _ < _; simp
  have hz1 : w1.heap.size = w.heap.size + 1 := by rw [hw1]; simp
  go_enter Tryz.func24, Tryz.ntmps24
  go_wp2_with fail
  rw [← hz1, ← hw1]
  clear hw1 hz1
  generalize hw2 : w1.alloc (.cells #[.pointer none, .slice none 0 0] 76) = w2 at *
  clear hw2
  have HBd : Hid (Below w1.heap.size w1 w2.drew) := HA0.out.drew
  have HId : Hid (Q.IsB w1.heap.size w1.heap.size (Lib.byteCells []) w2.drew) := Q.IsB_below HI0.out (Below.refl _ _).drew
  have HSv : Hid (∀ W : World, w2.heap.size ≤ W.heap.size → w1.heap.size < W.heap.size) := fun W h => Nat.lt_of_lt_of_le HS0.out h
  have HS : Hid (∀ W, Below w1.heap.size w1 W → W.cell? ⟨w.heap.size, 0, none⟩ = some (.int .i64 k) ∧ W.cell? ⟨w.heap.size, 1, none⟩ = some (.int .i64 ep)) := fun W hb => by
    have hk := HK.out W hb
    exact ⟨by rw [Lib.cell_of_heap hk]; rfl, by rw [Lib.cell_of_heap hk]; rfl⟩
  have G0 : Hid (w2.heap.size ≤ w2.drew.heap.size) := Nat.le_refl _
  go_cut [] (fun wx => Hid (Q.IsB w1.heap.size w1.heap.size (Lib.byteCells (C 1)) wx) ∧ Hid (Below w1.heap.size w1 wx) ∧ Hid (w1.heap.size < wx.heap.size))
  case first =>
    refine wp_region_held_drew (S := fun w' => w'.cell? ⟨w.heap.size, 0, none⟩ = some (.int .i64 k) ∧ w'.cell? ⟨w.heap.size, 1, none⟩ = some (.int .i64 ep)) (by kernel_rfl) (HS.out _ HBd.out) (fun hHeld => ?_)
    generalize hw0 : w2.drew = v0 at *
    clear hw0
    refine wpAnyH_take (i := 0) (v := ?_) rfl (by kernel_rfl) (by kernel_rfl) (by kernel_rfl) (fun _ _ _ h => h) (Or.inl ⟨by rfl, ?_⟩) hHeld ?_
    rotate_left 1
    · intro w9 hSw; obtain ⟨g0, g1⟩ := hSw; go_simp; try with_reducible rfl
    change wpAnyH _ _ _ _ _ _ _ (Act.put _ (some 5) _) _
    simp only [Act.put, List.setIfInBounds_toArray, List.set_cons_zero, List.set_cons_succ]
    refine wpAnyH_take (i := 1) (v := ?_) rfl (by kernel_rfl) (by kernel_rfl) (by kernel_rfl) (fun _ _ _ h => h) (Or.inl ⟨by rfl, ?_⟩) hHeld ?_
    rotate_left 1
    · intro w9 hSw; obtain ⟨g0, g1⟩ := hSw; go_simp; try with_reducible rfl
    change wpAnyH _ _ _ _ _ _ _ (Act.put _ (some 6) _) _
    simp only [Act.put, List.setIfInBounds_toArray, List.set_cons_zero, List.set_cons_succ]
    refine wpAnyH_take (i := 3) (v := ?_) rfl (by kernel_rfl) (by kernel_rfl) (by kernel_rfl) (fun _ _ _ h => h) (Or.inl ⟨by rfl, ?_⟩) hHeld ?_
    rotate_left 1
    · intro w9 hSw; obtain ⟨g0, g1⟩ := hSw; go_simp; try with_reducible rfl
    change wpAnyH _ _ _ _ _ _ _ (Act.put _ (some 8) _) _
    simp only [Act.put, List.setIfInBounds_toArray, List.set_cons_zero, List.set_cons_succ]
    refine wpAnyH_take (i := 4) (v := ?_) rfl (by kernel_rfl) (by kernel_rfl) (by kernel_rfl) (fun _ _ _ h => h) (Or.inl ⟨by rfl, ?_⟩) hHeld ?_
    rotate_left 1
    · intro w9 hSw; obtain ⟨g0, g1⟩ := hSw; go_simp; try with_reducible rfl
    change wpAnyH _ _ _ _ _ _ _ (Act.put _ (some 9) _) _
    simp only [Act.put, List.setIfInBounds_toArray, List.set_cons_zero, List.set_cons_succ]
    refine wpAnyH_ready (rs := [2]) (by kernel_rfl) (by simp) ?_
    refine AllReadyH.cons rfl (fun K hK => ?_) AllReadyH.nil
    go_simp
    refine (HNk.out _ (bT B1.out HBd.out)).mono ?_
    rintro e v1 ⟨rfl, hb⟩
    have G1 : Hid (w2.heap.size ≤ v1.heap.size) := Nat.le_trans G0.out hb.size
    have D1 : Hid (Below w1.heap.size w1 v1) := HBd.out.trans (hb.mono HBd.out.size)
    have I1 : Hid (Q.IsB w1.heap.size w1.heap.size (Lib.byteCells []) v1) := Q.IsB_below HId.out hb
    clear hb
    go_simp
    refine hK.out _ _ (HS.out _ D1.out) (fun hHeld => ?_)
    clear hK K
    refine wpAnyH_ready (rs := [5]) (by kernel_rfl) (by simp) ?_
    refine AllReadyH.cons rfl (fun K hK => ?_) AllReadyH.nil
    go_simp
    refine (HNe.out _ (bT B1.out D1.out)).mono ?_
    rintro e v2 ⟨rfl, hb⟩
    have G2 : Hid (w2.heap.size ≤ v2.heap.size) := Nat.le_trans G1.out hb.size
    have D2 : Hid (Below w1.heap.size w1 v2) := D1.out.trans (hb.mono D1.out.size)
    have I2 : Hid (Q.IsB w1.heap.size w1.heap.size (Lib.byteCells []) v2) := Q.IsB_below I1.out hb
    clear hb
    go_simp
    refine hK.out _ _ (HS.out _ D2.out) (fun hHeld => ?_)
    clear hK K
    refine wpAnyH_take (i := 6) (v := ?_) rfl (by kernel_rfl) (by kernel_rfl) (by kernel_rfl) (fun _ _ _ h => h) (Or.inl ⟨by rfl, ?_⟩) hHeld ?_
    rotate_left 1
    · intro w9 hSw; obtain ⟨g0, g1⟩ := hSw; go_simp; try with_reducible rfl
    change wpAnyH _ _ _ _ _ _ _ (Act.put _ (some 11) _) _
    simp only [Act.put, List.setIfInBounds_toArray, List.set_cons_zero, List.set_cons_succ]
    have HWs := Q.writeString_any w1.heap.size w1.heap.size _ (rk ++ re) v2 I2.out (by have h9 := hl0; simp [Lib.byteCells] at h9 ⊢; omega) D2.out.size
    refine wpAnyH_ready (rs := [7]) (by kernel_rfl) (by simp) ?_
    refine AllReadyH.cons rfl (fun K hK => ?_) AllReadyH.nil
    go_simp
    refine (HWs).mono ?_
    rintro e v3 ⟨rfl, hI, hb⟩
    have D3 : Hid (Below w1.heap.size w1 v3) := D2.out.trans hb
    have I3 : Hid (Q.IsB w1.heap.size w1.heap.size (Lib.byteCells (C 1)) v3) := by
      rw [Lib.strCells_eq, ← Lib.byteCells_append, List.nil_append] at hI
      rw [HC0.out]
      exact hI
    have S3 : Hid (w1.heap.size < v3.heap.size) := by
      have h1 := D2.out.size
      have h2 := hb.size
      have h3 := HSv.out v2 G2.out
      show _ < _
      omega
    clear hb hI
    go_simp
    refine hK.out _ _ (HS.out _ D3.out) (fun hHeld => ?_)
    clear hK K
    refine wpAnyH_done (by kernel_rfl) ?_ _
    clear hHeld
    try go_wp2_with fail
    go_meet
    exact ⟨I3.out, D3.out, S3.out⟩
  case rest =>
    obtain ⟨HIc, HBc, HSc⟩ := hcut
    clear HNk HNe HC0 HI0 HA0 HS0 HBd HId HS
    go_wp2_with fail
    go_loopw [4] (fun i wr => ∃ p : Int, (p ∈ pts ∨ p = 512) ∧ i = .int .i64 p ∧ Hid (Q.IsB w1.heap.size w1.heap.size (Lib.byteCells (C p)) wr) ∧ Hid (Below w1.heap.size w1 wr) ∧ Hid (w1.heap.size < wr.heap.size)) (fun i _ => 512 - (intOf i).toNat)
    case atStart => exact ⟨1, .inl (by decide), rfl, HIc, HBc, HSc⟩
    case round =>
      clear HIc HBc HSc
      obtain ⟨p, hp, rfl, HI, HB, HSz⟩ := hrel
      have HBw : Hid (Below w.heap.size w wr) := bT B1.out HB.out
      as_aux_lemma =>
        rcases hp with hp | rfl
        rotate_left
        · have HSt := Tryz.Builder_String_any_k w1.heap.size w1.heap.size (C 512) wr HI.out (Nat.le_of_lt HSz.out)
          clear HI HM HW HCn HLn HK
          go_wp2_with fail
          refine HSt.mono ?_
          rintro e w5 ⟨rfl, -, hb5, -⟩
          have HB5 : Hid (Below w.heap.size w w5) := B1.out.trans ((HB.out.trans hb5).mono B1.out.size)
          clear hb5 HSt
          go_wp2
          go_ret
          exact ⟨rfl, HB5.out⟩
        have hlt := (pts_lt hp).2
        have hge := (pts_lt hp).1
        have d1 : decide (p < 512) = true := decide_eq_true hlt
        have HP : Hid (p ∈ pts) := hp
        have hk := HK.out wr HB.out
        have c0 : wr.cell? ⟨w.heap.size, 0, none⟩ = some (.int .i64 k) := by rw [Lib.cell_of_heap hk]; rfl
        have c1 : wr.cell? ⟨w.heap.size, 1, none⟩ = some (.int .i64 ep) := by rw [Lib.cell_of_heap hk]; rfl
        have c2 : wr.cell? ⟨w.heap.size, 2, none⟩ = some (.int .i64 a) := by rw [Lib.cell_of_heap hk]; rfl
        have c3 : wr.cell? ⟨w.heap.size, 3, none⟩ = some (.int .i64 b) := by rw [Lib.cell_of_heap hk]; rfl
        have c4 : wr.cell? ⟨w.heap.size, 4, none⟩ = some (.int .i64 c) := by rw [Lib.cell_of_heap hk]; rfl
        have c5 : wr.cell? ⟨w.heap.size, 5, none⟩ = some (.int .i64 0) := by rw [Lib.cell_of_heap hk]; rfl
        have c6 : wr.cell? ⟨w.heap.size, 6, none⟩ = some (.string s) := by rw [Lib.cell_of_heap hk]; rfl
        have c7 : wr.cell? ⟨w.heap.size, 7, none⟩ = some (.string ⟨#[]⟩) := by rw [Lib.cell_of_heap hk]; rfl
        have c8 : wr.cell? ⟨w.heap.size, 8, none⟩ = some (.int .i64 0) := by rw [Lib.cell_of_heap hk]; rfl
        have c9 : wr.cell? ⟨w.heap.size, 9, none⟩ = some (.slice none 0 0) := by rw [Lib.cell_of_heap hk]; rfl
        have c10 : wr.cell? ⟨w.heap.size, 10, none⟩ = some (.slice none 0 0) := by rw [Lib.cell_of_heap hk]; rfl
        have c11 : wr.cell? ⟨w.heap.size, 11, none⟩ = some (.slice none 0 0) := by rw [Lib.cell_of_heap hk]; rfl
        have c12 : wr.cell? ⟨w.heap.size, 12, none⟩ = some (.int .i64 0) := by rw [Lib.cell_of_heap hk]; rfl
        have c13 : wr.cell? ⟨w.heap.size, 13, none⟩ = some (.int .i64 0) := by rw [Lib.cell_of_heap hk]; rfl
        have c14 : wr.cell? ⟨w.heap.size, 14, none⟩ = some (.int .i64 0) := by rw [Lib.cell_of_heap hk]; rfl
        have c15 : wr.cell? ⟨w.heap.size, 15, none⟩ = some (.string ⟨#[]⟩) := by rw [Lib.cell_of_heap hk]; rfl
        have c16 : wr.cell? ⟨w.heap.size, 16, none⟩ = some (.slice none 0 0) := by rw [Lib.cell_of_heap hk]; rfl
        clear hk hp
        go_wp2_with fail
        clear c0 c1 c2 c3 c4 c5 c6 c7 c8 c9 c10 c11 c12 c13 c14 c15 c16
        refine (HM.out.has p HP.out _ HBw.out).mono ?_
        as_aux_lemma =>
          rintro e w3 ⟨rfl, hb⟩
          have B3 : Hid (Below w1.heap.size w1 w3) := bT HB.out hb
          have Bw3 : Hid (Below w.heap.size w w3) := bT HBw.out hb
          have I3 : Hid (Q.IsB w1.heap.size w1.heap.size (Lib.byteCells (C p)) w3) := Q.IsB_below HI.out hb
          have S3 : Hid (w1.heap.size < w3.heap.size) := Nat.lt_of_lt_of_le HSz.out hb.size
          clear hb HI HSz
          have HC2 : Hid (C (p * 2) = if hs p = true then C p ++ (S p).data.toList else C p) := HCn.out p HP.out
          have hln := HLn.out p HP.out
          have HNx : Hid (p * 2 ∈ pts ∨ p * 2 = 512) := pts_next HP.out
          cases hH : hs p with
          | true =>
            have HHp : Hid (hs p = true) := hH
            have HC3 : Hid (C (p * 2) = C p ++ (S p).data.toList) := by show _ = _; rw [HC2.out, if_pos HHp.out]
            have hk := HK.out w3 B3.out
            have c0 : w3.cell? ⟨w.heap.size, 0, none⟩ = some (.int .i64 k) := by rw [Lib.cell_of_heap hk]; rfl
            have c1 : w3.cell? ⟨w.heap.size, 1, none⟩ = some (.int .i64 ep) := by rw [Lib.cell_of_heap hk]; rfl
            have c2 : w3.cell? ⟨w.heap.size, 2, none⟩ = some (.int .i64 a) := by rw [Lib.cell_of_heap hk]; rfl
            have c3 : w3.cell? ⟨w.heap.size, 3, none⟩ = some (.int .i64 b) := by rw [Lib.cell_of_heap hk]; rfl
            have c4 : w3.cell? ⟨w.heap.size, 4, none⟩ = some (.int .i64 c) := by rw [Lib.cell_of_heap hk]; rfl
            have c5 : w3.cell? ⟨w.heap.size, 5, none⟩ = some (.int .i64 0) := by rw [Lib.cell_of_heap hk]; rfl
            have c6 : w3.cell? ⟨w.heap.size, 6, none⟩ = some (.string s) := by rw [Lib.cell_of_heap hk]; rfl
            have c7 : w3.cell? ⟨w.heap.size, 7, none⟩ = some (.string ⟨#[]⟩) := by rw [Lib.cell_of_heap hk]; rfl
            have c8 : w3.cell? ⟨w.heap.size, 8, none⟩ = some (.int .i64 0) := by rw [Lib.cell_of_heap hk]; rfl
            have c9 : w3.cell? ⟨w.heap.size, 9, none⟩ = some (.slice none 0 0) := by rw [Lib.cell_of_heap hk]; rfl
            have c10 : w3.cell? ⟨w.heap.size, 10, none⟩ = some (.slice none 0 0) := by rw [Lib.cell_of_heap hk]; rfl
            have c11 : w3.cell? ⟨w.heap.size, 11, none⟩ = some (.slice none 0 0) := by rw [Lib.cell_of_heap hk]; rfl
            have c12 : w3.cell? ⟨w.heap.size, 12, none⟩ = some (.int .i64 0) := by rw [Lib.cell_of_heap hk]; rfl
            have c13 : w3.cell? ⟨w.heap.size, 13, none⟩ = some (.int .i64 0) := by rw [Lib.cell_of_heap hk]; rfl
            have c14 : w3.cell? ⟨w.heap.size, 14, none⟩ = some (.int .i64 0) := by rw [Lib.cell_of_heap hk]; rfl
            have c15 : w3.cell? ⟨w.heap.size, 15, none⟩ = some (.string ⟨#[]⟩) := by rw [Lib.cell_of_heap hk]; rfl
            have c16 : w3.cell? ⟨w.heap.size, 16, none⟩ = some (.slice none 0 0) := by rw [Lib.cell_of_heap hk]; rfl
            clear hk hH HC2
            go_wp2_with fail
            clear c0 c1 c2 c3 c4 c5 c6 c7 c8 c9 c10 c11 c12 c13 c14 c15 c16
            refine (HW.out p HP.out HHp.out _ Bw3.out).mono ?_
            as_aux_lemma =>
              rintro e w4 ⟨rfl, hb⟩
              have B4 : Hid (Below w1.heap.size w1 w4) := bT B3.out hb
              have I4 : Hid (Q.IsB w1.heap.size w1.heap.size (Lib.byteCells (C p)) w4) := Q.IsB_below I3.out hb
              have S4 : Hid (w1.heap.size < w4.heap.size) := Nat.lt_of_lt_of_le S3.out hb.size
              clear hb I3 S3
              have HWs := Q.writeString_any w1.heap.size w1.heap.size _ (S p) w4 I4.out (by simp [Lib.byteCells]; omega) B4.out.size
              go_wp2_with fail
              refine HWs.mono ?_
              rintro e w5 ⟨rfl, hI, hb⟩
              have B5 : Hid (Below w1.heap.size w1 w5) := B4.out.trans hb
              have S5 : Hid (w1.heap.size < w5.heap.size) := Nat.lt_of_lt_of_le S4.out hb.size
              have I5 : Hid (Q.IsB w1.heap.size w1.heap.size (Lib.byteCells (C (p * 2))) w5) := by
                rw [Lib.strCells_eq, ← Lib.byteCells_append] at hI
                rw [HC3.out]
                exact hI
              clear HWs hb hI I4 S4 HP HM HK HW HCn HLn d1 HC3 HHp
              go_wp2
              go_roundw
              case rel => exact ⟨p * 2, HNx.out, rfl, I5.out, B5.out, S5.out⟩
              case measure => simp [intOf]; omega
          | false =>
            have HC3 : Hid (C (p * 2) = C p) := by show _ = _; rw [HC2.out, hH]; rfl
            have I5 : Hid (Q.IsB w1.heap.size w1.heap.size (Lib.byteCells (C (p * 2))) w3) := by
              show Q.IsB _ _ _ _
              rw [HC3.out]
              exact I3.out
            clear hH HC2 HP HM HK HW HCn HLn d1 HC3 I3
            go_wp2
            go_roundw
            case rel => exact ⟨p * 2, HNx.out, rfl, I5.out, B3.out, S3.out⟩
            case measure => simp [intOf]; omega
end Go.Proofs.YtoplpohpodkpdaaGreatDoor
/- quic.Get at every text; the law's examples. -/
namespace Go.Proofs.YtoplpohpodkpdaaGreatDoor.Q
open Go.RowKit

/-- quic.Get, at every text. -/
theorem get_any (s : ByteArray) (w : World) (hs : s.size ≤ 140737488355328) :
    Calls Tryz.prog 51 #[.string s] w fun e w' => e = .returned (.tuple #[.int .i64 (getV s), .string (getRest s), .int .i64 (getE s)]) ∧ Below w.heap.size w w' := by
  by_cases h0 : s.size = 0
  · have e1 : getE s = 7 := by unfold getE; rw [if_pos (by have := gsz_pos s; omega)]
    have e2 : getV s = 0 := by unfold getV; rw [if_neg (by omega)]
    have e3 : getRest s = ⟨#[]⟩ := by unfold getRest; rw [if_neg (by omega)]
    rw [e1, e2, e3]
    exact get_none s w h0
  have hb := bt_rng s 0
  have hb0 := bt_eq (s := s) (i := 0) (by omega)
  by_cases c1 : bt s 0 < 64
  · have g1 : gsz s = 1 := by unfold gsz; rw [if_pos (by omega)]
    have g2 : gval s = bt s 0 % 64 := by unfold gval; rw [if_pos (by omega)]
    have hlen : 1 ≤ s.size := by omega
    by_cases hq : qsize (gval s) = 1
    · have e1 : getE s = 0 := by unfold getE; rw [g1, if_neg (by omega), if_pos (by exact_mod_cast hq)]
      have e2 : getV s = gval s := by unfold getV; rw [if_pos e1]
      have e3 : getRest s = s.extract 1 s.size := by unfold getRest; rw [if_pos e1, g1]
      rw [e1, e2, e3]
      rw [g2, ← bt_eq (s := s) (i := 0) (by omega)] at hq ⊢
      exact get_1ok s w hs (by omega) (by omega) (by omega) hq
    · have e1 : getE s = 3 := by unfold getE; rw [g1, if_neg (by omega), if_neg (by exact_mod_cast hq)]
      have e2 : getV s = 0 := by unfold getV; rw [if_neg (by omega)]
      have e3 : getRest s = ⟨#[]⟩ := by unfold getRest; rw [if_neg (by omega)]
      rw [e1, e2, e3]
      rw [g2, ← bt_eq (s := s) (i := 0) (by omega)] at hq
      exact get_1bad s w hs (by omega) (by omega) (by omega) hq
  by_cases c2 : bt s 0 < 128
  · have g1 : gsz s = 2 := by unfold gsz; rw [if_neg (by omega), if_pos (by omega)]
    have g2 : gval s = (bt s 0 % 64) * 256 + bt s 1 := by unfold gval; rw [if_neg (by omega), if_pos (by omega)]
    by_cases hlen : s.size < 2
    · have e1 : getE s = 7 := by unfold getE; rw [g1, if_pos (by omega)]
      have e2 : getV s = 0 := by unfold getV; rw [if_neg (by omega)]
      have e3 : getRest s = ⟨#[]⟩ := by unfold getRest; rw [if_neg (by omega)]
      rw [e1, e2, e3]
      exact get_2short s w hs (by omega) hlen (by omega) (by omega)
    by_cases hq : qsize (gval s) = 2
    · have e1 : getE s = 0 := by unfold getE; rw [g1, if_neg (by omega), if_pos (by exact_mod_cast hq)]
      have e2 : getV s = gval s := by unfold getV; rw [if_pos e1]
      have e3 : getRest s = s.extract 2 s.size := by unfold getRest; rw [if_pos e1, g1]
      rw [e1, e2, e3]
      rw [g2, ← bt_eq (s := s) (i := 0) (by omega), ← bt_eq (s := s) (i := 1) (by omega)] at hq ⊢
      exact get_2ok s w hs (by omega) (by omega) (by omega) hq
    · have e1 : getE s = 3 := by unfold getE; rw [g1, if_neg (by omega), if_neg (by exact_mod_cast hq)]
      have e2 : getV s = 0 := by unfold getV; rw [if_neg (by omega)]
      have e3 : getRest s = ⟨#[]⟩ := by unfold getRest; rw [if_neg (by omega)]
      rw [e1, e2, e3]
      rw [g2, ← bt_eq (s := s) (i := 0) (by omega), ← bt_eq (s := s) (i := 1) (by omega)] at hq
      exact get_2bad s w hs (by omega) (by omega) (by omega) hq
  by_cases c4 : bt s 0 < 192
  · have g1 : gsz s = 4 := by unfold gsz; rw [if_neg (by omega), if_neg (by omega), if_pos (by omega)]
    have g2 : gval s = (((bt s 0 % 64) * 256 + bt s 1) * 256 + bt s 2) * 256 + bt s 3 := by unfold gval; rw [if_neg (by omega), if_neg (by omega), if_pos (by omega)]
    by_cases hlen : s.size < 4
    · have e1 : getE s = 7 := by unfold getE; rw [g1, if_pos (by omega)]
      have e2 : getV s = 0 := by unfold getV; rw [if_neg (by omega)]
      have e3 : getRest s = ⟨#[]⟩ := by unfold getRest; rw [if_neg (by omega)]
      rw [e1, e2, e3]
      exact get_4short s w hs (by omega) hlen (by omega) (by omega)
    by_cases hq : qsize (gval s) = 4
    · have e1 : getE s = 0 := by unfold getE; rw [g1, if_neg (by omega), if_pos (by exact_mod_cast hq)]
      have e2 : getV s = gval s := by unfold getV; rw [if_pos e1]
      have e3 : getRest s = s.extract 4 s.size := by unfold getRest; rw [if_pos e1, g1]
      rw [e1, e2, e3]
      rw [g2, ← bt_eq (s := s) (i := 0) (by omega), ← bt_eq (s := s) (i := 1) (by omega), ← bt_eq (s := s) (i := 2) (by omega), ← bt_eq (s := s) (i := 3) (by omega)] at hq ⊢
      exact get_4ok s w hs (by omega) (by omega) (by omega) hq
    · have e1 : getE s = 3 := by unfold getE; rw [g1, if_neg (by omega), if_neg (by exact_mod_cast hq)]
      have e2 : getV s = 0 := by unfold getV; rw [if_neg (by omega)]
      have e3 : getRest s = ⟨#[]⟩ := by unfold getRest; rw [if_neg (by omega)]
      rw [e1, e2, e3]
      rw [g2, ← bt_eq (s := s) (i := 0) (by omega), ← bt_eq (s := s) (i := 1) (by omega), ← bt_eq (s := s) (i := 2) (by omega), ← bt_eq (s := s) (i := 3) (by omega)] at hq
      exact get_4bad s w hs (by omega) (by omega) (by omega) hq
  · have g1 : gsz s = 8 := by unfold gsz; rw [if_neg (by omega), if_neg (by omega), if_neg (by omega)]
    have g2 : gval s = (((((((bt s 0 % 64) * 256 + bt s 1) * 256 + bt s 2) * 256 + bt s 3) * 256 + bt s 4) * 256 + bt s 5) * 256 + bt s 6) * 256 + bt s 7 := by unfold gval; rw [if_neg (by omega), if_neg (by omega), if_neg (by omega)]
    by_cases hlen : s.size < 8
    · have e1 : getE s = 7 := by unfold getE; rw [g1, if_pos (by omega)]
      have e2 : getV s = 0 := by unfold getV; rw [if_neg (by omega)]
      have e3 : getRest s = ⟨#[]⟩ := by unfold getRest; rw [if_neg (by omega)]
      rw [e1, e2, e3]
      exact get_8short s w hs (by omega) hlen (by omega) (by omega)
    by_cases hq : qsize (gval s) = 8
    · have e1 : getE s = 0 := by unfold getE; rw [g1, if_neg (by omega), if_pos (by exact_mod_cast hq)]
      have e2 : getV s = gval s := by unfold getV; rw [if_pos e1]
      have e3 : getRest s = s.extract 8 s.size := by unfold getRest; rw [if_pos e1, g1]
      rw [e1, e2, e3]
      rw [g2, ← bt_eq (s := s) (i := 0) (by omega), ← bt_eq (s := s) (i := 1) (by omega), ← bt_eq (s := s) (i := 2) (by omega), ← bt_eq (s := s) (i := 3) (by omega), ← bt_eq (s := s) (i := 4) (by omega), ← bt_eq (s := s) (i := 5) (by omega), ← bt_eq (s := s) (i := 6) (by omega), ← bt_eq (s := s) (i := 7) (by omega)] at hq ⊢
      exact get_8ok s w hs (by omega) (by omega) (by omega) hq
    · have e1 : getE s = 3 := by unfold getE; rw [g1, if_neg (by omega), if_neg (by exact_mod_cast hq)]
      have e2 : getV s = 0 := by unfold getV; rw [if_neg (by omega)]
      have e3 : getRest s = ⟨#[]⟩ := by unfold getRest; rw [if_neg (by omega)]
      rw [e1, e2, e3]
      rw [g2, ← bt_eq (s := s) (i := 0) (by omega), ← bt_eq (s := s) (i := 1) (by omega), ← bt_eq (s := s) (i := 2) (by omega), ← bt_eq (s := s) (i := 3) (by omega), ← bt_eq (s := s) (i := 4) (by omega), ← bt_eq (s := s) (i := 5) (by omega), ← bt_eq (s := s) (i := 6) (by omega), ← bt_eq (s := s) (i := 7) (by omega)] at hq
      exact get_8bad s w hs (by omega) (by omega) (by omega) hq

end Go.Proofs.YtoplpohpodkpdaaGreatDoor.Q
