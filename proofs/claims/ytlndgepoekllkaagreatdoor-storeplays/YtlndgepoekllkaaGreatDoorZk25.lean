/- The reference's Stored where it does: its walk. -/
import Derived.Test.YtlndgepoekllkaaGreatDoorZk24
import Derived.Test.YtlndgepoekllkaaGreatDoorZk8
import Derived.Test.YtlndgepoekllkaaGreatDoorZk5
import Derived.Test.YtlndgepoekllkaaGreatDoorZk20
namespace Go.Proofs.YtlndgepoekllkaaGreatDoor
open Go.RowKit Go.ChangeMaps

/-- Behind Stored: the store, whether the type is sure, the row of those that are waited for. -/
def StRP (M : List KR) (i : Nat) (y : LT) (WL : List Int) (w : World) (e : Ending) (w' : World) : Prop := ∃ va vc, SuRP (wthR M i ⟨y, decide (WL.length = 0), WL, va, vc⟩) (decide (WL.length = 0)) w e w' ∧ IsRow w' 1 (.slice va WL.length vc) WL.length (iCells WL) ∧ NewA w.heap.size va
set_option maxRecDepth 100000 in
set_option maxHeartbeats 4000000 in
theorem stored17_yes (v : Value) (M : List KR) (n : ByteArray) (a b' c N : Int) (w : World) (hr : IsRow w 10 v M.length (kCells M)) (hl : M.length ≤ 1000) (hN : ∀ k ∈ M, k.y.t.n.size ≤ 200000) (hn : n.size ≤ 200000) (i : Nat) (hi : i < M.length) (hF : fndZ M n = (i : Int)) (hB : M[i].y.t.nd = a ∧ M[i].y.t.lf = b' ∧ M[i].y.t.sq = c) (hw : IsRow w 1 M[i].vw M[i].l.length (iCells M[i].l)) (hwl : M[i].l.length ≤ 1000) (hH : N ∈ M[i].l) :
    Calls Tryz.prog 22 #[.agg #[v], .string n, idV a b' c, .int .i64 N] w fun e w' => StRP M i M[i].y (witho M[i].l N) w e w' := by
  obtain ⟨a0, c0, rfl⟩ := hr.form
  have HFi : Hid (∀ W, Below w.heap.size w W → Calls Tryz.prog 32 #[.agg #[.slice a0 M.length c0], .string n] W fun e w' => e = .returned (.int .i64 ((i : Int))) ∧ Below W.heap.size W w') := fun W hb => by
    have := find17_any _ M n W (hr.below hb) hl (fun k hk => by have := hN k hk; omega) (by omega)
    rw [hF] at this
    exact this
  have HWi : Hid (∀ (D : Bool) (va : Option Addr) (vc : Nat) W, Below w.heap.size w W → Calls Tryz.prog 46 #[.agg #[.slice a0 M.length c0], .int .i64 (i : Int), .agg (krA ⟨M[i].y, D, witho M[i].l N, va, vc⟩)] W fun e w' => KsP (wthR M i ⟨M[i].y, D, witho M[i].l N, va, vc⟩) W e w') := fun D va vc W hb => with17_any _ M i _ W (hr.below hb) hl hN (by exact hN M[i] (List.getElem_mem hi))
  have HHa : Hid (∀ W, Below w.heap.size w W → Calls Tryz.prog 52 #[M[i].vw, .int .i64 N] W fun e w' => e = .returned (.bool true) ∧ w' = W) := fun W hb => by
    have := has_any M[i].vw M[i].l N W (hw.below hb) (by omega)
    rw [decide_eq_true hH] at this
    exact this
  have HWr : Hid (∀ W, Below w.heap.size w W → IsRow W 1 M[i].vw M[i].l.length (iCells M[i].l)) := fun W hb => hw.below hb
  obtain ⟨b, off, rfl, hlt, hcap, hc⟩ := kr_at hr (by omega)
  have hq := hc i hi
  have HQ : Hid (∀ W, Below w.heap.size w W → W.cell? ⟨b, off + i * 10, none⟩ = some (.string M[i].y.t.n) ∧ W.cell? ⟨b, off + i * 10 + 1, none⟩ = some (.string M[i].y.t.p) ∧ W.cell? ⟨b, off + i * 10 + 2, none⟩ = some (M[i].y.vo) ∧ W.cell? ⟨b, off + i * 10 + 3, none⟩ = some (M[i].y.va) ∧ W.cell? ⟨b, off + i * 10 + 4, none⟩ = some (M[i].y.vc) ∧ W.cell? ⟨b, off + i * 10 + 5, none⟩ = some (.int .i64 M[i].y.t.nd) ∧ W.cell? ⟨b, off + i * 10 + 6, none⟩ = some (.int .i64 M[i].y.t.lf) ∧ W.cell? ⟨b, off + i * 10 + 7, none⟩ = some (.int .i64 M[i].y.t.sq) ∧ W.cell? ⟨b, off + i * 10 + 8, none⟩ = some (.bool M[i].s) ∧ W.cell? ⟨b, off + i * 10 + 9, none⟩ = some (M[i].vw)) := fun W hb => by
    obtain ⟨q0, q1, q2, q3, q4, q5, q6, q7, q8, q9⟩ := hq
    exact ⟨(hb.cell (p := ⟨b, _, none⟩) hlt).trans q0, (hb.cell (p := ⟨b, _, none⟩) hlt).trans q1, (hb.cell (p := ⟨b, _, none⟩) hlt).trans q2, (hb.cell (p := ⟨b, _, none⟩) hlt).trans q3, (hb.cell (p := ⟨b, _, none⟩) hlt).trans q4, (hb.cell (p := ⟨b, _, none⟩) hlt).trans q5, (hb.cell (p := ⟨b, _, none⟩) hlt).trans q6, (hb.cell (p := ⟨b, _, none⟩) hlt).trans q7, (hb.cell (p := ⟨b, _, none⟩) hlt).trans q8, (hb.cell (p := ⟨b, _, none⟩) hlt).trans q9⟩
  generalize M[i]'hi = y at *
  obtain ⟨⟨⟨yn, yp, yown, yall, ych, ynd, ylf, ysq⟩, bo, do', ba, da, bc, dc⟩, ys, yl, bw, dw⟩ := y
  dsimp only at *
  try dsimp only [KR.vw] at *
  clear hc hq
  clear hw
  obtain ⟨rfl, rfl, rfl⟩ := hB
  clear hr hN hn hF
  obtain ⟨w1, hw1⟩ : ∃ w1, w1 = w.alloc (.cells #[.slice (some ⟨b, off, none⟩) M.length c0] 27) := ⟨_, rfl⟩
  have B1 : Hid (Below w.heap.size w w1) := by show Below _ _ _; rw [hw1]; exact al_b _ _
  have hn1 : w1.heap[w.heap.size]? = some (.cells #[.slice (some ⟨b, off, none⟩) M.length c0] 27 (0, 0)) := by rw [hw1]; exact new_at _ _
  have C1 : Hid (∀ W, Below w1.heap.size w1 W → W.heap[w.heap.size]? = some (.cells #[.slice (some ⟨b, off, none⟩) M.length c0] 27 (0, 0))) := fun W h => (h.block _ (Array.getElem?_eq_some_iff.1 hn1).1).trans hn1
  clear hn1
  obtain ⟨w2, hw2⟩ : ∃ w2, w2 = w1.alloc (.cells #[.int .i64 ynd, .int .i64 ylf, .int .i64 ysq] 61) := ⟨_, rfl⟩
  have B2 : Hid (Below w1.heap.size w1 w2) := by show Below _ _ _; rw [hw2]; exact al_b _ _
  have hn2 : w2.heap[(w.heap.size + 1)]? = some (.cells #[.int .i64 ynd, .int .i64 ylf, .int .i64 ysq] 61 (0, 0)) := by rw [hw2]; rw [show w.heap.size + 1 = w1.heap.size by (rw [hw1]; simp)]; exact new_at _ _
  have C2 : Hid (∀ W, Below w2.heap.size w2 W → W.heap[(w.heap.size + 1)]? = some (.cells #[.int .i64 ynd, .int .i64 ylf, .int .i64 ysq] 61 (0, 0))) := fun W h => (h.block _ (Array.getElem?_eq_some_iff.1 hn2).1).trans hn2
  clear hn2
  obtain ⟨w3, hw3⟩ : ∃ w3, w3 = w2.alloc (.cells #[.slice none 0 0, .bool false, .int .i64 0] 73) := ⟨_, rfl⟩
  have B3 : Hid (Below w2.heap.size w2 w3) := by show Below _ _ _; rw [hw3]; exact al_b _ _
  have hn3 : w3.heap[(w.heap.size + 2)]? = some (.cells #[.slice none 0 0, .bool false, .int .i64 0] 73 (0, 0)) := by rw [hw3]; rw [show w.heap.size + 2 = w2.heap.size by (rw [hw2, hw1]; simp)]; exact new_at _ _
  have C3 : Hid (∀ W, Below w3.heap.size w3 W → W.heap[(w.heap.size + 2)]? = some (.cells #[.slice none 0 0, .bool false, .int .i64 0] 73 (0, 0))) := fun W h => (h.block _ (Array.getElem?_eq_some_iff.1 hn3).1).trans hn3
  clear hn3
  have Hz : Hid (w3.heap.size = w.heap.size + 3) := by show _ = _; rw [hw3, hw2, hw1]; simp
  have Bpq : Hid (Below w1.heap.size w1 w3) := B2.out.trans (B3.out.mono B2.out.size)
  have HBw0 : Hid (Below w.heap.size w w3) := B1.out.trans (Bpq.out.mono B1.out.size)
  have HCp : Hid (∀ W, Below w3.heap.size w3 W → W.heap[w.heap.size]? = some (.cells #[.slice (some ⟨b, off, none⟩) M.length c0] 27 (0, 0))) := fun W hb => C1.out W (Bpq.out.trans (hb.mono Bpq.out.size))
  have HCA : Hid (∀ W, Below w3.heap.size w3 W → W.cell? ⟨w.heap.size, 0, none⟩ = some (.slice (some ⟨b, off, none⟩) M.length c0) ∧ W.cell? ⟨w.heap.size + 1, 0, none⟩ = some (.int .i64 ynd) ∧ W.cell? ⟨w.heap.size + 1, 1, none⟩ = some (.int .i64 ylf) ∧ W.cell? ⟨w.heap.size + 1, 2, none⟩ = some (.int .i64 ysq)) := fun W hb => by
    have h1 := HCp.out W hb
    have h2 := C2.out W (B3.out.trans (hb.mono B3.out.size))
    exact ⟨by rw [Lib.cell_of_heap h1]; rfl, by rw [Lib.cell_of_heap h2]; rfl, by rw [Lib.cell_of_heap h2]; rfl, by rw [Lib.cell_of_heap h2]; rfl⟩
  obtain ⟨cb, i0_, i1_, i2_⟩ := HCA.out w3 (Below.refl _ _)
  rw [hw3, hw2, hw1] at cb i0_ i1_ i2_
  go_enter Tryz.func22, Tryz.ntmps22
  go_wp2_with fail
  rw [← hw1, ← hw2, ← hw3]
  clear hw1 hw2 hw3 cb i0_ i1_ i2_
  refine (HFi.out _ HBw0.out).mono ?_
  rintro e w6 ⟨rfl, hb⟩
  have B6 : Hid (Below w3.heap.size w3 w6) := hb
  have H6 : Hid (Below w.heap.size w w6) := HBw0.out.trans (hb.mono HBw0.out.size)
  clear hb HFi
  have dz : decide ((i : Int) < 0) = false := decide_eq_false (by omega)
  have p1 : (0 : Int) ≤ (i : Int) := by omega
  have p2 : (i : Int) < (M.length : Int) := by omega
  go_wp2_with fail
  refine wp_region_quiet (C := fun w' => Below w6.heap.size w6 w') (by kernel_rfl) (by kernel_rfl) ((Below.refl _ _).drew) ?_
  dsimp only
  repeat (first
    | go_big_quiet_skip
    | (go_big_quiet_want
       apply Exists.intro
       refine ⟨fun W' hW' => ?_, ?_⟩
       · have hw : Below w6.heap.size w6 W' := hW'
         obtain ⟨cb, i0_, i1_, i2_⟩ := HCA.out W' (B6.out.trans (hw.mono B6.out.size))
         obtain ⟨-, -, -, -, -, q5, q6, q7, -, q9⟩ := HQ.out W' (H6.out.trans (hw.mono H6.out.size))
         go_simp
         first
           | done
           | rfl
           | (go_at_call 52; (with_reducible refine Calls.mono (HHa.out W' (H6.out.trans (hw.mono H6.out.size))) ?_); rintro e w'' ⟨rfl, hb⟩; subst hb; exact ⟨rfl, hw⟩)
       go_big_quiet_on
       try simp only [Act.put, List.setIfInBounds_toArray, List.set_cons_zero, List.set_cons_succ]))
  refine wpQuiet_nil ?_
  intro w7 hb7
  have B7 : Hid (Below w3.heap.size w3 w7) := B6.out.trans (Below.mono hb7 B6.out.size)
  have H7 : Hid (Below w.heap.size w w7) := HBw0.out.trans (B7.out.mono HBw0.out.size)
  clear hb7
  obtain ⟨i0, hi0, hz0, hz1, hz2⟩ := info_parts info_inS
  clear HHa HCA
  go_wp2_with fail
  go_loopw [10, 11] (fun o k wr => ∃ (j : Nat) (va : Option Addr) (vc : Nat), j ≤ yl.length ∧ k = .int .i64 (j : Int) ∧ o = .slice va (witho (yl.take j) N).length vc ∧ Hid (wr.ownsRow w3.heap.size 3 1 (.slice va (witho (yl.take j) N).length vc) (witho (yl.take j) N).length (iCells (witho (yl.take j) N))) ∧ Hid (Below w3.heap.size w3 wr)) (fun _ k _ => yl.length - (intOf k).toNat)
  case atStart => exact ⟨0, none, 0, Nat.zero_le _, rfl, rfl, World.ownsRow_nil _ _ _ _, B7.out⟩
  case round =>
    obtain ⟨j, va, vc, hj, rfl, rfl, HO, HB⟩ := hrel
    have hsz := HB.out.size
    have HBw : Hid (Below w.heap.size w wr) := HBw0.out.trans (HB.out.mono HBw0.out.size)
    have hp := HCp.out wr HB.out
    have cb : wr.cell? ⟨w.heap.size, 0, none⟩ = some (.slice (some ⟨b, off, none⟩) M.length c0) := by rw [Lib.cell_of_heap hp]; rfl
    clear hp
    by_cases hlk : j < yl.length
    · have dj : decide ((j : Int) < (yl.length : Int)) = true := by simp; omega
      obtain ⟨-, -, -, -, -, -, -, -, -, q9⟩ := HQ.out wr HBw.out
      obtain ⟨b1, off1, hbw, -, hlt1, hcap1, hc1⟩ := iCells_at (HWr.out wr HBw.out) (by omega)
      have ce := hc1 j hlk
      have r1 : (0 : Int) ≤ (j : Int) := by omega
      have r2 : (j : Int) < (yl.length : Int) := by omega
      have hln : (witho (yl.take j) N).length ≤ 1000 := Nat.le_trans (List.length_filter_le _ _) (by rw [List.length_take]; omega)
      have hnx := witho_next (N := N) hlk
      subst hbw
      by_cases he : yl[j] = N
      · have HE : Hid (witho (yl.take (j + 1)) N = witho (yl.take j) N) := by rw [if_pos he, List.append_nil] at hnx; exact hnx
        rw [he] at ce
        clear hnx he hc1
        go_wp2
        go_roundw
        case rel => exact ⟨j + 1, va, vc, by omega, by simp, by rw [HE.out], by rw [HE.out]; exact HO, HB⟩
        case measure => simp [intOf]; omega
      · have HE : Hid (witho (yl.take (j + 1)) N = witho (yl.take j) N ++ [yl[j]]) := by rw [if_neg he] at hnx; exact hnx
        obtain ⟨L, hL⟩ : ∃ L, L = witho (yl.take j) N := ⟨_, rfl⟩
        rw [← hL] at HE HO hln ⊢
        generalize yl[j]'hlk = e0 at *
        clear hnx hL hc1
        go_wp2_with (at_builtin; go_loud (refine wpl_appE wr rfl (.tmp 64) (.tmp 74) 36 3 rfl i0 _ 1 8 Tryz.underlying36 hi0 hz0 hz1 hz2 rfl (by decide) w3.heap.size (.slice va L.length vc) L.length (iCells L) rfl HO.out [.int .i64 e0] rfl _ rfl rfl (by simp [Value.oneCell']) (by omega) (by unfold maxLen; omega) hsz ?_; intro v4 w4 ho4 hb4; obtain ⟨va4, vc4, rfl⟩ := (IsRow.own ho4).form))
        have HB4 : Hid (Below w3.heap.size w3 w4) := HB.out.trans hb4
        have HO4 : Hid (w4.ownsRow w3.heap.size 3 1 (.slice va4 (L.length + 1) vc4) (L.length + 1) (iCells L ++ [.int .i64 e0])) := ho4
        clear ho4 hb4 HO cb q9 ce
        go_wp2
        go_roundw
        case rel => exact ⟨j + 1, va4, vc4, by omega, by simp, by rw [HE.out, List.length_append, List.length_singleton], by show World.ownsRow _ _ _ _ _ _ _; rw [HE.out, List.length_append, List.length_singleton, iCells, List.map_append]; exact HO4.out, HB4⟩
        case measure => simp [intOf]; omega
    · obtain rfl : j = yl.length := by omega
      have dj : decide ((yl.length : Int) < (yl.length : Int)) = false := by simp
      rw [witho_all] at HO ⊢
      obtain ⟨D, hD⟩ : ∃ D, D = decide ((witho yl N).length = 0) := ⟨_, rfl⟩
      obtain ⟨WL, hWL⟩ : ∃ WL, WL = witho yl N := ⟨_, rfl⟩
      rw [← hWL] at HO hD HWi ⊢
      have e1 : decide ((WL.length : Int) = 0) = D := by rw [hD, Bool.eq_iff_iff, decide_eq_true_eq, decide_eq_true_eq]; omega
      have e2 : ((WL.length : Int) == 0) = D := by rw [← e1]; rfl
      have HRo : Hid (∀ W, Below wr.heap.size wr W → IsRow W 1 (.slice va WL.length vc) WL.length (iCells WL)) := fun W h => (IsRow.own HO.out).below h
      have HNw : Hid (NewA w3.heap.size va) := NewA.own HO.out
      have HW1 : Hid (∀ W, Below w.heap.size w W → Calls Tryz.prog 46 #[.agg #[.slice (some ⟨b, off, none⟩) M.length c0], .int .i64 (i : Int), .agg (krA (⟨⟨⟨yn, yp, yown, yall, ych, ynd, ylf, ysq⟩, bo, do', ba, da, bc, dc⟩, D, WL, va, vc⟩ : KR))] W fun e w' => KsP (wthR M i (⟨⟨⟨yn, yp, yown, yall, ych, ynd, ylf, ysq⟩, bo, do', ba, da, bc, dc⟩, D, WL, va, vc⟩ : KR)) W e w') := HWi.out D va vc
      have HDp : Hid (∀ e w', SuRP (wthR M i (⟨⟨⟨yn, yp, yown, yall, ych, ynd, ylf, ysq⟩, bo, do', ba, da, bc, dc⟩, D, WL, va, vc⟩ : KR)) D w e w' → IsRow w' 1 (.slice va WL.length vc) WL.length (iCells WL) → StRP M i ⟨⟨yn, yp, yown, yall, ych, ynd, ylf, ysq⟩, bo, do', ba, da, bc, dc⟩ (witho yl N) w e w') := fun e w' h1 h2 => by
        rw [hD] at h1
        rw [← hWL]
        exact ⟨va, vc, h1, h2, HNw.out.le HBw0.out.size⟩
      generalize wthR M i (⟨⟨⟨yn, yp, yown, yall, ych, ynd, ylf, ysq⟩, bo, do', ba, da, bc, dc⟩, D, WL, va, vc⟩ : KR) = RES at *
      obtain ⟨w6', hw6'⟩ : ∃ w6', w6' = wr := ⟨_, rfl⟩
      have B6' : Hid (Below w3.heap.size w3 wr) := HB.out
      obtain ⟨q0, q1, q2, q3, q4, q5, q6, q7, -, q9⟩ := HQ.out wr HBw.out
      clear hw6' w6' HO HWi hWL hD hsz
      obtain ⟨wk, hwk⟩ : ∃ wk, wk = wr.alloc (.cells (krA (⟨⟨⟨yn, yp, yown, yall, ych, ynd, ylf, ysq⟩, bo, do', ba, da, bc, dc⟩, D, WL, va, vc⟩ : KR)) 80) := ⟨_, rfl⟩
      have Bk : Hid (Below w3.heap.size w3 wk) := by show Below _ _ _; rw [hwk]; exact HB.out.trans ((al_b wr _).mono HB.out.size)
      have hnk : wk.heap[wr.heap.size]? = some (.cells (krA (⟨⟨⟨yn, yp, yown, yall, ych, ynd, ylf, ysq⟩, bo, do', ba, da, bc, dc⟩, D, WL, va, vc⟩ : KR)) 80 (0, 0)) := by rw [hwk]; exact new_at _ _
      have Hk : Hid (Below w.heap.size w wk) := HBw0.out.trans (Bk.out.mono HBw0.out.size)
      have Brk : Hid (Below wr.heap.size wr wk) := by show Below _ _ _; rw [hwk]; exact al_b _ _
      go_wp2_with fail
      rw [← hwk]
      have HDk : Hid (Below wk.heap.size wk wk.drew) := (Below.refl _ _).drew
      have HS : Hid (∀ W, Below wk.heap.size wk W → Bx2 w.heap.size wr.heap.size (.slice (some ⟨b, off, none⟩) M.length c0) (⟨⟨⟨yn, yp, yown, yall, ych, ynd, ylf, ysq⟩, bo, do', ba, da, bc, dc⟩, D, WL, va, vc⟩ : KR) W) := fun W hb => Bx2.of (HCp.out W (Bk.out.trans (hb.mono Bk.out.size))) ((hb.block _ (Array.getElem?_eq_some_iff.1 hnk).1).trans hnk)
      have Hltk : Hid (w.heap.size + 2 < wr.heap.size) := by
        have h1 := HB.out.size
        have h2 := Hz.out
        show _ < _
        omega
      have HS3 : Hid (∀ W, Bx2 w.heap.size wr.heap.size (.slice (some ⟨b, off, none⟩) M.length c0) (⟨⟨⟨yn, yp, yown, yall, ych, ynd, ylf, ysq⟩, bo, do', ba, da, bc, dc⟩, D, WL, va, vc⟩ : KR) W → ∀ u0 u1 u2, Bx2 w.heap.size wr.heap.size (.slice (some ⟨b, off, none⟩) M.length c0) (⟨⟨⟨yn, yp, yown, yall, ych, ynd, ylf, ysq⟩, bo, do', ba, da, bc, dc⟩, D, WL, va, vc⟩ : KR) (((W.setCell ⟨w.heap.size + 2, 0, none⟩ u0).setCell ⟨w.heap.size + 2, 1, none⟩ u1).setCell ⟨w.heap.size + 2, 2, none⟩ u2)) := fun W h u0 u1 u2 => by
        have hh := Hltk.out
        have c : ∀ (g j : Nat), g ≠ w.heap.size + 2 → (((W.setCell ⟨w.heap.size + 2, 0, none⟩ u0).setCell ⟨w.heap.size + 2, 1, none⟩ u1).setCell ⟨w.heap.size + 2, 2, none⟩ u2).cell? ⟨g, j, none⟩ = W.cell? ⟨g, j, none⟩ := fun g j hg => by
          have h1 : (((W.setCell ⟨w.heap.size + 2, 0, none⟩ u0).setCell ⟨w.heap.size + 2, 1, none⟩ u1).setCell ⟨w.heap.size + 2, 2, none⟩ u2).heap[g]? = W.heap[g]? := (Below.heap_setCell _ _ _ _ hg).trans ((Below.heap_setCell _ _ _ _ hg).trans (Below.heap_setCell _ _ _ _ hg))
          unfold World.cell?
          rw [h1]
        obtain ⟨a, b0, b1, b2, b3, b4, b5, b6, b7, b8, b9⟩ := h
        exact ⟨(c _ 0 (by omega)).trans a, (c _ 0 (by omega)).trans b0, (c _ 1 (by omega)).trans b1, (c _ 2 (by omega)).trans b2, (c _ 3 (by omega)).trans b3, (c _ 4 (by omega)).trans b4, (c _ 5 (by omega)).trans b5, (c _ 6 (by omega)).trans b6, (c _ 7 (by omega)).trans b7, (c _ 8 (by omega)).trans b8, (c _ 9 (by omega)).trans b9⟩
      have HCq : Hid (∀ W, Below wk.heap.size wk W → W.heap[w.heap.size + 2]? = some (.cells #[.slice none 0 0, .bool false, .int .i64 0] 73 (0, 0))) := fun W hb => C3.out W (Bk.out.trans (hb.mono Bk.out.size))
      clear hwk hnk q0 q1 q2 q3 q4 q5 q6 q7 q9 cb HQ e1 e2 C1 C2 C3 HCp HWr
      refine wp_region_held_drew (S := Bx2 w.heap.size wr.heap.size (.slice (some ⟨b, off, none⟩) M.length c0) (⟨⟨⟨yn, yp, yown, yall, ych, ynd, ylf, ysq⟩, bo, do', ba, da, bc, dc⟩, D, WL, va, vc⟩ : KR)) (by kernel_rfl) (HS.out _ HDk.out) (fun hHeld => ?_)
      generalize wk.drew = wd at *
      refine wpAnyH_take (i := 0) (v := ?_) rfl (by kernel_rfl) (by kernel_rfl) (by kernel_rfl) (fun _ _ _ h => h) (Or.inl ⟨by rfl, ?_⟩) hHeld ?_
      rotate_left 1
      · intro w9 hSw; obtain ⟨s0, g0, g1, g2, g3, g4, g5, g6, g7, g8, g9⟩ := hSw; go_simp; try with_reducible rfl
      change wpAnyH _ _ _ _ _ _ _ (Act.put _ (some 87) _) _
      simp only [Act.put, List.setIfInBounds_toArray, List.set_cons_zero, List.set_cons_succ]
      refine wpAnyH_take (i := 1) (v := ?_) rfl (by kernel_rfl) (by kernel_rfl) (by kernel_rfl) (fun _ _ _ h => h) (Or.inl ⟨by rfl, ?_⟩) hHeld ?_
      rotate_left 1
      · intro w9 hSw; obtain ⟨s0, g0, g1, g2, g3, g4, g5, g6, g7, g8, g9⟩ := hSw; go_simp; try with_reducible rfl
      change wpAnyH _ _ _ _ _ _ _ (Act.put _ (some 88) _) _
      simp only [Act.put, List.setIfInBounds_toArray, List.set_cons_zero, List.set_cons_succ]
      refine wpAnyH_take (i := 2) (v := ?_) rfl (by kernel_rfl) (by kernel_rfl) (by kernel_rfl) (fun _ _ _ h => h) (Or.inl ⟨by rfl, ?_⟩) hHeld ?_
      rotate_left 1
      · intro w9 hSw; obtain ⟨s0, g0, g1, g2, g3, g4, g5, g6, g7, g8, g9⟩ := hSw; go_simp; try with_reducible rfl
      change wpAnyH _ _ _ _ _ _ _ (Act.put _ (some 89) _) _
      simp only [Act.put, List.setIfInBounds_toArray, List.set_cons_zero, List.set_cons_succ]
      refine wpAnyH_take (i := 4) (v := ?_) rfl (by kernel_rfl) (by kernel_rfl) (by kernel_rfl) (fun _ _ _ h => h) (Or.inl ⟨by rfl, ?_⟩) hHeld ?_
      rotate_left 1
      · intro w9 hSw; obtain ⟨s0, g0, g1, g2, g3, g4, g5, g6, g7, g8, g9⟩ := hSw; go_simp; try with_reducible rfl
      change wpAnyH _ _ _ _ _ _ _ (Act.put _ (some 91) _) _
      simp only [Act.put, List.setIfInBounds_toArray, List.set_cons_zero, List.set_cons_succ]
      refine wpAnyH_take (i := 5) (v := ?_) rfl (by kernel_rfl) (by kernel_rfl) (by kernel_rfl) (fun _ _ _ h => h) (Or.inl ⟨by rfl, ?_⟩) hHeld ?_
      rotate_left 1
      · intro w9 hSw; obtain ⟨s0, g0, g1, g2, g3, g4, g5, g6, g7, g8, g9⟩ := hSw; go_simp; try with_reducible rfl
      change wpAnyH _ _ _ _ _ _ _ (Act.put _ (some 92) _) _
      simp only [Act.put, List.setIfInBounds_toArray, List.set_cons_zero, List.set_cons_succ]
      refine wpAnyH_ready (rs := [3]) (by kernel_rfl) (by simp) ?_
      refine AllReadyH.cons rfl (fun K hK => ?_) AllReadyH.nil
      go_simp
      refine (HW1.out _ (Hk.out.trans (HDk.out.mono Hk.out.size))).mono ?_
      rintro e wf ⟨xa, ya, rfl, hrow, hnew, hbf⟩
      have HBf : Hid (Below wk.heap.size wk wf) := HDk.out.trans (hbf.mono HDk.out.size)
      have HRw : Hid (IsRow wf 10 (.slice xa RES.length ya) RES.length (kCells RES) ∧ NewA wd.heap.size xa) := ⟨hrow, hnew⟩
      clear hbf hrow hnew
      go_simp
      refine hK.out _ _ (HS.out _ HBf.out) (fun hHeld => ?_)
      clear hK K
      refine wpAnyH_take (i := 6) (v := ?_) rfl (by kernel_rfl) (by kernel_rfl) (by kernel_rfl) (fun _ _ _ h => h) (Or.inl ⟨by rfl, ?_⟩) hHeld ?_
      rotate_left 1
      · intro w9 hSw; obtain ⟨s0, g0, g1, g2, g3, g4, g5, g6, g7, g8, g9⟩ := hSw; go_simp; try with_reducible rfl
      change wpAnyH _ _ _ _ _ _ _ (Act.put _ (some 93) _) _
      simp only [Act.put, List.setIfInBounds_toArray, List.set_cons_zero, List.set_cons_succ]
      have hq := HCq.out _ HBf.out
      have c0_ : wf.cell? ⟨w.heap.size + 2, 0, none⟩ = some (.slice none 0 0) := by rw [Lib.cell_of_heap hq]; rfl
      have c1_ : wf.cell? ⟨w.heap.size + 2, 1, none⟩ = some (.bool false) := by rw [Lib.cell_of_heap hq]; rfl
      have c2_ : wf.cell? ⟨w.heap.size + 2, 2, none⟩ = some (.int .i64 0) := by rw [Lib.cell_of_heap hq]; rfl
      have fz : ∀ j, wf.frozen? ⟨w.heap.size + 2, j, none⟩ = false := fun j => Lib.frozen_of_heap hq j
      clear hq
      refine wpAnyH_ready (rs := [7]) (by kernel_rfl) (by simp) ?_
      refine AllReadyH.cons rfl (fun K hK => ?_) AllReadyH.nil
      go_simp
      refine hK.out _ _ (HS3.out _ (HS.out _ HBf.out) _ _ _) (fun hHeld => ?_)
      clear hK K
      refine wpAnyH_done (by kernel_rfl) ?_ _
      clear hHeld
      have HE : Hid (∀ u0 u1 u2, StRP M i ⟨⟨yn, yp, yown, yall, ych, ynd, ylf, ysq⟩, bo, do', ba, da, bc, dc⟩ (witho yl N) w (.returned (.agg #[.slice xa RES.length ya, .bool D, .int .i64 0])) (((wf.setCell ⟨w.heap.size + 2, 0, none⟩ u0).setCell ⟨w.heap.size + 2, 1, none⟩ u1).setCell ⟨w.heap.size + 2, 2, none⟩ u2)) := fun u0 u1 u2 => by
        have hs1 := Bk.out.size
        have hs2 := Hz.out
        have hs3 := HDk.out.size
        have hrw := HRo.out wf (Brk.out.trans (HBf.out.mono Brk.out.size))
        refine HDp.out _ _ ⟨xa, ya, rfl, row_far (row_far (row_far HRw.out.1 HRw.out.2 (by omega) 0 _) HRw.out.2 (by omega) 1 _) HRw.out.2 (by omega) 2 _, HRw.out.2.le (by omega), below3 (Hk.out.trans (HBf.out.mono Hk.out.size)) (Nat.le_add_right _ 2) u0 u1 u2⟩ ?_
        exact row_far (row_far (row_far hrw HNw.out (by omega) 0 _) HNw.out (by omega) 1 _) HNw.out (by omega) 2 _
      clear HRw HS HS3 HBf HDk HW1 HDp HRo HNw
      go_wp2_with fail
      try simp only [Exit.inBlock, Exit.then]
      refine bodyPost_ret (v := .agg #[.slice xa RES.length ya, .bool D, .int .i64 0]) ?_ rfl (HE.out _ _ _)
      rw [results_c1 rfl]; go_simp
      first | done | exact ⟨rfl, rfl, rfl⟩
end Go.Proofs.YtlndgepoekllkaaGreatDoor
/- Chains of a forest: plain mathematics. -/
namespace Go.Proofs.YtlndgepoekllkaaGreatDoor
open Go.RowKit

end Go.Proofs.YtlndgepoekllkaaGreatDoor
/- The reference's Check of a value (VS over again beside the names), its Simple, same, may: walks. -/
namespace Go.Proofs.YtlndgepoekllkaaGreatDoor
open Go.RowKit

set_option maxRecDepth 100000 in
theorem refSimple_any (s : ByteArray) (w : World) (hs : s.size ≤ 900000) :
    Calls Tryz.prog 108 #[.string s] w fun e w' => e = .returned (.bool (oneP s)) ∧ Below w.heap.size w w' := by
  have HC : Hid (Calls Tryz.prog 73 #[.string s] w fun e w' => e = .returned (.int .i64 (checkL s.data.toList)) ∧ Below w.heap.size w w') := refCheck_any s w hs
  by_cases hc : checkL s.data.toList = 0
  · have e0 : oneP s = decide ((cutB s.data.toList).length = 1) := by unfold oneP; rw [decide_eq_true hc, Bool.true_and]
    rw [e0]
    have HP : Hid (∀ w', Calls Tryz.prog 126 #[.string s] w' fun e w'' => PaPost (cutB s.data.toList) w' e w'') := fun w' => refParts_ok s w' hs hc
    rw [hc] at HC
    clear e0 hc
    generalize cutB s.data.toList = L at *
    go_enter Tryz.func108, Tryz.ntmps108
    go_wp2_with fail
    refine HC.out.mono ?_
    rintro e w1 ⟨rfl, hb⟩
    have HB : Hid (Below w.heap.size w w1) := hb
    clear hb
    go_wp2_with fail
    refine (HP.out w1).mono ?_
    rintro e w2 ⟨v, rfl, hr, hb⟩
    obtain ⟨a, cap, rfl⟩ := hr.form
    have HB2 : Hid (Below w.heap.size w w2) := HB.out.trans (hb.mono HB.out.size)
    have HE : Hid (((L.length : Int) == 1) = decide (L.length = 1)) := by show _ = _; rw [Bool.eq_iff_iff]; simp; omega
    clear hr hb
    go_wp2
    go_ret
    exact ⟨by rw [← HE.out]; rfl, HB2.out⟩
  · have e0 : oneP s = false := by unfold oneP; rw [decide_eq_false hc, Bool.false_and]
    rw [e0]
    have dn : (checkL s.data.toList == 0) = false := by rw [beq_eq_false_iff_ne]; exact hc
    generalize checkL s.data.toList = c at *
    clear hc e0
    go_enter Tryz.func108, Tryz.ntmps108
    go_wp2_with fail
    refine HC.out.mono ?_
    rintro e w1 ⟨rfl, hb⟩
    have HB : Hid (Below w.heap.size w w1) := hb
    clear hb
    go_wp2
    go_ret
    exact ⟨rfl, HB.out⟩
theorem eq_str (A B : List UInt8) : ((str A).toList == (str B).toList) = decide (A = B) := by
  rw [ByteArray.toList_eq, ByteArray.toList_eq, str_data, str_data, Bool.eq_iff_iff]; simp
set_option maxRecDepth 100000 in
theorem refSameN_any (a b : ByteArray) (w : World) (ha : a.size ≤ 1000000) (hb : b.size ≤ 1000000) :
    Calls Tryz.prog 111 #[.string a, .string b] w fun e w' => e = .returned (.bool (sameL a.data.toList b.data.toList)) ∧ Below w.heap.size w w' := by
  have HE : Hid (((str (foldL a.data.toList)).toList == (str (foldL b.data.toList)).toList) = sameL a.data.toList b.data.toList) := eq_str _ _
  have HA : Hid (Calls Tryz.prog 85 #[.string a] w fun e w' => e = .returned (.string (str (foldL a.data.toList))) ∧ Below w.heap.size w w') := refFold_any a w ha
  have HB : Hid (∀ w', Calls Tryz.prog 85 #[.string b] w' fun e w'' => e = .returned (.string (str (foldL b.data.toList))) ∧ Below w'.heap.size w' w'') := fun w' => refFold_any b w' hb
  generalize str (foldL a.data.toList) = A at *
  generalize str (foldL b.data.toList) = B at *
  generalize sameL a.data.toList b.data.toList = r at *
  go_enter Tryz.func111, Tryz.ntmps111
  go_wp2_with fail
  refine HA.out.mono ?_
  rintro e w1 ⟨rfl, h1⟩
  have H1 : Hid (Below w.heap.size w w1) := h1
  clear h1
  go_wp2_with fail
  refine (HB.out w1).mono ?_
  rintro e w2 ⟨rfl, h2⟩
  have H2 : Hid (Below w.heap.size w w2) := H1.out.trans (h2.mono H1.out.size)
  clear h2
  go_wp2
  go_ret
  exact ⟨by rw [← HE.out]; rfl, H2.out⟩
set_option maxRecDepth 100000 in
theorem refMay_any (x : Fd) (w : World) (hs : x.n.size ≤ 900000) :
    Calls Tryz.prog 90 #[fV x] w fun e w' => e = .returned (.bool (mayF x)) ∧ Below w.heap.size w w' := by
  obtain ⟨s, k, m⟩ := x
  have hA := al_b w (.cells #[.string s, .int .i64 k, .bool m] 126)
  have HS : Hid (Calls Tryz.prog 108 #[.string s] (w.alloc (.cells #[.string s, .int .i64 k, .bool m] 126)) fun e w' => e = .returned (.bool (oneP s)) ∧ Below (w.alloc (.cells #[.string s, .int .i64 k, .bool m] 126)).heap.size (w.alloc (.cells #[.string s, .int .i64 k, .bool m] 126)) w') := refSimple_any s _ hs
  have HA : Hid (Below w.heap.size w (w.alloc (.cells #[.string s, .int .i64 k, .bool m] 126))) := hA
  have HZ : Hid (∀ w', Below (w.alloc (.cells #[.string s, .int .i64 k, .bool m] 126)).heap.size (w.alloc (.cells #[.string s, .int .i64 k, .bool m] 126)) w' → w'.cell? ⟨w.heap.size, 1, none⟩ = some (.int .i64 k)) := fun w' h => (h.cell (p := ⟨w.heap.size, 1, none⟩) (by simp)).trans (by simp)
  clear hA
  have HE : Hid (mayF ⟨s, k, m⟩ = (oneP s && (decide (1 ≤ k) && decide (k ≤ 4)))) := by
    show (decide (1 ≤ k) && (decide (k < 5) && oneP s)) = _
    rw [show decide (k < 5) = decide (k ≤ 4) by rw [Bool.eq_iff_iff]; simp; omega]
    cases oneP s <;> cases decide (1 ≤ k) <;> cases decide (k ≤ 4) <;> rfl
  rw [HE.out]
  clear HE
  generalize oneP s = p at *
  cases p with
  | false =>
    rw [Bool.false_and]
    go_enter Tryz.func90, Tryz.ntmps90
    go_wp2_with fail
    refine HS.out.mono ?_
    rintro e w1 ⟨rfl, hb⟩
    have HB : Hid (Below w.heap.size w w1) := HA.out.trans (hb.mono HA.out.size)
    clear hb
    go_wp2
    go_ret
    exact ⟨rfl, HB.out⟩
  | true =>
    rw [Bool.true_and]
    by_cases h1 : 1 ≤ k
    · rw [decide_eq_true h1, Bool.true_and]
      go_enter Tryz.func90, Tryz.ntmps90
      go_wp2_with fail
      refine HS.out.mono ?_
      rintro e w1 ⟨rfl, hb⟩
      have HB : Hid (Below w.heap.size w w1) := HA.out.trans (hb.mono HA.out.size)
      have z1 := HZ.out w1 hb
      clear hb
      go_wp2
      go_ret
      exact ⟨rfl, HB.out⟩
    · rw [decide_eq_false h1, Bool.false_and]
      go_enter Tryz.func90, Tryz.ntmps90
      go_wp2_with fail
      refine HS.out.mono ?_
      rintro e w1 ⟨rfl, hb⟩
      have HB : Hid (Below w.heap.size w w1) := HA.out.trans (hb.mono HA.out.size)
      have z1 := HZ.out w1 hb
      clear hb
      go_wp2
      go_ret
      exact ⟨rfl, HB.out⟩
end Go.Proofs.YtlndgepoekllkaaGreatDoor
