/- The reference's Send: its walk. -/
import Derived.Test.YthbhgblgacoklaaHX
namespace Go.Proofs.Ythbhgblgacoklaa
open Go.RowKit

theorem results_cs {fn : Func} {p q : Tmp} {ty : TypeId} (h : fn.results = #[.cell p ty, .tmp q]) (tmps : Array Value) (P : Program) (w : World) :
    (results fn tmps).run P w = ((asAddr (tmps.getD p undef)).run P w).andThen fun a w₁ => ((loadVar ty a).run P w₁).andThen fun v w₂ => .ok (.tuple #[v, tmps.getD q undef]) w₂ := by
  simp only [results, h]
  simp [Sem.run_bind, Result.andThen]
/-- What a net is behind a packet that was sent, and the answer. -/
def sndL (L : List Pk) (p : Pk) : List Pk × Int := if chkP p = true then (if 400 ≤ L.length then (L, 6) else (L ++ [p], 0)) else (L, 1)
def SnPost (r : List Pk × Int) (v0 u : Value) (w : World) (e : Ending) (w' : World) : Prop := ∃ v, e = .returned (.tuple #[.agg #[v, u], .int .i64 r.2]) ∧ IsRow w' 7 v r.1.length (pCells r.1) ∧ Below w.heap.size w w' ∧ FrB w v v0
abbrev box3 (w : World) (v u : Value) (p : Pk) : World := ((w.alloc (.cells #[v, u] 28)).alloc (.cells (pA p) 48)).alloc (.cells #[.slice none 0 0, .slice none 0 0] 28)
theorem seven_at {w : World} {b : Nat} {p : Pk} {t : TypeId} (h : w.heap[b]? = some (.cells (pA p) t)) :
    w.cell? ⟨b, 0, none⟩ = some (.int .i64 p.f) ∧ w.cell? ⟨b, 1, none⟩ = some (.int .i64 p.t) ∧ w.cell? ⟨b, 2, none⟩ = some (.int .i64 p.fl) ∧ w.cell? ⟨b, 3, none⟩ = some (.int .i64 p.tl) ∧ w.cell? ⟨b, 4, none⟩ = some (.int .i64 p.sq) ∧ w.cell? ⟨b, 5, none⟩ = some (.int .i64 p.ak) ∧ w.cell? ⟨b, 6, none⟩ = some (.string p.x) :=
  ⟨by rw [Lib.cell_of_heap h]; rfl, by rw [Lib.cell_of_heap h]; rfl, by rw [Lib.cell_of_heap h]; rfl, by rw [Lib.cell_of_heap h]; rfl, by rw [Lib.cell_of_heap h]; rfl, by rw [Lib.cell_of_heap h]; rfl, by rw [Lib.cell_of_heap h]; rfl⟩
theorem box3_facts {w : World} {v u : Value} {p : Pk} {l : List Pk} (hr : IsRow w 7 v l.length (pCells l)) :
    w.heap.size + 2 < (box3 w v u p).heap.size ∧ ∀ w', Below (box3 w v u p).heap.size (box3 w v u p) w' → w'.heap[w.heap.size]? = some (.cells #[v, u] 28) ∧ w'.heap[w.heap.size + 1]? = some (.cells (pA p) 48) ∧ w'.heap[w.heap.size + 2]? = some (.cells #[.slice none 0 0, .slice none 0 0] 28) ∧ IsRow w' 7 v l.length (pCells l) ∧ Below w.heap.size w w' := by
  have b1 : Below w.heap.size w ((w.alloc (.cells #[v, u] 28)).alloc (.cells (pA p) 48)) := (al_b w _).trans ((al_b _ _).mono (al_b w _).size)
  have b0 : Below w.heap.size w (box3 w v u p) := b1.trans ((al_b _ _).mono b1.size)
  have hn : w.heap.size + 2 < (box3 w v u p).heap.size := by simp [box3]
  refine ⟨hn, fun w' h => ⟨?_, ?_, ?_, hr.below (b0.trans (h.mono b0.size)), b0.trans (h.mono b0.size)⟩⟩
  · rw [h.block _ (by omega)]
    show (((w.heap.push _).push _).push _)[w.heap.size]? = _
    rw [Array.getElem?_push, if_neg (by first | (simp; done) | (simp; omega)), Array.getElem?_push, if_neg (by first | (simp; done) | (simp; omega)), Array.getElem?_push, if_pos rfl]
  · rw [h.block _ (by omega)]
    show (((w.heap.push _).push _).push _)[w.heap.size + 1]? = _
    rw [Array.getElem?_push, if_neg (by first | (simp; done) | (simp; omega)), Array.getElem?_push, if_pos (by simp)]
  · rw [h.block _ hn]
    show (((w.heap.push _).push _).push _)[w.heap.size + 2]? = _
    rw [Array.getElem?_push, if_pos (by simp)]
theorem pk_take (L : List Pk) (k : Nat) (hk : k < L.length) : pCells (L.take (k + 1)) = pCells (L.take k) ++ enP L[k] := by
  rw [List.take_succ_eq_append_getElem hk, pCells_app, pCells_one]
set_option maxRecDepth 100000 in
set_option maxHeartbeats 4000000 in
theorem refSend_any (v : Value) (au : Option Addr) (nu cu : Nat) (L : List Pk) (p : Pk) (w : World) (hr : IsRow w 7 v L.length (pCells L)) (hl : L.length ≤ 100000) :
    Calls Try.prog 27 #[.agg #[v, .slice au nu cu], pV p] w fun e w' => SnPost (sndL L p) v (.slice au nu cu) w e w' := by
  obtain ⟨a0, cap0, rfl⟩ := hr.form
  obtain ⟨i0, hi0, hz0, hz1, hz2⟩ := info_parts info_rp
  obtain ⟨hn1, hG⟩ := box3_facts (u := .slice au nu cu) (p := p) hr
  obtain ⟨W0, hW0⟩ : ∃ W0, W0 = box3 w (.slice a0 L.length cap0) (.slice au nu cu) p := ⟨_, rfl⟩
  rw [← hW0] at hn1 hG
  have HG : Hid _ := hG
  have HC : Hid (Calls Try.prog 41 #[pV p] W0 fun e w' => e = .returned (.bool (chkP p)) ∧ Below W0.heap.size W0 w') := refCheckP_any p W0
  have HRw : Hid (∀ w', Below w.heap.size w w' → IsRow w' 7 (.slice a0 L.length cap0) L.length (pCells L)) := fun w' h => hr.below h
  clear hG hr
  cases hc : chkP p with
  | false =>
    have HE : Hid (sndL L p = (L, 1)) := by show _ = _; unfold sndL; rw [hc]; rfl
    rw [hc] at HC
    obtain ⟨p0, p1, p2, p3, p4, p5, p6⟩ := p
    clear hc
    go_enter Try.func27, Try.ntmps27
    go_wp2_with fail
    unfold box3 at hW0
    rw [← hW0]
    clear hW0
    refine HC.out.mono ?_
    rintro e w1 ⟨rfl, hb1⟩
    obtain ⟨x0, -, x2, -, hbw⟩ := HG.out w1 hb1
    obtain ⟨g0, g1, f0, f1⟩ := two_at x0
    obtain ⟨g2, g3, f2, f3⟩ := two_at x2
    have HX : Hid (∀ y z, Below w.heap.size w ((w1.setCell ⟨w.heap.size + 2, 0, none⟩ y).setCell ⟨w.heap.size + 2, 1, none⟩ z)) := fun y z => (hbw.setCell (p := ⟨w.heap.size + 2, 0, none⟩) (Nat.le_add_right _ 2) y).setCell (p := ⟨w.heap.size + 2, 1, none⟩) (Nat.le_add_right _ 2) z
    clear hb1 x0 x2 hbw HG
    go_wp2_with fail
    try simp only [Exit.inBlock, Exit.then]
    refine bodyPost_ret (v := .tuple #[.agg #[.slice a0 L.length cap0, .slice au nu cu], .int .i64 1]) ?_ rfl ⟨_, by rw [HE.out], by rw [HE.out]; exact HRw.out _ (HX.out _ _), HX.out _ _, .inl rfl⟩
    rw [results_cs rfl]; go_simp
  | true =>
    rw [hc] at HC
    by_cases h400 : 400 ≤ L.length
    · have HE : Hid (sndL L p = (L, 6)) := by show _ = _; unfold sndL; rw [if_pos hc, if_pos h400]
      have d4 : decide ((400 : Int) ≤ (L.length : Int)) = true := by rw [decide_eq_true_eq]; omega
      obtain ⟨p0, p1, p2, p3, p4, p5, p6⟩ := p
      clear hc
      go_enter Try.func27, Try.ntmps27
      go_wp2_with fail
      unfold box3 at hW0
      rw [← hW0]
      clear hW0
      refine HC.out.mono ?_
      rintro e w1 ⟨rfl, hb1⟩
      obtain ⟨x0, -, x2, -, hbw⟩ := HG.out w1 hb1
      obtain ⟨g0, g1, f0, f1⟩ := two_at x0
      obtain ⟨g2, g3, f2, f3⟩ := two_at x2
      have HX : Hid (∀ y z, Below w.heap.size w ((w1.setCell ⟨w.heap.size + 2, 0, none⟩ y).setCell ⟨w.heap.size + 2, 1, none⟩ z)) := fun y z => (hbw.setCell (p := ⟨w.heap.size + 2, 0, none⟩) (Nat.le_add_right _ 2) y).setCell (p := ⟨w.heap.size + 2, 1, none⟩) (Nat.le_add_right _ 2) z
      clear hb1 x0 x2 hbw HG
      go_wp2_with fail
      try simp only [Exit.inBlock, Exit.then]
      refine bodyPost_ret (v := .tuple #[.agg #[.slice a0 L.length cap0, .slice au nu cu], .int .i64 6]) ?_ rfl ⟨_, by rw [HE.out], by rw [HE.out]; exact HRw.out _ (HX.out _ _), HX.out _ _, .inl rfl⟩
      rw [results_cs rfl]; go_simp
    · have HE : Hid (sndL L p = (L ++ [p], 0)) := by show _ = _; unfold sndL; rw [if_pos hc, if_neg h400]
      have d4 : decide ((400 : Int) ≤ (L.length : Int)) = false := by rw [decide_eq_false_iff_not]; omega
      obtain ⟨p0, p1, p2, p3, p4, p5, p6⟩ := p
      clear hc
      go_enter Try.func27, Try.ntmps27
      go_wp2_with fail
      unfold box3 at hW0
      rw [← hW0]
      clear hW0
      refine HC.out.mono ?_
      rintro e w1 ⟨rfl, hb1⟩
      obtain ⟨x0, -, -, -, -⟩ := HG.out w1 hb1
      obtain ⟨g0, g1, f0, f1⟩ := two_at x0
      clear x0
      go_wp2_with fail
      go_loopw [6, 7] (fun o i wr => ∃ k : Nat, k ≤ L.length ∧ i = .int .i64 (k : Int) ∧ wr.ownsRow W0.heap.size 48 7 o k (pCells (L.take k)) ∧ Below W0.heap.size W0 wr) (fun _ i _ => L.length - (intOf i).toNat)
      case atStart => exact ⟨0, Nat.zero_le _, rfl, World.ownsRow_nil _ _ _ _, hb1⟩
      case round =>
        clear g0 g1 f0 f1 hb1
        obtain ⟨k, hk, rfl, hown, hB⟩ := hrel
        have hsz := hB.size
        obtain ⟨x0, x1, x2, hrow, hbw⟩ := HG.out wr hB
        obtain ⟨g0, g1, f0, f1⟩ := two_at x0
        by_cases hlk : k < L.length
        · obtain ⟨b, off, rfl, hlt, hcap, hc⟩ := pk_at hrow (by omega)
          obtain ⟨c0, c1, c2, c3, c4, c5, c6⟩ := hc k hlk
          have q1 : (0 : Int) ≤ (k : Int) := by omega
          have q2 : (k : Int) < (L.length : Int) := by omega
          have HB : Hid (Below W0.heap.size W0 wr) := hB
          have HO : Hid (wr.ownsRow W0.heap.size 48 7 u6 k (pCells (L.take k))) := hown
          have HT : Hid (pCells (L.take (k + 1)) = pCells (L.take k) ++ enP L[k]) := pk_take L k hlk
          generalize L[k]'hlk = q at *
          obtain ⟨q0, q1', q2', q3, q4, q5, q6⟩ := q
          dsimp only at c0 c1 c2 c3 c4 c5 c6
          clear hown hB hc hrow hbw x0 x1 x2
          go_wp2_with (at_builtin; go_loud (refine wpl_appE wr rfl (.tmp 24) (.tmp 30) 25 48 rfl i0 _ 7 64 Try.underlying25 hi0 hz0 hz1 hz2 rfl (by decide) W0.heap.size u6 k _ rfl HO.out (enP ⟨q0, q1', q2', q3, q4, q5, q6⟩) rfl _ rfl rfl (oneP_cell _) (by omega) (by unfold maxLen; omega) (by omega) ?_); intro v4 w4 hown4 hb4)
          have HO4 : Hid (w4.ownsRow W0.heap.size 48 7 v4 (k + 1) (pCells (L.take (k + 1)))) := by show World.ownsRow _ _ _ _ _ _ _; rw [HT.out]; exact hown4
          have HB4 : Hid (Below W0.heap.size W0 w4) := HB.out.trans hb4
          clear hown4 hb4 HT HO HB g0 g1 f0 f1 c0 c1 c2 c3 c4 c5 c6
          go_wp2
          go_roundw
          case rel => exact ⟨k + 1, by omega, by simp, HO4.out, HB4.out⟩
          case measure => simp [intOf]; omega
        · have hk' : k = L.length := by omega
          subst hk'
          rw [List.take_of_length_le (Nat.le_refl _)] at hown
          obtain ⟨g4, g5, g6, g7, g8, g9, g10⟩ := seven_at x1
          have HO : Hid (wr.ownsRow W0.heap.size 48 7 u6 L.length (pCells L)) := hown
          have HB : Hid (Below W0.heap.size W0 wr) := hB
          dsimp only at g4 g5 g6 g7 g8 g9 g10
          clear hown hB hrow hbw x0 x1 x2 f0 f1
          go_wp2_with (at_builtin; go_loud (refine wpl_appE wr rfl (.tmp 32) (.tmp 34) 25 48 rfl i0 _ 7 64 Try.underlying25 hi0 hz0 hz1 hz2 rfl (by decide) W0.heap.size u6 L.length _ rfl HO.out (enP ⟨p0, p1, p2, p3, p4, p5, p6⟩) rfl _ rfl rfl (oneP_cell _) (by omega) (by unfold maxLen; omega) (by omega) ?_; intro v4 w4 hown4 hb4; have HFr : Hid (FrR w v4) := (fun k e => by have := (hown4.lt k e).1; omega); clear g0 g1; have HB4 := HB.out.trans hb4; obtain ⟨x0, x1, x2, -, hbw⟩ := HG.out w4 HB4; obtain ⟨g0, g1, f0, f1⟩ := two_at x0; obtain ⟨g2, g3, f2, f3⟩ := two_at x2; obtain ⟨a5, cap5, rfl⟩ := (IsRow.own hown4).form; have HX : Hid (∀ x y z, IsRow (((w4.setCell ⟨w.heap.size, 0, none⟩ x).setCell ⟨w.heap.size + 2, 0, none⟩ y).setCell ⟨w.heap.size + 2, 1, none⟩ z) 7 (.slice a5 (L.length + 1) cap5) (L ++ [(⟨p0, p1, p2, p3, p4, p5, p6⟩ : Pk)]).length (pCells (L ++ [(⟨p0, p1, p2, p3, p4, p5, p6⟩ : Pk)])) ∧ Below w.heap.size w (((w4.setCell ⟨w.heap.size, 0, none⟩ x).setCell ⟨w.heap.size + 2, 0, none⟩ y).setCell ⟨w.heap.size + 2, 1, none⟩ z)) := fun x y z => ⟨by rw [pCells_app, pCells_one, List.length_append]; exact IsRow.own (ownsRow_setCell_below (ownsRow_setCell_below (ownsRow_setCell_below hown4 (a := ⟨w.heap.size, 0, none⟩) (by show w.heap.size < _; omega) x) (a := ⟨w.heap.size + 2, 0, none⟩) hn1 y) (a := ⟨w.heap.size + 2, 1, none⟩) hn1 z), ((hbw.setCell (p := ⟨w.heap.size, 0, none⟩) (Nat.le_refl _) x).setCell (p := ⟨w.heap.size + 2, 0, none⟩) (Nat.le_add_right _ 2) y).setCell (p := ⟨w.heap.size + 2, 1, none⟩) (Nat.le_add_right _ 2) z⟩; clear hown4 hb4 HB4 x0 x1 x2 hbw HG HO HB g4 g5 g6 g7 g8 g9 g10))
          try simp only [Exit.inBlock, Exit.then]
          refine bodyPost_ret (v := .tuple #[.agg #[.slice a5 (L.length + 1) cap5, .slice au nu cu], .int .i64 0]) ?_ rfl ⟨_, by rw [HE.out], by rw [HE.out]; exact (HX.out _ _ _).1, (HX.out _ _ _).2, .inr HFr.out⟩
          rw [results_cs rfl]; go_simp
end Go.Proofs.Ythbhgblgacoklaa
