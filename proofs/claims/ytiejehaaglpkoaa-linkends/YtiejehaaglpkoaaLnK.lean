/- link's Tick, Ends: walks. -/
import Derived.Test.YtiejehaaglpkoaaLnJ
namespace Go.Proofs.Ytiejehaaglpkoaa
open Go.RowKit Go.ChangeMaps

def TiP (w : World) (L : Lk) (e : Ending) (w' : World) : Prop := ∃ r, e = .returned r ∧ OwnW w' w.heap.size r (pks L 0 L.o) ∧ Below w.heap.size w w'
set_option maxRecDepth 100000 in
set_option maxHeartbeats 4000000 in
theorem tick_any {base : Nat} {w : World} {g m : Nat} {vq : Value} {L : Lk} (h : LinkV base w g m vq L) (hok : LkOk L) :
    Calls Try.prog 20 #[lP g] w fun e w' => TiP w L e w' := by
  obtain ⟨-, c5, -, c7, -, -, fz⟩ := h.cells
  have b0 := hok.b0
  have b1 := hok.b1
  have o8 := hok.o8
  have oq := hok.oq
  have q64 := hok.q64
  have HOK : Hid (LkOk L) := hok
  have HV : Hid (LinkV base w g m vq L) := h
  have HLT : Hid (∀ k, LF g m vq k → k < w.heap.size) := fun k hk => (h.lt hk).2
  obtain ⟨qa, qcap, hqf⟩ := (IsRow.own h.own).form
  have hcap : L.q.length ≤ qcap := by
    rcases h.own.2 with ⟨hv, hn⟩ | ⟨g1, cap1, cur1, hv, -, -, hc, -⟩
    · omega
    · rw [hqf] at hv; cases hv; exact hc
  clear h hok
  rw [hqf] at c5
  have q1 : (0 : Int) ≤ (L.o : Int) := by omega
  have q2 : (L.o : Int) ≤ (qcap : Int) := by omega
  go_enter Try.func20, Try.ntmps20
  go_wp2_with fail
  go_quiet (fail)
  have HV1 : Hid (LinkV base (w.drewN nq) g m vq L) := HV.out.keep fun _ _ => rfl
  have HB1 : Hid (Below w.heap.size w (w.drewN nq)) := ⟨rfl, rfl, rfl, Nat.le_refl _, fun _ _ => rfl⟩
  generalize w.drewN nq = W at *
  clear c5 c7 fz HV
  go_wp2_with fail
  go_loopw [2, 3, 4, 17] (fun r _ _ i wr => ∃ k : Nat, k ≤ L.o ∧ i = .int .i64 (k : Int) ∧ Hid (OwnW wr w.heap.size r (pks L 0 k)) ∧ Hid (Below w.heap.size w wr) ∧ Hid (LinkV base wr g m vq L)) (fun _ _ _ i _ => L.o - (intOf i).toNat)
  case atStart => exact ⟨0, Nat.zero_le _, rfl, .inl ⟨rfl, rfl⟩, HB1, HV1⟩
  case round =>
    obtain ⟨k, hk, rfl, HO, HB, HVr⟩ := hrel
    by_cases hlk : k < L.o
    · have dk : decide (k < L.o) = true := by simp; omega
      obtain ⟨qb, qcap', hvq, -, -, -, -, hqc, -⟩ := own_open HVr.out.own (by omega)
      have hqs := hqc k (.string (L.q.getD k ⟨#[]⟩)) (by
        rw [List.getElem?_map, List.getElem?_eq_getElem (by omega)]
        simp [List.getD, List.getElem?_eq_getElem (show k < L.q.length by omega)])
      have c6 := HVr.out.cells.2.2.1
      have HSu : Hid (pks L 0 (k + 1) = pks L 0 k ++ [pkL L (L.b + (k : Int)) (L.q.getD k ⟨#[]⟩)]) := by
        have := pks_succ L 0 k
        rw [Nat.zero_add] at this
        exact this
      have HPk : Hid (Calls Try.prog 41 #[lP g, .int .i64 (L.b + (k : Int)), .string (L.q.getD k ⟨#[]⟩)] wr fun e w'' => e = .returned (pV (pkL L (L.b + (k : Int)) (L.q.getD k ⟨#[]⟩))) ∧ Below wr.heap.size wr w'') := by
        have w0 := HOK.out.w0
        have w1 := HOK.out.w1
        exact packetL_any HVr.out (by omega) (by omega) _ _
      have hlen : (pks L 0 k).length + 1 ≤ 1000000 := by rw [pks_len]; omega
      have hvq2 : qa = some ⟨qb, 0, none⟩ := by rw [hqf] at hvq; cases hvq; rfl
      subst hvq2
      generalize L.q.getD k ⟨#[]⟩ = s at *
      generalize pkL L (L.b + (k : Int)) s = p at *
      have wz : IntKind.i64.wrap (L.b + (k : Int)) = L.b + (k : Int) := wrapI (by omega) (by omega)
      have wk : IntKind.i64.wrap ((k : Int) + 1) = (k : Int) + 1 := wrapI (by omega) (by omega)
      have i1 : (0 : Int) ≤ (k : Int) := by omega
      have i2 : (k : Int) < (L.o : Int) := by omega
      obtain ⟨pf, pt, pfl, ptl, psq, pak, px⟩ := p
      dsimp only [pV] at *
      clear hqc hvq hqf
      go_wp2_with fail
      refine HPk.out.mono ?_
      rintro e w2 ⟨rfl, hb2⟩
      have HO2 : Hid (OwnW w2 w.heap.size u2 (pks L 0 k)) := HO.out.keep fun k hk => hb2.block k (HO.out.lt k hk).2
      have HB2 : Hid (Below w.heap.size w w2) := HB.out.trans (hb2.mono HB.out.size)
      have HV2 : Hid (LinkV base w2 g m vq L) := HVr.out.below hb2
      have hz2 := HB2.out.size
      clear hb2 HO HB HVr hqs c6 HPk
      go_wp2_with (at_builtin; go_loud (refine wpl_app_w _ rfl (.tmp 22) (.tmp 32) rfl w.heap.size u2 (pks L 0 k) rfl (HO2.out.al _) ⟨w2.heap.size, 0, none⟩ 1 1 [⟨pf, pt, pfl, ptl, psq, pak, px⟩] rfl (.inl (by omega)) rfl (news_at (heap_alloc_new w2 _)) hlen (by simp; omega) ?_); intro gg cap w7 hown7 hgrow7 hat7)
      have HO7 : Hid (OwnW w7 w.heap.size (.slice (some ⟨gg, 0, none⟩) ((pks L 0 k).length + 1) cap) (pks L 0 (k + 1))) := by
        show OwnW _ _ _ _
        rw [HSu.out]; exact hown7
      have HBa := HB2.out.trans ((al_b w2 (.cells #[.int .i64 pf, .int .i64 pt, .int .i64 pfl, .int .i64 ptl, .int .i64 psq, .int .i64 pak, .string px] 37)).mono hz2)
      have HB7 : Hid (Below w.heap.size w w7) := Below.grown HBa hgrow7 HBa.size fun k hk => (HO2.out.lt k hk).1
      have HVa := HV2.out.below (al_b w2 (.cells #[.int .i64 pf, .int .i64 pt, .int .i64 pfl, .int .i64 ptl, .int .i64 psq, .int .i64 pak, .string px] 37))
      have HV7 : Hid (LinkV base w7 g m vq L) := HVa.keep fun k hk => hgrow7.block k (HVa.lt hk).2 (fun e => by have h1 := (HO2.out.lt k e.symm).1; have h2 := HLT.out k hk; omega)
      clear hown7 hgrow7 hat7 HBa HVa HO2 HB2 HV2
      go_roundw
      case rel => exact ⟨k + 1, by omega, by simp, HO7, HB7, HV7⟩
      case measure => simp [intOf]; omega
    · have hk' : k = L.o := by omega
      subst hk'
      have HE : Hid (TiP w L (.returned u2) wr) := ⟨_, rfl, HO.out, HB.out⟩
      clear HO HB HVr
      go_wp2
      go_ret
      exact HE.out
theorem set5_below {B : Nat} {w0 w : World} {b : Nat} (h : Below B w0 w) (hb : B ≤ b) (x0 x1 x2 x3 x4 : Value) : Below B w0 (((((w.setCell ⟨b, 0, none⟩ x0).setCell ⟨b, 1, none⟩ x1).setCell ⟨b, 2, none⟩ x2).setCell ⟨b, 3, none⟩ x3).setCell ⟨b, 4, none⟩ x4) :=
  ((((h.setCell (p := ⟨b, 0, none⟩) hb _).setCell (p := ⟨b, 1, none⟩) hb _).setCell (p := ⟨b, 2, none⟩) hb _).setCell (p := ⟨b, 3, none⟩) hb _).setCell (p := ⟨b, 4, none⟩) hb _
set_option maxRecDepth 100000 in
set_option maxHeartbeats 4000000 in
theorem ends_any {base : Nat} {w : World} {g m : Nat} {vq : Value} {L : Lk} (h : LinkV base w g m vq L) :
    Calls Try.prog 12 #[lP g] w fun e w' => e = .returned (eV L.x) ∧ Below w.heap.size w w' := by
  have h1 := h.below (al_b w (.cells #[.int .i64 0, .int .i64 0, .int .i64 0, .int .i64 0, .int .i64 0] 23))
  obtain ⟨⟨c0, c1, c2, c3, c4⟩, -⟩ := h1.cells
  have HB : Hid (∀ o, Below w.heap.size w (w.alloc o)) := al_b w
  clear h h1
  generalize L.x = x at *
  obtain ⟨me, lf, pe, pl, fi⟩ := x
  dsimp only [eV] at *
  go_enter Try.func12, Try.ntmps12
  go_wp2
  try simp only [Exit.inBlock, Exit.then]
  refine bodyPost_ret (v := eV ⟨me, lf, pe, pl, fi⟩) ?_ rfl ⟨rfl, HB.out _⟩
  rw [results_cellK rfl]; go_simp
end Go.Proofs.Ytiejehaaglpkoaa
