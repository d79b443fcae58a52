/- link's goOut: its walk. -/
import Derived.Test.YtiejehaaglpkoaaLnC
import Derived.Test.YtiejehaaglpkoaaHE
namespace Go.Proofs.Ytiejehaaglpkoaa
open Go.RowKit Go.ChangeMaps

/-- The packets of so many texts of the queue, from one on. -/
def pks (L : Lk) (o k : Nat) : List Pk := (List.range k).map fun i => pkL L (L.b + ((o + i : Nat) : Int)) (L.q.getD (o + i) ⟨#[]⟩)
theorem pks_len (L : Lk) (o k : Nat) : (pks L o k).length = k := by simp [pks]
theorem pks_succ (L : Lk) (o k : Nat) : pks L o (k + 1) = pks L o k ++ [pkL L (L.b + ((o + k : Nat) : Int)) (L.q.getD (o + k) ⟨#[]⟩)] := by simp [pks, List.range_succ]
/-- How many go out. -/
def goK (L : Lk) : Nat := min 8 L.q.length - L.o
def goO (L : Lk) (k : Nat) : Lk := ⟨L.x, L.q, L.b, L.o + k, L.wn, L.e⟩
abbrev goL (L : Lk) : Lk := goO L (goK L)
/-- Numbers as a link has them. -/
structure LkOk (L : Lk) : Prop where
  b0 : 1 ≤ L.b
  b1 : L.b + L.q.length ≤ 1099511627775
  o8 : L.o ≤ 8
  oq : L.o ≤ L.q.length
  q64 : L.q.length ≤ 64
  w0 : 1 ≤ L.wn
  w1 : L.wn ≤ 1099511627775
theorem LkOk.go {L : Lk} (h : LkOk L) {k : Nat} (hk : k ≤ goK L) : LkOk (goO L k) := by
  have := h.o8; have := h.oq
  unfold goK at hk
  exact ⟨h.b0, h.b1, by show L.o + k ≤ 8; omega, by show L.o + k ≤ L.q.length; omega, h.q64, h.w0, h.w1⟩
/-- Its cells, and its blocks as they were. -/
def KL (g m : Nat) (vq : Value) (w w' : World) : Prop := w.heap.size ≤ w'.heap.size ∧ ∀ k, LF g m vq k → w'.heap[k]? = w.heap[k]?
abbrev SGo (g m : Nat) (vq : Value) (b n : Int) (qb qo : Nat) (s : ByteArray) (wr w' : World) : Prop :=
  w'.cell? ⟨g, 5, none⟩ = some vq ∧ w'.cell? ⟨g, 6, none⟩ = some (.int .i64 b) ∧ w'.cell? ⟨g, 7, none⟩ = some (.int .i64 n) ∧ w'.cell? ⟨qb, qo, none⟩ = some (.string s) ∧ KL g m vq wr w'
theorem SGo_keep {g m : Nat} {vq : Value} {b n : Int} {qb qo : Nat} {s : ByteArray} {wr w1 w2 : World} (hq : vq.ownBlock = some qb) (h : SGo g m vq b n qb qo s wr w1) (hz : w1.heap.size ≤ w2.heap.size) (hk : ∀ k, LF g m vq k → w2.heap[k]? = w1.heap[k]?) : SGo g m vq b n qb qo s wr w2 := by
  have hg : ∀ o, w2.cell? ⟨g, o, none⟩ = w1.cell? ⟨g, o, none⟩ := fun o => World.cell?_of_block (a := ⟨g, o, none⟩) (hk g (.inl rfl))
  have hb : ∀ o, w2.cell? ⟨qb, o, none⟩ = w1.cell? ⟨qb, o, none⟩ := fun o => World.cell?_of_block (a := ⟨qb, o, none⟩) (hk qb (.inr (.inr hq)))
  exact ⟨(hg _).trans h.1, (hg _).trans h.2.1, (hg _).trans h.2.2.1, (hb _).trans h.2.2.2.1, Nat.le_trans h.2.2.2.2.1 hz, fun k hf => (hk k hf).trans (h.2.2.2.2.2 k hf)⟩
theorem SGo_drew {g m : Nat} {vq : Value} {b n : Int} {qb qo : Nat} {s : ByteArray} {wr w1 : World} (h : SGo g m vq b n qb qo s wr w1) : SGo g m vq b n qb qo s wr w1.drew := h
def GoP (base : Nat) (w : World) (g m : Nat) (vq : Value) (L : Lk) (e : Ending) (w' : World) : Prop := ∃ r, e = .returned r ∧ OwnW w' w.heap.size r (pks L L.o (goK L)) ∧ LinkV base w' g m vq (goL L) ∧ Stp w (LF g m vq) (LF g m vq) w'
theorem LinkV.setO {base : Nat} {w : World} {g m : Nat} {vq : Value} {L : Lk} (h : LinkV base w g m vq L) (k : Nat) : LinkV base (w.setCell ⟨g, 7, none⟩ (.int .i64 ((L.o + k : Nat) : Int))) g m vq (goO L k) ∧ Stp w (LF g m vq) (LF g m vq) (w.setCell ⟨g, 7, none⟩ (.int .i64 ((L.o + k : Nat) : Int))) := by
  obtain ⟨s1, s2⟩ := setCell_at w 7 h.blk (.int .i64 ((L.o + k : Nat) : Int))
  have z : (w.setCell ⟨g, 7, none⟩ (.int .i64 ((L.o + k : Nat) : Int))).heap.size = w.heap.size := by rw [setCell_eq_setRow w g 7 _ _ (0, 0) _ h.blk]; simp
  refine ⟨⟨h.lo, h.lm, by rw [s1]; rfl, h.mp.keep (s2 m (Ne.symm h.gm)), row_keep h.own fun k e => s2 k fun e2 => h.ng (by rw [e, e2]), h.ng, h.nm⟩, rfl, rfl, rfl, by rw [z]; exact Nat.le_refl _, fun k _ hn => s2 k fun e => hn (.inl e), fun _ h => .inl h⟩
set_option maxRecDepth 100000 in
set_option maxHeartbeats 4000000 in
theorem goOut_any {base : Nat} {w : World} {g m : Nat} {vq : Value} {L : Lk} (h : LinkV base w g m vq L) (hok : LkOk L) :
    Calls Try.prog 35 #[lP g] w fun e w' => GoP base w g m vq L e w' := by
  obtain ⟨hgs, hms, hbs⟩ := h.size
  have HLT : Hid (∀ k, LF g m vq k → k < w.heap.size) := fun k hk => (h.lt hk).2
  have HOK : Hid (LkOk L) := hok
  have H0 : Hid (LinkV base w g m vq L) := h
  have o8 := hok.o8
  have oq := hok.oq
  have q64 := hok.q64
  clear h hok
  go_enter Try.func35, Try.ntmps35
  go_wp2_with fail
  go_loopw [2] (fun r wr => ∃ k : Nat, k ≤ goK L ∧ Hid (OwnW wr w.heap.size r (pks L L.o k)) ∧ Hid (LinkV base wr g m vq (goO L k)) ∧ Hid (Stp w (LF g m vq) (LF g m vq) wr)) (fun _ wr => 8 - (intOf ((wr.cell? ⟨g, 7, none⟩).getD undef)).toNat)
  case atStart => exact ⟨0, Nat.zero_le _, .inl ⟨rfl, rfl⟩, H0.out, Stp.of _ (Below.refl _ _)⟩
  case round =>
    obtain ⟨k, hk, HO, HV, HS⟩ := hrel
    obtain ⟨-, c5, c6, c7, -, -, fz⟩ := HV.out.cells
    have HKd : Hid (goK L = min 8 L.q.length - L.o) := rfl
    have e7 : (goO L k).o = L.o + k := rfl
    have e6 : (goO L k).b = L.b := rfl
    rw [e7] at c7
    rw [e6] at c6
    clear e6 e7
    obtain ⟨qa, qcap, hqf⟩ := (IsRow.own HV.out.own).form
    have hql : (goO L k).q.length = L.q.length := rfl
    rw [hql] at hqf
    clear hql
    by_cases hlk : k < goK L
    · have hl : L.o + k < 8 ∧ L.o + k < L.q.length := by have := HKd.out; omega
      obtain ⟨qb, qcap', hvq, -, -, -, -, hqc, -⟩ := own_open HV.out.own (by show 0 < L.q.length; omega)
      have hvq : vq = .slice (some ⟨qb, 0, none⟩) L.q.length qcap' := hvq
      have hqs := hqc (L.o + k) (.string (L.q.getD (L.o + k) ⟨#[]⟩)) (by
        show (L.q.map Value.string)[L.o + k]? = _
        rw [List.getElem?_map, List.getElem?_eq_getElem hl.2]
        simp [List.getD, List.getElem?_eq_getElem hl.2])
      have HSu : Hid (pks L L.o (k + 1) = pks L L.o k ++ [pkL L (L.b + ((L.o + k : Nat) : Int)) (L.q.getD (L.o + k) ⟨#[]⟩)]) := pks_succ L L.o k
      have b0 := HOK.out.b0
      have b1 := HOK.out.b1
      have HPk : Hid (∀ w', KL g m vq wr w' → Calls Try.prog 41 #[lP g, .int .i64 (L.b + ((L.o + k : Nat) : Int)), .string (L.q.getD (L.o + k) ⟨#[]⟩)] w' fun e w'' => e = .returned (pV (pkL L (L.b + ((L.o + k : Nat) : Int)) (L.q.getD (L.o + k) ⟨#[]⟩))) ∧ Below w'.heap.size w' w'') := fun w' hkl => by
        have w0 := HOK.out.w0
        have w1 := HOK.out.w1
        exact packetL_any (L := goO L k) (HV.out.keep hkl.2) (by show 0 ≤ L.wn; omega) (by show L.wn ≤ _; omega) _ _
      have hlen : Hid ((pks L L.o k).length = k) := pks_len L L.o k
      generalize hn : L.o + k = n at *
      have hsl : Hid (n = L.o + k) := hn.symm
      clear hn hqc hlk
      generalize L.q.getD n ⟨#[]⟩ = s at *
      generalize hP : pkL L (L.b + (n : Int)) s = p at *
      clear hP
      have hvq2 : Hid (vq.ownBlock = some qb) := by show _ = _; rw [hvq]; rfl
      have d1 : decide ((n : Int) < 8) = true := by simp; omega
      have d2 : decide (n < L.q.length) = true := by simp; omega
      have wz : IntKind.i64.wrap (L.b + (n : Int)) = L.b + (n : Int) := wrapI (by omega) (by omega)
      have HQ : Hid (vq.ownBlock = some qb) := hvq2
      have HC7 : Hid (wr.cell? ⟨g, 7, none⟩ = some (.int .i64 (n : Int))) := c7
      have HPk2 : Hid (∀ w', SGo g m vq L.b n qb n s wr w' → Calls Try.prog 41 #[lP g, .int .i64 (L.b + (n : Int)), .string s] w' fun e w'' => e = .returned (pV p) ∧ Below w'.heap.size w' w'') := fun w' h => HPk.out w' h.2.2.2.2
      have HLr : Hid (∀ k, LF g m vq k → k < wr.heap.size) := fun k hk => (HV.out.lt hk).2
      subst hvq
      clear HPk hvq2 hqf H0
      go_wp2_with fail
      go_quiet (fail)
      have hS : SGo g m (.slice (some ⟨qb, 0, none⟩) L.q.length qcap') L.b n qb n s wr (wr.drewN nq) := ⟨c5, c6, c7, hqs, Nat.le_refl _, fun _ _ => rfl⟩
      have HO1 : Hid (OwnW (wr.drewN nq) w.heap.size u2 (pks L L.o k)) := HO.out.keep fun _ _ => rfl
      have HZ1 : Hid (w.heap.size ≤ (wr.drewN nq).heap.size) := HS.out.size
      have HLW : Hid (∀ k, LF g m (.slice (some ⟨qb, 0, none⟩) L.q.length qcap') k → k < (wr.drewN nq).heap.size) := HLr.out
      have HGW : Hid (Below wr.heap.size wr (wr.drewN nq)) := ⟨rfl, rfl, rfl, Nat.le_refl _, fun _ _ => rfl⟩
      generalize wr.drewN nq = W at *
      clear c5 c6 c7 hqs HO fz
      have hp1 : (pks L L.o k).length + 1 ≤ 1000000 := by have := hlen.out; have := hsl.out; omega
      have q1 : (0 : Int) ≤ (n : Int) := by omega
      have q2 : (n : Int) < (L.q.length : Int) := by omega
      obtain ⟨pf, pt, pfl, ptl, psq, pak, px⟩ := p
      dsimp only [pV] at *
      go_wp2_with fail
      go_region_held3 (fun w' => SGo g m (.slice (some ⟨qb, 0, none⟩) L.q.length qcap') L.b n qb n s wr w')
        (first
          | with_reducible assumption
          | with_reducible exact SGo_drew (by with_reducible assumption)
          | exact SGo_keep HQ.out (by with_reducible assumption) hb2.size (fun k hk => hb2.block k (HLW.out k hk))
          | exact SGo_keep HQ.out (by with_reducible assumption) (by simp) (fun k hk => Below.heap_alloc w2 _ k (HL2.out k hk))
          | exact SGo_keep HQ.out (by with_reducible assumption) hgrow.size (fun k hk => hgrow.block k (HL3.out k hk) (HN3.out k hk)))
        (first
          | (go_at_call 41; refine (HPk2.out _ (by with_reducible assumption)).mono ?_; rintro e w2 ⟨rfl, hb2⟩
             have HO2 : Hid (OwnW w2 w.heap.size u2 (pks L L.o k)) := HO1.out.keep fun k hk => hb2.block k (HO1.out.lt k hk).2
             have HL2 : Hid (∀ k, LF g m (.slice (some ⟨qb, 0, none⟩) L.q.length qcap') k → k < w2.heap.size) := fun k hk => Nat.lt_of_lt_of_le (HLW.out k hk) hb2.size)
          | (refine step_app_w _ (by rfl) _ _ (by rfl) w.heap.size u2 (pks L L.o k) (by rfl) (HO2.out.al _) ⟨w2.heap.size, 0, none⟩ 1 1 [⟨pf, pt, pfl, ptl, psq, pak, px⟩] (by rfl) (.inl (by omega)) (by rfl) (news_at (heap_alloc_new w2 _)) hp1 (by have := HZ1.out; have := hb2.size; simp at this ⊢; omega) ?_; intro gg cap w4 hown4 hgrow hat
             have HL3 : Hid (∀ k, LF g m (.slice (some ⟨qb, 0, none⟩) L.q.length qcap') k → k < (w2.alloc (.cells #[.int .i64 pf, .int .i64 pt, .int .i64 pfl, .int .i64 ptl, .int .i64 psq, .int .i64 pak, .string px] 37)).heap.size) := fun k hk => by have := HL2.out k hk; simp; omega
             have HN3 : Hid (∀ k, LF g m (.slice (some ⟨qb, 0, none⟩) L.q.length qcap') k → some k ≠ u2.ownBlock) := fun k hk e => by have h1 := (HO2.out.lt k e.symm).1; have h2 := HLT.out k hk; omega)
          | fail)
      rename_i hH4
      have HK4 : Hid (KL g m (.slice (some ⟨qb, 0, none⟩) L.q.length qcap') wr w4) := hH4.2.2.2.2
      have c7 := hH4.2.2.1
      clear hH4
      have HB4 : Hid (Below w.heap.size wr w4) := by
        have z1 := HZ1.out
        have z2 := HS.out.size
        have z3 := hb2.size
        have z3' : W.heap.size ≤ w2.heap.size := z3
        refine Below.grown (((HGW.out.mono z2).drew.trans (hb2.mono z1)).trans ((al_b w2 _).mono (Nat.le_trans z1 z3'))) hgrow (by simp; omega) fun k hk => (HO2.out.lt k hk).1
      have HV4 : Hid (LinkV base w4 g m (.slice (some ⟨qb, 0, none⟩) L.q.length qcap') (goO L k)) := HV.out.keep HK4.out.2
      have HO4 : Hid (OwnW w4 w.heap.size (.slice (some ⟨gg, 0, none⟩) ((pks L L.o k).length + 1) cap) (pks L L.o (k + 1))) := by
        show OwnW _ _ _ _
        rw [HSu.out]; exact hown4
      have HS4 : Hid (Stp w (LF g m (.slice (some ⟨qb, 0, none⟩) L.q.length qcap')) (LF g m (.slice (some ⟨qb, 0, none⟩) L.q.length qcap')) w4) := by
        have hs := HS.out
        have hb := HB4.out
        exact ⟨hb.os.trans hs.os, hb.tape.trans hs.tape, hb.output.trans hs.output, Nat.le_trans hs.size hb.size, fun k hk hn => (hb.block k hk).trans (hs.block k hk hn), fun _ h => .inl h⟩
      have hgg : Hid (gg ≠ g) := fun e => by
        have h1 := (HO4.out.lt gg rfl).1
        omega
      have fz : ∀ o, w4.frozen? ⟨g, o, none⟩ = false := HV4.out.cells.2.2.2.2.2.2
      clear hown4 hgrow hat HL3 HN3 HO2 HL2 hb2 HPk2 HO1 HLW HGW hS HB4 HK4 HV HS HLr HZ1
      have wn1 : IntKind.i64.wrap ((n : Int) + 1) = (n : Int) + 1 := wrapI (by omega) (by omega)
      go_wp2
      go_roundw
      case rel =>
        obtain ⟨h1, h2⟩ := HV4.out.setO 1
        have en : Hid (((goO L k).o + 1 : Nat) = n + 1) := by show L.o + k + 1 = n + 1; rw [← hsl.out]
        rw [show (((goO L k).o + 1 : Nat) : Int) = (n : Int) + 1 by rw [en.out]; rfl] at h1 h2
        refine ⟨k + 1, by have := HKd.out; have := hsl.out; omega, ?_, h1, HS4.out.trans h2⟩
        refine HO4.out.keep fun k hk => (setCell_at w4 7 HV4.out.blk _).2 k fun e => ?_
        have : k = gg := by simpa [Value.ownBlock] using hk.symm
        exact hgg.out (this.symm.trans e)
      case measure =>
        have h7 := (HV4.out.setO 1).1.cells.2.2.2.1
        have en : Hid (((goO L k).o + 1 : Nat) = n + 1) := by show L.o + k + 1 = n + 1; rw [← hsl.out]
        rw [show (((goO L k).o + 1 : Nat) : Int) = (n : Int) + 1 by rw [en.out]; rfl] at h7
        rw [h7, HC7.out]
        have e8 : ((goO (goO L k) 1).o : Int) = (n : Int) + 1 := by have := hsl.out; show ((L.o + k + 1 : Nat) : Int) = _; omega
        rw [e8]
        simp [intOf]
        omega
    · have HE : Hid (GoP base w g m vq L (.returned u2) wr) := by
        have : k = goK L := by omega
        subst this
        exact ⟨_, rfl, HO.out, HV.out, HS.out⟩
      have HE2 : Hid (∀ n, GoP base w g m vq L (.returned u2) (wr.drewN n)) := fun n => by
        obtain ⟨r, h1, h2, h3, h4⟩ := HE.out
        exact ⟨r, h1, h2.keep fun _ _ => rfl, h3.keep fun _ _ => rfl, h4.os, h4.tape, h4.output, h4.size, h4.block, h4.fp⟩
      have hl : ¬ (L.o + k < 8 ∧ L.o + k < L.q.length) := by have := HKd.out; omega
      clear HE HO HV HS HKd hlk hk
      rw [hqf] at c5
      generalize L.o + k = n at *
      by_cases h8 : n < 8
      · have d1 : decide ((n : Int) < 8) = true := by simp; omega
        have d2 : decide (n < L.q.length) = false := by simp; omega
        go_wp2_with fail
        go_quiet (fail)
        go_wp2
        go_ret
        exact HE2.out _
      · have d1 : decide ((n : Int) < 8) = false := by simp; omega
        go_wp2_with fail
        go_quiet (fail)
        go_wp2
        go_ret
        exact HE2.out _
end Go.Proofs.Ytiejehaaglpkoaa
