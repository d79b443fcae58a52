/- link's Send: its walk. -/
import Derived.Test.YtiejehaaglpkoaaLnD
import Derived.Maps.AppendAt
namespace Go.Proofs.Ytiejehaaglpkoaa
open Go.RowKit Go.ChangeMaps

/-- One number of a link is put anew. -/
theorem LinkV.setI {base : Nat} {w : World} {g m : Nat} {vq : Value} {L L' : Lk} (h : LinkV base w g m vq L) {c : Nat} {v : Value} (hc : (lkC L vq m).setIfInBounds c v = lkC L' vq m) (hq : L'.q = L.q) (he : L'.e = L.e) :
    LinkV base (w.setCell ⟨g, c, none⟩ v) g m vq L' ∧ Stp w (LF g m vq) (LF g m vq) (w.setCell ⟨g, c, none⟩ v) := by
  obtain ⟨s1, s2⟩ := setCell_at w c h.blk v
  have z : (w.setCell ⟨g, c, none⟩ v).heap.size = w.heap.size := by rw [setCell_eq_setRow w g c _ _ (0, 0) _ h.blk]; simp
  refine ⟨⟨h.lo, h.lm, by rw [s1, hc], by rw [he]; exact h.mp.keep (s2 m (Ne.symm h.gm)), by rw [hq]; exact row_keep h.own fun k e => s2 k fun e2 => h.ng (by rw [e, e2]), h.ng, h.nm⟩, rfl, rfl, rfl, by rw [z]; exact Nat.le_refl _, fun k _ hn => s2 k fun e => hn (.inl e), fun _ h => .inl h⟩
/-- The queue is put anew, behind a change of its own row alone. -/
theorem LinkV.setQ {base : Nat} {w w1 : World} {g m : Nat} {vq vq' : Value} {L : Lk} (h : LinkV base w g m vq L) (hg : w.grownBy w1 vq.ownBlock) {q' : List ByteArray} (ho : w1.ownsRow base 9 1 vq' q'.length (q'.map .string))
    (hat : vq'.ownBlock = vq.ownBlock ∨ ∃ k, vq'.ownBlock = some k ∧ w.heap.size ≤ k) :
    LinkV base (w1.setCell ⟨g, 5, none⟩ vq') g m vq' ⟨L.x, q', L.b, L.o, L.wn, L.e⟩ ∧ Stp w (LF g m vq) (LF g m vq') (w1.setCell ⟨g, 5, none⟩ vq') := by
  obtain ⟨hgs, hms, -⟩ := h.size
  have hb1 : w1.heap[g]? = some (.cells (lkC L vq m) 80 (0, 0)) := (hg.block g hgs (fun e => h.ng e.symm)).trans h.blk
  obtain ⟨s1, s2⟩ := setCell_at w1 5 hb1 vq'
  have hng : vq'.ownBlock ≠ some g := by
    intro e
    rcases hat with h2 | ⟨k, h2, hk⟩
    · exact h.ng (h2.symm.trans e)
    · rw [h2] at e; cases e; omega
  have hnm : vq'.ownBlock ≠ some m := by
    intro e
    rcases hat with h2 | ⟨k, h2, hk⟩
    · exact h.nm (h2.symm.trans e)
    · rw [h2] at e; cases e; omega
  have z : (w1.setCell ⟨g, 5, none⟩ vq').heap.size = w1.heap.size := by rw [setCell_eq_setRow w1 g 5 _ _ (0, 0) _ hb1]; simp
  refine ⟨⟨h.lo, h.lm, by rw [s1]; rfl, (h.mp.keep (hg.block m hms (fun e => h.nm e.symm))).keep (s2 m (Ne.symm h.gm)), row_keep ho fun k e => s2 k fun e2 => hng (by rw [e, e2]), hng, hnm⟩, hg.os, hg.tape, hg.output, by rw [z]; exact hg.size, fun k hk hn => ?_, fun k hf => ?_⟩
  · rw [s2 k fun e => hn (.inl e)]
    exact hg.block k hk fun e => hn (.inr (.inr e.symm))
  · rcases hf with rfl | rfl | hf
    · exact .inl (.inl rfl)
    · exact .inl (.inr (.inl rfl))
    · rcases hat with h2 | ⟨k', h2, hk⟩
      · exact .inl (.inr (.inr (h2.symm.trans hf)))
      · rw [h2] at hf; cases hf; exact .inr hk
def addQ (L : Lk) (s : ByteArray) : Lk := ⟨L.x, L.q ++ [s], L.b, L.o, L.wn, L.e⟩
/-- What Send answers, sends, leaves. -/
def sndE (L : Lk) (s : ByteArray) : Int := if 32768 < s.size then 1 else if 1099511627774 < L.b + (L.q.length : Int) then 13 else if 64 ≤ L.q.length then 6 else 0
def sndL (L : Lk) (s : ByteArray) : Lk := if sndE L s = 0 then goL (addQ L s) else L
def sndO (L : Lk) (s : ByteArray) : List Pk := if sndE L s = 0 then pks (addQ L s) L.o (goK (addQ L s)) else []
/-- What a call leaves that turns a link and hands out packets. -/
def OutP (base : Nat) (w : World) (g m : Nat) (vq : Value) (L' : Lk) (O : List Pk) (r : Value) (w' : World) : Prop :=
  ∃ vq', OwnW w' w.heap.size r O ∧ LinkV base w' g m vq' L' ∧ Stp w (LF g m vq) (LF g m vq') w' ∧ ∀ k, r.ownBlock = some k → ¬ LF g m vq' k
theorem OutP.none {base : Nat} {w : World} {g m : Nat} {vq : Value} {L : Lk} (h : LinkV base w g m vq L) (n : Nat) : OutP base w g m vq L [] (.slice none 0 0) (w.drewN n) :=
  ⟨vq, .inl ⟨rfl, rfl⟩, h.keep fun _ _ => rfl, ⟨rfl, rfl, rfl, Nat.le_refl _, fun _ _ _ => rfl, fun _ h => .inl h⟩, fun k hk => by simp [Value.ownBlock] at hk⟩
def SndP (base : Nat) (w : World) (g m : Nat) (vq : Value) (L : Lk) (s : ByteArray) (e : Ending) (w' : World) : Prop := ∃ r, e = .returned (.tuple #[r, .int .i64 (sndE L s)]) ∧ OutP base w g m vq (sndL L s) (sndO L s) r w'
theorem LkOk.add {L : Lk} (h : LkOk L) {s : ByteArray} (he : sndE L s = 0) : LkOk (addQ L s) := by
  unfold sndE at he
  split at he
  · cases he
  split at he
  · cases he
  split at he
  · cases he
  have e : (addQ L s).q.length = L.q.length + 1 := by simp [addQ]
  have := h.oq
  exact ⟨h.b0, by rw [e]; show L.b + _ ≤ _; push_cast; omega, h.o8, by rw [e]; show L.o ≤ _; omega, by rw [e]; omega, h.w0, h.w1⟩
theorem info_str : (Try.prog.info? 9).map (fun i => (i.zero, i.size, i.bytes)) = some (some (.string ⟨#[]⟩), 1, 16) := by kernel_rfl
set_option maxRecDepth 100000 in
set_option maxHeartbeats 4000000 in
theorem sendL_any {base : Nat} {w : World} {g m : Nat} {vq : Value} {L : Lk} (h : LinkV base w g m vq L) (hok : LkOk L) (s : ByteArray) (hs : s.size ≤ 140737488355328) :
    Calls Try.prog 13 #[lP g, .string s] w fun e w' => SndP base w g m vq L s e w' := by
  obtain ⟨-, c5, c6, -, -, -, fz⟩ := h.cells
  obtain ⟨qa, qcap, hqf⟩ := (IsRow.own h.own).form
  have b0 := hok.b0
  have b1 := hok.b1
  have q64 := hok.q64
  have hwz : IntKind.i64.wrap (L.b + (L.q.length : Int)) = L.b + (L.q.length : Int) := wrapI (by omega) (by omega)
  have HV : Hid (LinkV base w g m vq L) := h
  have HOK : Hid (LkOk L) := hok
  have HE : Hid (∀ n, sndE L s ≠ 0 → SndP base w g m vq L s (.returned (.tuple #[.slice none 0 0, .int .i64 (sndE L s)])) (w.drewN n)) := fun n hn => by
    refine ⟨_, rfl, ?_⟩
    unfold sndL sndO
    rw [if_neg hn, if_neg hn]
    exact OutP.none HV.out n
  clear h hok
  by_cases h1 : 32768 < s.size
  · have e1 : sndE L s = 1 := by unfold sndE; rw [if_pos h1]
    rw [e1] at HE
    have HE0 := HE.out 0 (by decide)
    have HE1 : Hid (SndP base w g m vq L s (.returned (.tuple #[.slice none 0 0, .int .i64 1])) w) := HE0
    have d1 : decide ((32768 : Int) < (s.size : Int)) = true := by simp; omega
    clear HE HE0 e1
    go_enter Try.func13, Try.ntmps13
    go_wp2
    go_ret2
    exact HE1.out
  have d1 : decide ((32768 : Int) < (s.size : Int)) = false := by simp; omega
  rw [hqf] at c5
  by_cases h2 : 1099511627774 < L.b + (L.q.length : Int)
  · have e1 : sndE L s = 13 := by unfold sndE; rw [if_neg h1, if_pos h2]
    rw [e1] at HE
    have HE1 : Hid (∀ n, SndP base w g m vq L s (.returned (.tuple #[.slice none 0 0, .int .i64 13])) (w.drewN n)) := fun n => HE.out n (by decide)
    have d2 : decide ((1099511627774 : Int) < L.b + (L.q.length : Int)) = true := by simp; omega
    clear HE e1
    go_enter Try.func13, Try.ntmps13
    go_wp2_with fail
    go_quiet (fail)
    go_wp2
    go_ret2
    exact HE1.out _
  have d2 : decide ((1099511627774 : Int) < L.b + (L.q.length : Int)) = false := by simp; omega
  by_cases h3 : 64 ≤ L.q.length
  · have e1 : sndE L s = 6 := by unfold sndE; rw [if_neg h1, if_neg h2, if_pos h3]
    rw [e1] at HE
    have HE1 : Hid (∀ n, SndP base w g m vq L s (.returned (.tuple #[.slice none 0 0, .int .i64 6])) (w.drewN n)) := fun n => HE.out n (by decide)
    have d3 : decide ((64 : Int) ≤ (L.q.length : Int)) = true := by simp; omega
    clear HE e1
    go_enter Try.func13, Try.ntmps13
    go_wp2_with fail
    go_quiet (fail)
    go_wp2
    go_ret2
    exact HE1.out _
  have d3 : decide ((64 : Int) ≤ (L.q.length : Int)) = false := by simp; omega
  have e0 : sndE L s = 0 := by unfold sndE; rw [if_neg h1, if_neg h2, if_neg h3]
  have HG : Hid (∀ w1 vq1, LinkV base w1 g m vq1 (addQ L s) → Calls Try.prog 35 #[lP g] w1 fun e w' => GoP base w1 g m vq1 (addQ L s) e w') := fun w1 vq1 hv => goOut_any hv (HOK.out.add e0)
  have HF : Hid (∀ r w', OutP base w g m vq (goL (addQ L s)) (pks (addQ L s) L.o (goK (addQ L s))) r w' → SndP base w g m vq L s (.returned (.tuple #[r, .int .i64 0])) w') := fun r w' hp => by
    refine ⟨r, by rw [e0], ?_⟩
    unfold sndL sndO
    rw [if_pos e0, if_pos e0]
    exact hp
  obtain ⟨i0, hi0, hz0, hz1, hz2⟩ := info_parts info_str
  clear HE e0
  subst hqf
  have hgs := HV.out.size
  go_enter Try.func13, Try.ntmps13
  go_wp2_with fail
  go_quiet (fail)
  have HV1 : Hid (LinkV base (w.drewN nq) g m (.slice qa L.q.length qcap) L) := HV.out.keep fun _ _ => rfl
  have HS1 : Hid (Stp w (LF g m (.slice qa L.q.length qcap)) (LF g m (.slice qa L.q.length qcap)) (w.drewN nq)) := ⟨rfl, rfl, rfl, Nat.le_refl _, fun _ _ _ => rfl, fun _ h => .inl h⟩
  have hz : base ≤ (w.drewN nq).heap.size := hgs.2.2
  generalize w.drewN nq = W at *
  obtain ⟨-, c5, -, -, -, -, fz⟩ := HV1.out.cells
  have HV2 : Hid (LinkV base (W.alloc (.cells #[.string s] 9)) g m (.slice qa L.q.length qcap) L) := HV1.out.below (al_b W _)
  have HS2 : Hid (Stp w (LF g m (.slice qa L.q.length qcap)) (LF g m (.slice qa L.q.length qcap)) (W.alloc (.cells #[.string s] 9))) := HS1.out.trans (Stp.of _ (al_b W _))
  go_wp2_with (at_builtin; go_loud (refine wpList_append_own_at _ rfl (.tmp 34) (.tmp 36) 30 rfl base 9 i0 _ 1 16 Try.underlying30 hi0 hz0 hz1 hz2 rfl (by decide) (.slice qa L.q.length qcap) L.q.length (L.q.map .string) rfl HV2.out.own ⟨W.heap.size, 0, none⟩ 1 1 [.string s] rfl rfl (cell_one_new _ _ _) (by intro u hu; simp at hu; subst hu; rfl) (by unfold maxLen; omega) (by omega) (by simp; omega) ?_); intro v4 w4 hown4 hgrow4 hnil4 hat4; have hb4 := (hgrow4.block g HV2.out.size.1 (fun e => HV2.out.ng e.symm)).trans HV2.out.blk; have c54 : w4.cell? ⟨g, 5, none⟩ = some (.slice qa L.q.length qcap) := (by rw [Lib.cell_of_heap hb4]; rfl); have f54 : ∀ o, w4.frozen? ⟨g, o, none⟩ = false := (fun o => by simp [World.frozen?, hb4]); clear hb4; obtain ⟨qa4, qcap4, rfl⟩ := (IsRow.own hown4).form)
  have HX : Hid (LinkV base (w4.setCell ⟨g, 5, none⟩ (.slice qa4 (L.q.length + 1) qcap4)) g m (.slice qa4 (L.q.length + 1) qcap4) (addQ L s) ∧ Stp w (LF g m (.slice qa L.q.length qcap)) (LF g m (.slice qa4 (L.q.length + 1) qcap4)) (w4.setCell ⟨g, 5, none⟩ (.slice qa4 (L.q.length + 1) qcap4))) := by
    have := HV2.out.setQ hgrow4 (q' := L.q ++ [s]) (vq' := .slice qa4 (L.q.length + 1) qcap4) (by rw [List.length_append, List.length_singleton, List.map_append]; exact hown4) (by
      rcases hat4 with h | h
      · exact .inl h
      · exact .inr ⟨_, h, Nat.le_refl _⟩)
    exact ⟨this.1, HS2.out.trans this.2⟩
  clear hown4 hgrow4 hnil4 hat4 c54 f54 HV1 HS1 HV2 HS2
  generalize w4.setCell ⟨g, 5, none⟩ (.slice qa4 (L.q.length + 1) qcap4) = Z at *
  go_wp2_with fail
  refine (HG.out _ _ HX.out.1).mono ?_
  rintro e w5 ⟨r, rfl, h1, h2, h3⟩
  have HR : Hid (SndP base w g m (.slice qa L.q.length qcap) L s (.returned (.tuple #[r, .int .i64 0])) w5) := by
    refine HF.out _ _ ⟨_, ?_, h2, HX.out.2.trans h3, fun k hk hf => ?_⟩
    · rcases h1 with h1 | ⟨g1, cap, cur, e1, hb, r1⟩
      · exact .inl h1
      · exact .inr ⟨g1, cap, cur, e1, Nat.le_trans HX.out.2.size hb, r1⟩
    · have a1 := (h1.lt k hk).1
      have a2 := (HX.out.1.lt hf).2
      omega
  clear h1 h2 h3 HX HF HG
  go_wp2
  go_ret2
  exact HR.out
end Go.Proofs.Ytiejehaaglpkoaa
