/- queue's Poll and Peek: walks. -/
import Derived.Test.YtnldibcfpbignaaDoorQF
import Derived.Deep.DeepCutAuto
namespace Go.Proofs.YtnldibcfpbignaaDoor
open Go.RowKit Go.ChangeMaps

/-- The first ones of an owned row, copied. -/
theorem cloneG_own {base : Nat} {w : World} {qa : Option Addr} {qcap : Nat} {l : List Gv} (h : w.ownsRow base 38 7 (.slice qa l.length qcap) l.length (gCells l)) (hl : l.length ≤ 1000) {c : Nat} (hc : c ≤ l.length) :
    Calls Tryd.prog 30 #[.slice qa c qcap] w fun e w' => ClG (l.take c) w e w' := by
  have hlt : (l.take c).length = c := by rw [List.length_take]; omega
  rcases Nat.eq_zero_or_pos c with rfl | h0
  · rw [List.take_zero]
    rcases h.2 with ⟨h1, h2⟩ | ⟨b, cap, cur, h1, _⟩
    · obtain ⟨rfl, -, rfl⟩ := Value.slice.inj h1
      exact cloneG_nil w
    · obtain ⟨rfl, -, rfl⟩ := Value.slice.inj h1
      exact cloneG_none b 0 qcap w
  · obtain ⟨b, cap, cur, h1, hb, hg, hn, hm, hs, ht⟩ := own_openG h (by omega)
    obtain ⟨rfl, -, rfl⟩ := Value.slice.inj h1
    have hr : IsRow w 7 (.slice (some ⟨b, 0, none⟩) c qcap) (l.take c).length (gCells (l.take c)) := by
      refine ⟨gCells_len _, .inr ⟨b, 0, qcap, by rw [hlt], (Array.getElem?_eq_some_iff.1 hg).1, by omega, hm, fun j u hu => ?_⟩⟩
      rw [Nat.zero_add, cell_of_row w b j cur _ (0, 0) hg]
      rw [← takeG, ← ht, List.getElem?_take] at hu
      split at hu
      · rw [List.getElem?_take] at hu
        split at hu
        · simpa using hu
        · cases hu
      · cases hu
    exact cloneG_any _ (l.take c) w hr (by omega) (by omega)
/-- How many are taken. -/
def polN (Q : Qu) (most : Int) : Nat := if most < 1 then 0 else min most.toNat Q.l.length
theorem polN_le (Q : Qu) (most : Int) : polN Q most ≤ Q.l.length := by unfold polN; split <;> omega
def PoP (base : Nat) (w : World) (g m : Nat) (vq : Value) (Q : Qu) (n : Nat) (e : Ending) (w' : World) : Prop :=
  ∃ r vq', e = .returned r ∧ QuV base w' g m vq' ⟨Q.r, Q.l.drop n, Q.ov⟩ ∧ Stp w (QF g m vq) (QF g m vq') w' ∧ w'.ownsRow w.heap.size 38 7 r (Q.l.take n).length (gCells (Q.l.take n)) ∧ vq'.ownBlock = vq.ownBlock
set_option maxRecDepth 100000 in
set_option maxHeartbeats 4000000 in
theorem poll_any {base : Nat} {w : World} {g m : Nat} {vq : Value} {Q : Qu} (h : QuV base w g m vq Q) (hl : Q.l.length ≤ 1000) (most : Int) :
    Calls Tryd.prog 16 #[qP g, .int .i64 most] w fun e w' => PoP base w g m vq Q (polN Q most) e w' := by
  by_cases h1 : most < 1
  · have d1 : decide (most < 1) = true := decide_eq_true h1
    have e0 : polN Q most = 0 := by unfold polN; rw [if_pos h1]
    have HX : Hid (PoP base w g m vq Q (polN Q most) (.returned (.slice none 0 0)) w) := ⟨_, vq, rfl, by rw [e0, List.drop_zero]; exact h, Stp.of _ (Below.refl _ _), by rw [e0, List.take_zero]; exact ⟨rfl, .inl ⟨rfl, rfl⟩⟩, rfl⟩
    clear e0 h h1
    go_enter Tryd.func16, Tryd.ntmps16
    go_wp2
    go_ret
    exact HX.out
  have d1 : decide (most < 1) = false := decide_eq_false h1
  have hpl := polN_le Q most
  have hmin : min most (Q.l.length : Int) = ((polN Q most : Nat) : Int) := by unfold polN; rw [if_neg h1]; omega
  have hmin2 : (if most ≤ (Q.l.length : Int) then most else (Q.l.length : Int)) = ((polN Q most : Nat) : Int) := by rw [← hmin]; rfl
  generalize polN Q most = n at *
  obtain ⟨-, c1, -, fz⟩ := h.cells
  obtain ⟨qa, qcap, hqf⟩ := (IsRow.own h.own).form
  subst hqf
  have HC : Hid (Calls Tryd.prog 30 #[.slice qa n qcap] w fun e w' => ClG (Q.l.take n) w e w') := cloneG_own h.own hl hpl
  have HD : Hid (∀ w1, Below w.heap.size w w1 → Calls Tryd.prog 31 #[.slice qa Q.l.length qcap, .int .i64 0, .int .i64 n] w1 fun e w' => DlP base (Q.l.drop n) (.slice qa Q.l.length qcap) w1 e w') := fun w1 hb => delG_any (h.below hb).own hpl
  have HV : Hid (QuV base w g m (.slice qa Q.l.length qcap) Q) := h
  have i1 : (0 : Int) ≤ (n : Int) := by omega
  have i2 : (n : Int) ≤ (qcap : Int) := by
    rcases h.own.2 with ⟨e1, e2⟩ | ⟨b, cap, cur, e1, -, -, e2, -⟩
    · obtain ⟨-, -, rfl⟩ := Value.slice.inj e1; omega
    · obtain ⟨-, -, rfl⟩ := Value.slice.inj e1; omega
  clear h hpl
  go_enter Tryd.func16, Tryd.ntmps16
  go_upto_region 3 with fail
  obtain ⟨wa, rfl⟩ : ∃ wa, wa = w := ⟨_, rfl⟩
  go_cut [5] (fun b wx => b = .int .i64 (n : Int) ∧ wa = wx)
  case first =>
    go_wp2
    all_goals go_meet
    all_goals exact ⟨congrArg (Value.int .i64) (by omega), rfl⟩
  case rest =>
  obtain ⟨rfl, rfl⟩ := hcut
  clear hmin hmin2
  go_wp2_with fail
  refine HC.out.mono ?_
  rintro e w1 ⟨r, rfl, hown, hb⟩
  have HB1 : Hid (Below wa.heap.size wa w1) := hb
  have HO1 : Hid (w1.ownsRow wa.heap.size 38 7 r (Q.l.take n).length (gCells (Q.l.take n))) := hown
  have HV1 : Hid (QuV base w1 g m (.slice qa Q.l.length qcap) Q) := HV.out.below hb
  obtain ⟨-, c1', -, fz'⟩ := HV1.out.cells
  clear hb hown
  go_wp2_with fail
  refine (HD.out w1 HB1.out).mono ?_
  rintro e w2 ⟨v2, rfl, hown2, hat2, hg2⟩
  have hb2 := (hg2.block g HV1.out.size.1 (fun e => HV1.out.ng e.symm)).trans HV1.out.blk
  have c2 : w2.cell? ⟨g, 1, none⟩ = some (.slice qa Q.l.length qcap) := by rw [Lib.cell_of_heap hb2]; rfl
  have f2 : ∀ o, w2.frozen? ⟨g, o, none⟩ = false := fun o => by simp [World.frozen?, hb2]
  obtain ⟨qa2, qcap2, rfl⟩ := (IsRow.own hown2).form
  have HX : Hid (PoP base wa g m (.slice qa Q.l.length qcap) Q n (.returned r) (w2.setCell ⟨g, 1, none⟩ (.slice qa2 (Q.l.drop n).length qcap2))) := by
    obtain ⟨x1, x2⟩ := HV1.out.setQ hg2 hown2 (.inl hat2)
    refine ⟨r, _, rfl, x1, (Stp.of _ HB1.out).trans x2, row_keep HO1.out fun k e => ?_, hat2⟩
    have h9 := HO1.out.lt k e
    refine x2.block k h9.2 fun hf => ?_
    have := (HV.out.lt hf).2
    omega
  clear hb2 hown2 hat2 hg2 HD HC HV HV1 HB1 c1 c1' fz fz'
  generalize (Q.l.drop n).length = ln at *
  obtain ⟨ra, rc, rfl⟩ := (IsRow.own HO1.out).form
  clear HO1
  generalize (Q.l.take n).length = lt at *
  go_wp2
  go_ret
  exact HX.out
def PkP (l : List Gv) (w : World) (e : Ending) (w' : World) : Prop := ∃ r, e = .returned r ∧ w'.ownsRow w.heap.size 38 7 r l.length (gCells l) ∧ Below w.heap.size w w'
/-- All of them are such as the laws offer. -/
def GkL (l : List Gv) : Prop := ∀ x ∈ l, ∃ s q, x = gk s q
set_option maxRecDepth 100000 in
set_option maxHeartbeats 4000000 in
theorem peek_ok {base : Nat} {w : World} {g m : Nat} {vq : Value} {Q : Qu} (h : QuV base w g m vq Q) (hl : Q.l.length ≤ 1000) (hG : GkL Q.l) :
    Calls Tryd.prog 22 #[qP g] w fun e w' => PkP Q.l w e w' := by
  obtain ⟨-, c1, -, fz⟩ := h.cells
  obtain ⟨qa, qcap, hqf⟩ := (IsRow.own h.own).form
  subst hqf
  have HR : Hid (IsRow w 7 (.slice qa Q.l.length qcap) Q.l.length (gCells Q.l)) := IsRow.own h.own
  have HG : Hid (GkL Q.l) := hG
  obtain ⟨i0, hi0, hz0, hz1, hz2⟩ := info_parts info_gv
  have HC : Hid (∀ s q w, Calls Tryd.prog 28 #[gV (gk s q)] w fun e w' => e = .returned (gV (gk s q)) ∧ Below w.heap.size w w') := copyOf_ok
  clear h hG
  generalize Q.l = l at *
  go_enter Tryd.func22, Tryd.ntmps22
  go_wp2_with fail
  go_loopw [2, 12] (fun r' i wr => ∃ (k : Nat) (r : Value), r' = r ∧ k ≤ l.length ∧ i = .int .i64 (k : Int) ∧ wr.ownsRow w.heap.size 38 7 r k (gCells (l.take k)) ∧ Below w.heap.size w wr) (fun _ i _ => l.length - (intOf i).toNat)
  case atStart => exact ⟨0, _, rfl, Nat.zero_le _, rfl, ⟨rfl, .inl ⟨rfl, rfl⟩⟩, Below.refl _ _⟩
  case round =>
    obtain ⟨k, r, rfl, hk, rfl, hown, hB⟩ := hrel
    obtain ⟨ra, rc, rfl⟩ := (IsRow.own hown).form
    by_cases hlk : k < l.length
    · have dk : decide ((k : Int) < l.length) = true := by simp; omega
      obtain ⟨b, off, rfl, hlt, -, hcap, hc⟩ := g_at (HR.out.below hB) (by omega)
      obtain ⟨s, q, hx⟩ := HG.out l[k] (List.getElem_mem hlk)
      obtain ⟨y0, y1, y2, y3, y4, y5, y6⟩ := hc k hlk
      rw [hx] at y0 y1 y2 y3 y4 y5 y6
      have HO : Hid (wr.ownsRow w.heap.size 38 7 (.slice ra k rc) k (gCells (l.take k))) := hown
      have HB : Hid (Below w.heap.size w wr) := hB
      have HX : Hid (gCells (l.take (k + 1)) = gCells (l.take k) ++ enG (gk s q)) := by
        show _ = _
        rw [List.take_succ_eq_append_getElem hlk, gCells_app, gCells_one, hx]
      have i1 : (0 : Int) ≤ (k : Int) := by omega
      have i2 : (k : Int) < (l.length : Int) := by omega
      clear hown hB hc hx
      have HAl : Hid (Below w.heap.size w (wr.alloc (.cells (gA (gk s q)) 38))) := HB.out.trans ((al_b wr _).mono HB.out.size)
      have HO1 : Hid ((wr.alloc (.cells (gA (gk s q)) 38)).ownsRow w.heap.size 38 7 (.slice ra k rc) k (gCells (l.take k))) := HO.out.alloc _
      go_wp2_with fail
      refine (HC.out s q _).mono ?_
      rintro e w5 ⟨rfl, hb5⟩
      have HB5 : Hid (Below w.heap.size w w5) := HAl.out.trans (hb5.mono HAl.out.size)
      have HO5 : Hid ((w5.alloc (.cells (gA (gk s q)) 38)).ownsRow w.heap.size 38 7 (.slice ra k rc) k (gCells (l.take k))) := (row_keep HO1.out fun k' e => hb5.block k' (HO1.out.lt k' e).2).alloc _
      have hbl : (k + 1) * 88 ≤ 140737488355328 := by omega
      have hml : k + 1 ≤ maxLen := by unfold maxLen; omega
      have hbs : w.heap.size ≤ (w5.alloc (.cells (gA (gk s q)) 38)).heap.size := by have := HB5.out.size; simp; omega
      clear hb5 HO1 HAl
      go_wp2_with (at_builtin; go_loud (refine wpList_append_own_at _ rfl (.tmp 16) (.tmp 19) 50 rfl w.heap.size 38 i0 _ 7 88 Tryd.underlying50 hi0 hz0 hz1 hz2 rfl (by decide) (.slice ra k rc) k (gCells (l.take k)) rfl HO5.out ⟨w5.heap.size, 0, none⟩ 1 1 (enG (gk s q)) rfl rfl (gnew w5 (gk s q)) (oneG_cell _) hml hbl hbs ?_); intro v9 w9 hown9 hgrow9 hnil9 hat9; obtain ⟨ra9, rc9, rfl⟩ := (IsRow.own hown9).form)
      have HO9 : Hid (w9.ownsRow w.heap.size 38 7 (.slice ra9 (k + 1) rc9) (k + 1) (gCells (l.take (k + 1)))) := by rw [HX.out]; exact hown9
      have HB9 : Hid (Below w.heap.size w w9) := (HB5.out.trans ((al_b w5 _).mono HB5.out.size)).grown hgrow9 hbs (fun k' hk' => (HO5.out.lt k' hk').1)
      clear hown9 hgrow9 hnil9 hat9 HO5
      go_wp2
      go_roundw
      case rel => exact ⟨k + 1, _, rfl, by omega, by simp, HO9.out, HB9.out⟩
      case measure => simp [intOf]; omega
    · obtain rfl : k = l.length := by omega
      have dk : decide ((l.length : Int) < l.length) = false := by simp
      have HX : Hid (PkP l w (.returned (.slice ra l.length rc)) wr) := ⟨_, rfl, by rw [List.take_of_length_le (Nat.le_refl _)] at hown; exact hown, hB⟩
      clear hown hB
      go_wp2
      go_ret
      exact HX.out
end Go.Proofs.YtnldibcfpbignaaDoor
