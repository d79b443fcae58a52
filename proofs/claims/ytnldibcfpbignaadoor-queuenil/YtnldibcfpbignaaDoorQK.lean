/- slices.DeleteFunc of what was given, queue's Forget: walks. -/
import Derived.Test.YtnldibcfpbignaaDoorQJ
namespace Go.Proofs.YtnldibcfpbignaaDoor
open Go.RowKit Go.ChangeMaps

theorem cell_lt {w : World} {b : Nat} {v : Value} (hb : w.cell? ⟨b, 0, none⟩ = some v) : b < w.heap.size := by
  rcases Nat.lt_or_ge b w.heap.size with h | h
  · exact h
  · simp [World.cell?, Array.getElem?_eq_none h] at hb
set_option maxRecDepth 100000 in
set_option maxHeartbeats 4000000 in
theorem delF_any {base : Nat} {w : World} {v : Value} {l : List Gv} (sub : Int) (bb : Nat) (h : w.ownsRow base 38 7 v l.length (gCells l)) (hl : l.length ≤ 1000) (hb : w.cell? ⟨bb, 0, none⟩ = some (.int .i64 sub)) (hbb : v.ownBlock ≠ some bb) :
    Calls Tryd.prog 32 #[v, fnV bb] w fun e w' => DlP base (stay sub l) v w e w' := by
  have HI : Hid (Calls Tryd.prog 42 #[v, fnV bb] w fun e w' => IxP sub l w e w') := indexG_any sub bb v l w (IsRow.own h) hl hb
  have hblt := cell_lt hb
  cases hfi : l.findIdx? (isS sub) with
  | none =>
    have ei : idxS sub l = -1 := by unfold idxS; rw [hfi]
    have es : stay sub l = l := by
      rw [List.findIdx?_eq_none_iff] at hfi
      unfold stay
      rw [List.filter_eq_self]
      intro x hx
      simp [hfi x hx]
    obtain ⟨a0, cap0, rfl⟩ := (IsRow.own h).form
    have HX : Hid (∀ w', Below w.heap.size w w' → DlP base (stay sub l) (.slice a0 l.length cap0) w (.returned (.slice a0 l.length cap0)) w') := fun w' hb => ⟨_, rfl, by rw [es]; exact row_keep h fun k e => hb.block k (h.lt k e).2, rfl, ⟨hb.os, hb.tape, hb.output, hb.size, fun k hk _ => hb.block k hk⟩⟩
    clear h hb hfi es
    go_enter Tryd.func32, Tryd.ntmps32
    go_wp2_with fail
    refine HI.out.mono ?_
    rintro e w1 ⟨rfl, hb1⟩
    rw [ei]
    have HX1 : Hid (DlP base (stay sub l) (.slice a0 l.length cap0) w (.returned (.slice a0 l.length cap0)) w1) := HX.out w1 hb1
    clear HX HI ei hb1
    go_wp2
    go_ret
    exact HX1.out
  | some k0 =>
    have ei : idxS sub l = (k0 : Int) := by unfold idxS; rw [hfi]
    have hk0 : k0 < l.length := (List.findIdx?_eq_some_iff_getElem.1 hfi).1
    have hs0 : isS sub l[k0] = true := (List.findIdx?_eq_some_iff_getElem.1 hfi).2.1
    obtain ⟨b, cap, cur, rfl, hbg, hg, hn, hm, hs, ht⟩ := own_openG h (by omega)
    have hne : bb ≠ b := fun e => hbb (by rw [e]; rfl)
    have HS : Hid (∀ W, Below w.heap.size w W → DfI w b cur l sub k0 (k0 + 1) W) := fun W hW => (DfI.start hg ht hW hfi).1
    have HT : Hid (∀ x i j W, DfI w b cur l sub i j W → Calls Tryd.prog 33 #[gV x, .pointer (some ⟨bb, 0, none⟩)] W fun e w'' => e = .returned (.bool (isS sub x)) ∧ Below W.heap.size W w'') := fun x i j W hW => test_any x sub bb W ((World.cell?_of_block (a := ⟨bb, 0, none⟩) (hW.gr.block bb hblt (fun e => hne (by cases e; rfl)))).trans hb)
    have Ht : Hid (cur.toList.take (l.length * 7) = gCells l) := ht
    have Hl : Hid (∀ i j W, DfI w b cur l sub i j W → k0 < j → j ≤ l.length → i < j) := fun i j W hW h1 h2 => hW.lt h2 k0 h1 hs0
    clear h hfi ht hg hbb hb
    have n1 : ((k0 : Int) == -1) = false := by simp
    have wk : IntKind.i64.wrap ((k0 : Int) + 1) = ((k0 + 1 : Nat) : Int) := by rw [wrapI (by omega) (by omega)]; push_cast; rfl
    go_enter Tryd.func32, Tryd.ntmps32
    go_wp2_with fail
    refine HI.out.mono ?_
    rintro e w1 ⟨rfl, hb1⟩
    rw [ei]
    have HS1 : Hid (DfI w b cur l sub k0 (k0 + 1) w1) := HS.out w1 hb1
    clear HS hb1 HI ei
    go_wp2_with fail
    go_loopw [5, 6, 7] (fun i' j' _ wr => ∃ i j : Nat, i' = .int .i64 (i : Int) ∧ j' = .int .i64 (j : Int) ∧ k0 < j ∧ j ≤ l.length ∧ DfI w b cur l sub i j wr) (fun _ j' _ _ => l.length - (intOf j').toNat)
    case atStart => exact ⟨k0, k0 + 1, rfl, by first | rfl | (rw [← wk]) | simp, by omega, by omega, HS1.out⟩
    case round =>
      obtain ⟨i, j, rfl, rfl, hkj, hj, hI⟩ := hrel
      have hij := Hl.out i j wr hI hkj hj
      by_cases hlj : j < l.length
      · have dj : decide ((j : Int) < l.length) = true := by simp; omega
        obtain ⟨y0, y1, y2, y3, y4, y5, y6⟩ := hI.cells Ht.out hlj
        have i1 : (0 : Int) ≤ (j : Int) := by omega
        have i2 : (j : Int) < (l.length : Int) := by omega
        have i3 : (0 : Int) ≤ (i : Int) := by omega
        have i4 : (i : Int) < (l.length : Int) := by omega
        have HIg : Hid (∀ W', Below wr.heap.size wr W' → DfI w b cur l sub i j W') := fun W' h => hI.grow h
        have HTx : Hid (∀ W', DfI w b cur l sub i j W' → Calls Tryd.prog 33 #[gV l[j], .pointer (some ⟨bb, 0, none⟩)] W' fun e w'' => e = .returned (.bool (isS sub l[j])) ∧ Below W'.heap.size W' w'') := fun W' h => HT.out _ _ _ W' h
        have HSk : Hid (∀ W', DfI w b cur l sub i j W' → isS sub l[j] = true → DfI w b cur l sub i (j + 1) W') := fun W' h1 h2 => h1.skip hlj h2
        have HPt : Hid (∀ W', DfI w b cur l sub i j W' → isS sub l[j] = false → DfI w b cur l sub (i + 1) (j + 1) (setG W' b (i * 7) l[j])) := fun W' h1 h2 => h1.put hlj h2 hij (by omega)
        have HPl : Hid (∀ W', DfI w b cur l sub i j W' → (∀ o, W'.frozen? ⟨b, o, none⟩ = false) ∧ ∃ u0 u1 u2 u3 u4 u5 u6, W'.cell? ⟨b, i * 7, none⟩ = some u0 ∧ W'.cell? ⟨b, i * 7 + 1, none⟩ = some u1 ∧ W'.cell? ⟨b, i * 7 + 2, none⟩ = some u2 ∧ W'.cell? ⟨b, i * 7 + 3, none⟩ = some u3 ∧ W'.cell? ⟨b, i * 7 + 4, none⟩ = some u4 ∧ W'.cell? ⟨b, i * 7 + 5, none⟩ = some u5 ∧ W'.cell? ⟨b, i * 7 + 6, none⟩ = some u6) := fun W' h => h.place (by omega)
        have HA : Hid (Below wr.heap.size wr (wr.alloc (.cells (gA l[j]) 38))) := al_b wr _
        generalize isS sub l[j] = bo at *
        generalize l[j]'hlj = x at *
        obtain ⟨xs, xo, xn, xl, xq, xt, xa, xk, xc⟩ := x
        dsimp only [gV, gA, setG] at *
        clear hI HT Hl HS1
        go_wp2_with fail
        refine (HTx.out _ (HIg.out _ HA.out)).mono ?_
        rintro e w5 ⟨rfl, hb5⟩
        obtain ⟨cb, fb, hB5, hs5⟩ := part_cells0 hb5
        have HI5 : Hid (DfI w b cur l sub i j w5) := HIg.out w5 hB5
        have z0 : w5.cell? ⟨wr.heap.size, 0, none⟩ = some (.int .i64 xs) := cb 0
        have z1 : w5.cell? ⟨wr.heap.size, 1, none⟩ = some (.string xo) := cb 1
        have z2 : w5.cell? ⟨wr.heap.size, 2, none⟩ = some (.int .i64 xn) := cb 2
        have z3 : w5.cell? ⟨wr.heap.size, 3, none⟩ = some (.int .i64 xl) := cb 3
        have z4 : w5.cell? ⟨wr.heap.size, 4, none⟩ = some (.int .i64 xq) := cb 4
        have z5 : w5.cell? ⟨wr.heap.size, 5, none⟩ = some (.string xt) := cb 5
        have z6 : w5.cell? ⟨wr.heap.size, 6, none⟩ = some (.slice xa xk xc) := cb 6
        clear cb fb hB5 hb5 HIg HTx HA y0 y1 y2 y3 y4 y5 y6
        cases bo with
        | true =>
          have HN : Hid (DfI w b cur l sub i (j + 1) w5) := HSk.out w5 HI5.out rfl
          clear HSk HPt HPl HI5
          go_wp2
          go_roundw
          case rel => exact ⟨i, j + 1, rfl, by simp, by omega, by omega, HN.out⟩
          case measure => simp [intOf]; omega
        | false =>
          have HN := HPt.out w5 HI5.out rfl
          have HN' : Hid (DfI w b cur l sub (i + 1) (j + 1) _) := HN
          obtain ⟨fz, u0, u1, u2, u3, u4, u5, u6, v0, v1, v2, v3, v4, v5, v6⟩ := HPl.out w5 HI5.out
          clear HSk HPt HPl HI5 HN
          go_wp2
          go_roundw
          case rel => exact ⟨i + 1, j + 1, by simp, by simp, by omega, by omega, HN'.out⟩
          case measure => simp [intOf]; omega
      · obtain rfl : j = l.length := by omega
        have dj : decide ((l.length : Int) < l.length) = false := by simp
        obtain ⟨hcl, q1, q2⟩ := hI.done hbg hn hm hs hij
        have HX : Hid (DlP base (stay sub l) (.slice (some ⟨b, 0, none⟩) l.length cap) w (.returned (.slice (some ⟨b, 0, none⟩) i cap)) (wr.setCells b (i * 7) (Builtin.zeroCells (gV zG).cells (l.length - i)).toList)) := ⟨_, rfl, q1, rfl, q2⟩
        have i1 : (0 : Int) ≤ (i : Int) := by omega
        have i2 : (i : Int) ≤ (l.length : Int) := by omega
        have i3 : (i : Int) ≤ (cap : Int) := by omega
        have i5 : ¬ cap = i := by omega
        clear q1 q2 hI HT Hl HS1
        go_wp2
        go_ret
        exact HX.out
def fgQ (Q : Qu) (sub : Int) : Qu := ⟨Q.r, stay sub Q.l, upI Q.ov sub 0⟩
def FgP (base : Nat) (w : World) (g m : Nat) (vq : Value) (Q : Qu) (sub : Int) (e : Ending) (w' : World) : Prop := ∃ vq', e = .returned (.int .i64 ((Q.l.length - (stay sub Q.l).length : Nat) : Int)) ∧ QuV base w' g m vq' (fgQ Q sub) ∧ Stp w (QF g m vq) (QF g m vq') w'
set_option maxRecDepth 100000 in
set_option maxHeartbeats 4000000 in
theorem forget_any {base : Nat} {w : World} {g m : Nat} {vq : Value} {Q : Qu} (h : QuV base w g m vq Q) (hl : Q.l.length ≤ 1000) (sub : Int) :
    Calls Tryd.prog 18 #[qP g, .int .i64 sub] w fun e w' => FgP base w g m vq Q sub e w' := by
  obtain ⟨qa, qcap, hqf⟩ := (IsRow.own h.own).form
  subst hqf
  have hsl := stay_len sub Q.l
  obtain ⟨hgs, hms, hbs⟩ := h.size
  have HV0 : Hid (QuV base w g m (.slice qa Q.l.length qcap) Q) := h
  have hB0 : Below w.heap.size w (w.alloc (.cells #[.int .i64 sub] 3)) := al_b w _
  have HV : Hid (QuV base (w.alloc (.cells #[.int .i64 sub] 3)) g m (.slice qa Q.l.length qcap) Q) := h.below hB0
  have HS : Hid (Stp w (QF g m (.slice qa Q.l.length qcap)) (QF g m (.slice qa Q.l.length qcap)) (w.alloc (.cells #[.int .i64 sub] 3))) := Stp.of _ hB0
  have hbx : (w.alloc (.cells #[.int .i64 sub] 3)).heap[w.heap.size]? = some (.cells #[.int .i64 sub] 3 (0, 0)) := heap_alloc_new w _
  have hnb : (Value.slice qa Q.l.length qcap).ownBlock ≠ some w.heap.size := fun e => by have := (h.own.lt _ e).2; omega
  obtain ⟨-, c1, -, fz⟩ := HV.out.cells
  have hc0 : (w.alloc (.cells #[.int .i64 sub] 3)).cell? ⟨w.heap.size, 0, none⟩ = some (.int .i64 sub) := by rw [Lib.cell_of_heap hbx]; rfl
  have HD : Hid (Calls Tryd.prog 32 #[.slice qa Q.l.length qcap, fnV w.heap.size] (w.alloc (.cells #[.int .i64 sub] 3)) fun e w' => DlP base (stay sub Q.l) (.slice qa Q.l.length qcap) (w.alloc (.cells #[.int .i64 sub] 3)) e w') := delF_any sub w.heap.size HV.out.own hl hc0 hnb
  have HBX : Hid ((w.alloc (.cells #[.int .i64 sub] 3)).heap[w.heap.size]? = some (.cells #[.int .i64 sub] 3 (0, 0))) := hbx
  clear h hB0 hc0 hbx
  go_enter Tryd.func18, Tryd.ntmps18
  go_wp2_with fail
  refine HD.out.mono ?_
  rintro e w2 ⟨v2, rfl, hown2, hat2, hg2⟩
  have hb2 := (hg2.block g HV.out.size.1 (fun e => HV.out.ng e.symm)).trans HV.out.blk
  have hbx2 := (hg2.block w.heap.size (by simp) (fun e => hnb e.symm)).trans HBX.out
  have c2 : w2.cell? ⟨g, 1, none⟩ = some (.slice qa Q.l.length qcap) := by rw [Lib.cell_of_heap hb2]; rfl
  have f2 : ∀ o, w2.frozen? ⟨g, o, none⟩ = false := fun o => by simp [World.frozen?, hb2]
  obtain ⟨qa2, qcap2, rfl⟩ := (IsRow.own hown2).form
  obtain ⟨x1, x2⟩ := HV.out.setQ hg2 hown2 (.inl hat2)
  have HV2 : Hid (QuV base (w2.setCell ⟨g, 1, none⟩ (.slice qa2 (stay sub Q.l).length qcap2)) g m (.slice qa2 (stay sub Q.l).length qcap2) ⟨Q.r, stay sub Q.l, Q.ov⟩) := x1
  have HS2 : Hid (Stp w (QF g m (.slice qa Q.l.length qcap)) (QF g m (.slice qa2 (stay sub Q.l).length qcap2)) (w2.setCell ⟨g, 1, none⟩ (.slice qa2 (stay sub Q.l).length qcap2))) := HS.out.trans x2
  have hne : w.heap.size ≠ g := by omega
  have hb3 : (w2.setCell ⟨g, 1, none⟩ (.slice qa2 (stay sub Q.l).length qcap2)).heap[w.heap.size]? = some (.cells #[.int .i64 sub] 3 (0, 0)) := ((setCell_at w2 1 hb2 _).2 _ hne).trans hbx2
  have k0 : (w2.setCell ⟨g, 1, none⟩ (.slice qa2 (stay sub Q.l).length qcap2)).cell? ⟨w.heap.size, 0, none⟩ = some (.int .i64 sub) := by rw [Lib.cell_of_heap hb3]; rfl
  have HF : Hid (∀ W, QuV base W g m (.slice qa2 (stay sub Q.l).length qcap2) (fgQ Q sub) → Stp w (QF g m (.slice qa Q.l.length qcap)) (QF g m (.slice qa2 (stay sub Q.l).length qcap2)) W → FgP base w g m (.slice qa Q.l.length qcap) Q sub (.returned (.int .i64 ((Q.l.length : Int) - ((stay sub Q.l).length : Int)))) W) := fun W a1 a2 => ⟨_, by rw [Int.ofNat_sub hsl], a1, a2⟩
  have HFg : Hid (fgQ Q sub = ⟨Q.r, stay sub Q.l, upI Q.ov sub 0⟩) := rfl
  have wz : IntKind.i64.wrap ((Q.l.length : Int) - ((stay sub Q.l).length : Int)) = (Q.l.length : Int) - ((stay sub Q.l).length : Int) := wrapI (by omega) (by omega)
  clear hb2 hbx2 hb3 hown2 hat2 hg2 x1 x2 HD HV HS HV0 HBX c1 fz hnb
  generalize stay sub Q.l = l2 at *
  generalize fgQ Q sub = Qf at *
  go_wp2_with fail
  have c2' : (w2.setCell ⟨g, 1, none⟩ (.slice qa2 l2.length qcap2)).cell? ⟨g, 2, none⟩ = some (.map (some m)) := HV2.out.cells.2.2.1
  generalize w2.setCell ⟨g, 1, none⟩ (.slice qa2 l2.length qcap2) = W3 at *
  have hmd : MapI W3.drew m Q.ov := HV2.out.mp.keep rfl
  obtain ⟨w4, hdel, hm4, hg4⟩ := hmd.del sub
  have HV3 : Hid (QuV base W3.drew g m (.slice qa2 l2.length qcap2) ⟨Q.r, l2, Q.ov⟩) := HV2.out.keep fun _ _ => rfl
  have HV4 : Hid (QuV base w4 g m (.slice qa2 l2.length qcap2) Qf ∧ Stp w (QF g m (.slice qa Q.l.length qcap)) (QF g m (.slice qa2 l2.length qcap2)) w4) := by
    obtain ⟨y1, y2⟩ := HV3.out.setM hg4 hm4
    exact ⟨by rw [HFg.out]; exact y1, HS2.out.trans ((Stp.of _ (below_dr2 W3)).trans y2)⟩
  obtain ⟨-, d1, -, d3⟩ := HV4.out.1.cells
  clear hmd hm4 hg4 HV2 HS2 HV3 c2 f2 HFg
  go_region
  have HX : Hid (FgP base w g m (.slice qa Q.l.length qcap) Q sub (.returned (.int .i64 ((Q.l.length : Int) - (l2.length : Int)))) w4) := HF.out w4 HV4.out.1 HV4.out.2
  clear HF HV4
  go_wp2
  go_ret
  exact HX.out
end Go.Proofs.YtnldibcfpbignaaDoor
