/- queue's Offer at what the laws offer: its walk. -/
import Derived.Test.YtnldibcfpbignaaDoorQE
import Derived.Maps.AppendAt
namespace Go.Proofs.YtnldibcfpbignaaDoor
open Go.RowKit Go.ChangeMaps

/-- What is there is put anew, behind a change of its own row alone. -/
theorem QuV.setQ {base : Nat} {w w1 : World} {g m : Nat} {vq vq' : Value} {Q : Qu} (h : QuV base w g m vq Q) (hg : w.grownBy w1 vq.ownBlock) {l' : List Gv} (ho : w1.ownsRow base 38 7 vq' l'.length (gCells l'))
    (hat : vq'.ownBlock = vq.ownBlock ∨ ∃ k, vq'.ownBlock = some k ∧ w.heap.size ≤ k) :
    QuV base (w1.setCell ⟨g, 1, none⟩ vq') g m vq' ⟨Q.r, l', Q.ov⟩ ∧ Stp w (QF g m vq) (QF g m vq') (w1.setCell ⟨g, 1, none⟩ vq') := by
  obtain ⟨hgs, hms, -⟩ := h.size
  have hb1 : w1.heap[g]? = some (.cells (quC Q vq m) 68 (0, 0)) := (hg.block g hgs (fun e => h.ng e.symm)).trans h.blk
  obtain ⟨s1, s2⟩ := setCell_at w1 1 hb1 vq'
  have hng : vq'.ownBlock ≠ some g := by
    intro e
    rcases hat with h2 | ⟨k, h2, hk⟩
    · exact h.ng (h2.symm.trans e)
    · rw [h2] at e; cases e; omega
  have hnm : vq'.ownBlock ≠ some m := by
    intro e
    rcases hat with h2 | ⟨k, h2, hk⟩
    · exact h.nm (h2.symm.trans e)
    · rw [h2] at e; cases e; omega
  have z : (w1.setCell ⟨g, 1, none⟩ vq').heap.size = w1.heap.size := by rw [setCell_eq_setRow w1 g 1 _ _ (0, 0) _ hb1]; simp
  refine ⟨⟨h.lo, h.lm, by rw [s1]; rfl, (h.mp.keep (hg.block m hms (fun e => h.nm e.symm))).keep (s2 m (Ne.symm h.gm)), row_keep ho fun k e => s2 k fun e2 => hng (by rw [e, e2]), hng, hnm⟩, hg.os, hg.tape, hg.output, by rw [z]; exact hg.size, fun k hk hn => ?_, fun k hf => ?_⟩
  · rw [s2 k fun e => hn (.inl e)]
    exact hg.block k hk fun e => hn (.inr (.inr e.symm))
  · rcases hf with rfl | rfl | hf
    · exact .inl (.inl rfl)
    · exact .inl (.inr (.inl rfl))
    · rcases hat with h2 | ⟨k', h2, hk⟩
      · exact .inl (.inr (.inr (h2.symm.trans hf)))
      · rw [h2] at hf; cases hf; exact .inr hk
/-- What did not come in is put anew. -/
theorem QuV.setM {base : Nat} {w w1 : World} {g m : Nat} {vq : Value} {Q : Qu} (h : QuV base w g m vq Q) (hg : w.grownBy w1 (some m)) {f : Int → Int} (hm : MapI w1 m f) :
    QuV base w1 g m vq ⟨Q.r, Q.l, f⟩ ∧ Stp w (QF g m vq) (QF g m vq) w1 := by
  obtain ⟨hgs, hms, -⟩ := h.size
  refine ⟨⟨h.lo, h.lm, (hg.block g hgs (fun e => h.gm (by cases e; rfl))).trans h.blk, hm, row_keep h.own fun k e => hg.block k (h.own.lt k e).2 (fun e2 => h.nm (by rw [e, e2])), h.ng, h.nm⟩, Stp.grown hg fun k e => .inr (.inl (by cases e; rfl))⟩
theorem step_app_at {P : Program} {ops : Array Oper} {o : Oper} {a : Act} {w : World} {K : Act → World → Prop} {Q : Exit → Act → World → Prop} {E : Prop}
    (hg : o.guard = none) (s x : Operand) (t e : TypeId) (ho : o.op = .call { callee := .builtin .append, args := #[s, x], argTypes := #[t, t] })
    (i : TypeInfo) (z : Value) (size bytes : Nat) (ht : P.underlying t = some (.slice e)) (hi : P.info? e = some i) (hz : i.zero = some z)
    (hsize : i.size = size) (hby : i.bytes = bytes) (hzs : z.cells.size = size) (hsz : 0 < size)
    (base : Nat) (v : Value) (n : Nat) (xs : List Value) (hs : a.eval s = v) (hown : w.ownsRow base e size v n xs)
    (ad : Addr) (es : List Value) (hes : es.length = size) (hx : a.eval x = .slice (some ad) 1 1) (hnews : ∀ j u, es[j]? = some u → w.cell? (ad.add j) = some u) (h1 : ∀ u ∈ es, u.oneCell' = true)
    (hbytes : (n + 1) * bytes ≤ 140737488355328) (h63 : n + 1 ≤ maxLen) (hbase : base ≤ w.heap.size)
    (hK : ∀ v' w', w'.ownsRow base e size v' (n + 1) (xs ++ es) → w.grownBy w' v.ownBlock → (v'.ownBlock = v.ownBlock ∨ v'.ownBlock = some w.heap.size) → K (a.put o.dst v') w') :
    if Region.wanted o (yielded ops a.tmps) = true then Oper.wp P o a w K Q else E := by
  have hw : Region.wanted o (yielded ops a.tmps) = true := by simp [Region.wanted, hg]
  rw [if_pos hw]
  obtain ⟨v', w', hr, h2, h3, h4, h5⟩ := run_append_own_at (P := P) w base t o.type e i z size bytes ht hi hz hsize hby hzs hsz v n xs hown ad 1 1 es (by omega) hnews h1 h63 hbytes hbase
  unfold Oper.wp execOp
  simp only [ho, resolve, invoke, builtin, Sem.run_bind, Sem.run_pure, Result.andThen_ok, List.map_toArray, List.map_cons, List.map_nil, hs, hx, hr]
  exact hK _ _ h2 h3 h5
def offE (Q : Qu) : Int := if Q.r ≤ (Q.l.length : Int) then 6 else 0
def offQ (Q : Qu) (x : Gv) : Qu := if Q.r ≤ (Q.l.length : Int) then ⟨Q.r, Q.l, upI Q.ov x.s (Q.ov x.s + 1)⟩ else ⟨Q.r, Q.l ++ [x], Q.ov⟩
def OfP (base : Nat) (w : World) (g m : Nat) (vq : Value) (Q : Qu) (x : Gv) (e : Ending) (w' : World) : Prop := ∃ vq', e = .returned (.int .i64 (offE Q)) ∧ QuV base w' g m vq' (offQ Q x) ∧ Stp w (QF g m vq) (QF g m vq') w'
/-- What stays while a thing is copied. -/
abbrev SO (g b : Nat) (vq : Value) (s q : Int) (w : World) : Prop := w.cell? ⟨g, 1, none⟩ = some vq ∧ w.cell? ⟨b, 0, none⟩ = some (.int .i64 s) ∧ w.cell? ⟨b, 1, none⟩ = some (.string tB) ∧ w.cell? ⟨b, 2, none⟩ = some (.int .i64 1) ∧ w.cell? ⟨b, 3, none⟩ = some (.int .i64 1) ∧ w.cell? ⟨b, 4, none⟩ = some (.int .i64 q) ∧ w.cell? ⟨b, 5, none⟩ = some (.string tB) ∧ w.cell? ⟨b, 6, none⟩ = some (.slice none 0 0)
theorem SO_of {g b : Nat} {vq : Value} {s q : Int} {W w' : World} (h : SO g b vq s q W) (h1 : w'.heap[g]? = W.heap[g]?) (h2 : w'.heap[b]? = W.heap[b]?) : SO g b vq s q w' := by
  have e1 : ∀ o, w'.cell? ⟨g, o, none⟩ = W.cell? ⟨g, o, none⟩ := fun o => World.cell?_of_block (a := ⟨g, o, none⟩) h1
  have e2 : ∀ o, w'.cell? ⟨b, o, none⟩ = W.cell? ⟨b, o, none⟩ := fun o => World.cell?_of_block (a := ⟨b, o, none⟩) h2
  obtain ⟨a0, a1, a2, a3, a4, a5, a6, a7⟩ := h
  exact ⟨(e1 1).trans a0, (e2 0).trans a1, (e2 1).trans a2, (e2 2).trans a3, (e2 3).trans a4, (e2 4).trans a5, (e2 5).trans a6, (e2 6).trans a7⟩
theorem SO_drew {g b : Nat} {vq : Value} {s q : Int} {W : World} (h : SO g b vq s q W) : SO g b vq s q W.drew := h
abbrev SBx (b : Nat) (s q : Int) (w : World) : Prop := w.cell? ⟨b, 0, none⟩ = some (.int .i64 s) ∧ w.cell? ⟨b, 1, none⟩ = some (.string tB) ∧ w.cell? ⟨b, 2, none⟩ = some (.int .i64 1) ∧ w.cell? ⟨b, 3, none⟩ = some (.int .i64 1) ∧ w.cell? ⟨b, 4, none⟩ = some (.int .i64 q) ∧ w.cell? ⟨b, 5, none⟩ = some (.string tB) ∧ w.cell? ⟨b, 6, none⟩ = some (.slice none 0 0)
theorem SBx_far {b g o : Nat} {s q : Int} {w : World} (h : SBx b s q w) (hne : b ≠ g) (v : Value) : SBx b s q (w.setCell ⟨g, o, none⟩ v) := by
  have e : ∀ k, (w.setCell ⟨g, o, none⟩ v).cell? ⟨b, k, none⟩ = w.cell? ⟨b, k, none⟩ := fun k => World.cell?_of_block (a := ⟨b, k, none⟩) (by
    show (w.heap.modify g _)[b]? = w.heap[b]?
    rw [Array.getElem?_modify, if_neg (Ne.symm hne)])
  obtain ⟨a1, a2, a3, a4, a5, a6, a7⟩ := h
  exact ⟨(e 0).trans a1, (e 1).trans a2, (e 2).trans a3, (e 3).trans a4, (e 4).trans a5, (e 5).trans a6, (e 6).trans a7⟩
abbrev S2 (g b : Nat) (vq : Value) (s q : Int) (w : World) : Prop := SO g b vq s q w ∧ g < w.heap.size ∧ b < w.heap.size
theorem S2_call {g b : Nat} {vq : Value} {s q : Int} {W w' : World} (hb : Below W.heap.size W w') (h : S2 g b vq s q W) : S2 g b vq s q w' := ⟨SO_of h.1 (hb.block g h.2.1) (hb.block b h.2.2), Nat.lt_of_lt_of_le h.2.1 hb.size, Nat.lt_of_lt_of_le h.2.2 hb.size⟩
theorem S2_drew {g b : Nat} {vq : Value} {s q : Int} {W : World} (h : S2 g b vq s q W) : S2 g b vq s q W.drew := h
theorem S2_alloc {g b : Nat} {vq : Value} {s q : Int} {W : World} (o : Obj) (h : S2 g b vq s q W) : S2 g b vq s q (W.alloc o) := S2_call (al_b W o) h
theorem gnew (w : World) (x : Gv) : ∀ j u, (enG x)[j]? = some u → (w.alloc (.cells (gA x) 38)).cell? ((⟨w.heap.size, 0, none⟩ : Addr).add j) = some u := by
  intro j u hj
  have e1 : (⟨w.heap.size, 0, none⟩ : Addr).add j = ⟨w.heap.size, j, none⟩ := by cases j <;> simp [Addr.add]
  rw [e1, Lib.cell_of_heap (heap_alloc_new w _)]
  simpa [enG] using hj
theorem below_dr2 (w : World) : Below w.heap.size w w.drew := ⟨rfl, rfl, rfl, Nat.le_refl _, fun _ _ => rfl⟩
set_option maxRecDepth 100000 in
set_option maxHeartbeats 4000000 in
theorem offer_ok {base : Nat} {w : World} {g m : Nat} {vq : Value} {Q : Qu} (h : QuV base w g m vq Q) (s q : Int) (hs : 1 ≤ s) (h1 : 1 ≤ q) (h2 : q ≤ 1099511627775) (hl : Q.l.length ≤ 1000) (ho : 0 ≤ Q.ov s) (ho2 : Q.ov s ≤ 100000) :
    Calls Tryd.prog 13 #[qP g, gV (gk s q)] w fun e w' => OfP base w g m vq Q (gk s q) e w' := by
  have HM : Hid (∀ w, Calls Tryd.prog 27 #[gV (gk s q)] w fun e w' => e = .returned (.bool true) ∧ Below w.heap.size w w') := fun w => mayBe_ok s q hs h1 h2 w
  have HC : Hid (∀ w, Calls Tryd.prog 28 #[gV (gk s q)] w fun e w' => e = .returned (gV (gk s q)) ∧ Below w.heap.size w w') := fun w => copyOf_ok s q w
  have HV : Hid (QuV base w g m vq Q) := h
  obtain ⟨qa, qcap, hqf⟩ := (IsRow.own h.own).form
  obtain ⟨hgs, hms, hbs⟩ := h.size
  have HP : Hid (OfP base w g m vq Q (gk s q) = OfP base w g m vq Q (gk s q)) := rfl
  clear h h1 h2
  subst hqf
  go_enter Tryd.func13, Tryd.ntmps13
  go_wp2_with fail
  refine (HM.out _).mono ?_
  rintro e w1 ⟨rfl, hb⟩
  obtain ⟨cb, fb, hB1, hs1⟩ := part_cells0 hb
  have HV1 : Hid (QuV base w1 g m (.slice qa Q.l.length qcap) Q) := HV.out.below hB1
  have HS1 : Hid (Stp w (QF g m (.slice qa Q.l.length qcap)) (QF g m (.slice qa Q.l.length qcap)) w1) := Stp.of _ hB1
  obtain ⟨c0, c1, c2, fz⟩ := HV1.out.cells
  have b0 : w1.cell? ⟨w.heap.size, 0, none⟩ = some (.int .i64 s) := cb 0
  clear hb hB1
  by_cases hfull : Q.r ≤ (Q.l.length : Int)
  · have d1 : decide (Q.r ≤ (Q.l.length : Int)) = true := decide_eq_true hfull
    have e6 : offE Q = 6 := by unfold offE; rw [if_pos hfull]
    have eQ : offQ Q (gk s q) = ⟨Q.r, Q.l, upI Q.ov s (Q.ov s + 1)⟩ := by unfold offQ; rw [if_pos hfull]
    have HF : Hid (∀ W2, QuV base W2 g m (.slice qa Q.l.length qcap) ⟨Q.r, Q.l, upI Q.ov s (Q.ov s + 1)⟩ → Stp w (QF g m (.slice qa Q.l.length qcap)) (QF g m (.slice qa Q.l.length qcap)) W2 → OfP base w g m (.slice qa Q.l.length qcap) Q (gk s q) (.returned (.int .i64 6)) W2) := fun W2 a1 a2 => ⟨_, by rw [e6], by rw [eQ]; exact a1, a2⟩
    have wz : IntKind.i64.wrap (Q.ov s + 1) = Q.ov s + 1 := wrapI (by omega) (by omega)
    clear e6 eQ hfull
    go_wp2_with fail
    go_quiet (fail)
    have HV2 : Hid (QuV base (w1.drewN nq).drew g m (.slice qa Q.l.length qcap) Q) := HV1.out.keep fun _ _ => rfl
    have HS2 : Hid (Stp w (QF g m (.slice qa Q.l.length qcap)) (QF g m (.slice qa Q.l.length qcap)) (w1.drewN nq).drew) := ⟨HS1.out.os, HS1.out.tape, HS1.out.output, HS1.out.size, HS1.out.block, HS1.out.fp⟩
    have b0' : (w1.drewN nq).cell? ⟨w.heap.size, 0, none⟩ = some (.int .i64 s) := b0
    have c2' : (w1.drewN nq).cell? ⟨g, 2, none⟩ = some (.map (some m)) := c2
    clear b0 c0 c1 c2 fz cb fb HV1 HS1
    generalize w1.drewN nq = W at *
    have hlk := HV2.out.mp.look s
    obtain ⟨w2, hput, hm2, hg2⟩ := HV2.out.mp.put s (Q.ov s + 1)
    have HX : Hid (OfP base w g m (.slice qa Q.l.length qcap) Q (gk s q) (.returned (.int .i64 6)) w2) := by
      obtain ⟨x1, x2⟩ := HV2.out.setM hg2 hm2
      exact HF.out w2 x1 (HS2.out.trans x2)
    clear hm2 hg2
    go_wp2_with fail
    go_region
    go_wp2
    go_ret
    exact HX.out
  · have d1 : decide (Q.r ≤ (Q.l.length : Int)) = false := decide_eq_false hfull
    have e6 : offE Q = 0 := by unfold offE; rw [if_neg hfull]
    have eQ : offQ Q (gk s q) = ⟨Q.r, Q.l ++ [gk s q], Q.ov⟩ := by unfold offQ; rw [if_neg hfull]
    have HF : Hid (∀ W2 vq', QuV base W2 g m vq' ⟨Q.r, Q.l ++ [gk s q], Q.ov⟩ → Stp w (QF g m (.slice qa Q.l.length qcap)) (QF g m vq') W2 → OfP base w g m (.slice qa Q.l.length qcap) Q (gk s q) (.returned (.int .i64 0)) W2) := fun W2 vq' a1 a2 => ⟨_, by rw [e6], by rw [eQ]; exact a1, a2⟩
    obtain ⟨i0, hi0, hz0, hz1, hz2⟩ := info_parts info_gv
    clear e6 eQ hfull
    go_wp2_with fail
    go_quiet (fail)
    have HV2 : Hid (QuV base (w1.drewN nq) g m (.slice qa Q.l.length qcap) Q) := HV1.out.keep fun _ _ => rfl
    have HS2 : Hid (Stp w (QF g m (.slice qa Q.l.length qcap)) (QF g m (.slice qa Q.l.length qcap)) (w1.drewN nq)) := ⟨HS1.out.os, HS1.out.tape, HS1.out.output, HS1.out.size, HS1.out.block, HS1.out.fp⟩
    have hSO : SO g w.heap.size (.slice qa Q.l.length qcap) s q (w1.drewN nq) := ⟨c1, cb 0, cb 1, cb 2, cb 3, cb 4, cb 5, cb 6⟩
    have hsW : w.heap.size < (w1.drewN nq).heap.size := hs1
    clear b0 c0 c1 c2 fz cb fb HV1 HS1 hs1
    generalize w1.drewN nq = W at *
    have HSB : Hid (∀ w', Below W.heap.size W w' → SO g w.heap.size (.slice qa Q.l.length qcap) s q w') := fun w' hb => SO_of hSO (hb.block g (by omega)) (hb.block _ hsW)
    have HSG : Hid (∀ w3 w4, Below W.heap.size W w3 → w3.grownBy w4 (Value.slice qa Q.l.length qcap).ownBlock → SO g w.heap.size (.slice qa Q.l.length qcap) s q w4) := fun w3 w4 hb hg => by
      have hs3 := hb.size
      refine SO_of (HSB.out w3 hb) (hg.block g (by omega) (fun e => HV2.out.ng e.symm)) (hg.block _ (by omega) (fun e => ?_))
      have := (HV.out.own.lt _ e.symm).2
      omega
    have HBd : Hid (Below W.heap.size W W.drew) := below_dr2 W
    have hS : S2 g w.heap.size (.slice qa Q.l.length qcap) s q W.drew := ⟨hSO, by show g < W.heap.size; omega, hsW⟩
    have HOW : Hid (∀ w5, Below W.heap.size W w5 → (w5.alloc (.cells (gA (gk s q)) 38)).ownsRow base 38 7 (.slice qa Q.l.length qcap) Q.l.length (gCells Q.l) ∧ base ≤ (w5.alloc (.cells (gA (gk s q)) 38)).heap.size) := fun w5 hb5 => by
      have h5 := HV2.out.below hb5
      exact ⟨(h5.below (al_b w5 _)).own, (h5.below (al_b w5 _)).size.2.2⟩
    have HST : Hid (∀ w5 w9 va vc, Below W.heap.size W w5 → (w5.alloc (.cells (gA (gk s q)) 38)).grownBy w9 (Value.slice qa Q.l.length qcap).ownBlock → w9.ownsRow base 38 7 (.slice va (Q.l.length + 1) vc) (Q.l.length + 1) (gCells Q.l ++ enG (gk s q)) → ((Value.slice va (Q.l.length + 1) vc).ownBlock = (Value.slice qa Q.l.length qcap).ownBlock ∨ (Value.slice va (Q.l.length + 1) vc).ownBlock = some (w5.alloc (.cells (gA (gk s q)) 38)).heap.size) →
        OfP base w g m (.slice qa Q.l.length qcap) Q (gk s q) (.returned (.int .i64 0)) (w9.setCell ⟨g, 1, none⟩ (.slice va (Q.l.length + 1) vc))) := fun w5 w9 va vc hb5 hg9 ho9 hat9 => by
      have h5 := HV2.out.below hb5
      have h6 := h5.below (al_b w5 (.cells (gA (gk s q)) 38))
      obtain ⟨x1, x2⟩ := h6.setQ hg9 (l' := Q.l ++ [gk s q]) (vq' := .slice va (Q.l.length + 1) vc) (by rw [List.length_append, List.length_singleton, gCells_app, gCells_one]; exact ho9) (by
        rcases hat9 with h | h
        · exact .inl h
        · exact .inr ⟨_, h, Nat.le_refl _⟩)
      exact HF.out _ _ x1 (HS2.out.trans ((Stp.of _ (hb5.trans ((al_b w5 _).mono hb5.size))).trans x2))
    have HFZ : Hid (∀ w5 w9, Below W.heap.size W w5 → (w5.alloc (.cells (gA (gk s q)) 38)).grownBy w9 (Value.slice qa Q.l.length qcap).ownBlock → w9.frozen? ⟨g, 1, none⟩ = false ∧ w9.cell? ⟨g, 1, none⟩ = some (.slice qa Q.l.length qcap) ∧ SBx w.heap.size s q w9 ∧ ∀ v, SBx w.heap.size s q (w9.setCell ⟨g, 1, none⟩ v)) := fun w5 w9 hb5 hg9 => by
      have h6 := (HV2.out.below hb5).below (al_b w5 (.cells (gA (gk s q)) 38))
      have hb9 := (hg9.block g h6.size.1 (fun e => h6.ng e.symm)).trans h6.blk
      have hsz := (hb5.trans ((al_b w5 (.cells (gA (gk s q)) 38)).mono hb5.size))
      have hs3 := hsz.size
      have hs4 := hg9.size
      exact ⟨by simp [World.frozen?, hb9], by rw [Lib.cell_of_heap hb9]; rfl, (HSG.out _ _ hsz hg9).2, fun v => SBx_far (HSG.out _ _ hsz hg9).2 (by omega) v⟩
    have hbl : (Q.l.length + 1) * 88 ≤ 140737488355328 := by omega
    have hml : Q.l.length + 1 ≤ maxLen := by unfold maxLen; omega
    have HSB : Hid (∀ w', Below W.heap.size W w' → SBx w.heap.size s q w') := fun w' hb => (HSB.out w' hb).2
    clear hSO HSG HM HV HF HP ho ho2 hl
    dsimp only [gV, gk, gA] at HC HOW HST HFZ
    go_wp2_with fail
    obtain ⟨⟨k0, k1, k2, k3, k4, k5, k6, k7⟩, -, -⟩ := hS
    have HK5 : Hid (∀ w5, Below W.heap.size W w5 → w5.cell? ⟨g, 1, none⟩ = some (.slice qa Q.l.length qcap) ∧ ∀ o, (w5.alloc o).cell? ⟨g, 1, none⟩ = some (.slice qa Q.l.length qcap)) := fun w5 hb5 => by
      have h5 := HV2.out.below hb5
      exact ⟨h5.cells.2.1, fun o => (h5.below (al_b w5 o)).cells.2.1⟩
    refine wp_region_held_drew (S := fun w' => SBx w.heap.size s q w') (by kernel_rfl) ⟨k1, k2, k3, k4, k5, k6, k7⟩ (fun hHeld => ?_)
    refine wpAnyH_take (i := 0) (v := ?_) rfl (by kernel_rfl) (by kernel_rfl) (by kernel_rfl) (fun _ _ _ h => h) (Or.inl ⟨by rfl, ?_⟩) hHeld ?_
    rotate_left 1
    · intro w9 hSw; obtain ⟨t0, t1, t2, t3, t4, t5, t6⟩ := hSw; go_simp; try with_reducible rfl
    change wpAnyH _ _ _ _ _ _ _ (Act.put _ (some 30) _) _
    simp only [Act.put, List.setIfInBounds_toArray, List.set_cons_zero, List.set_cons_succ]
    refine wpAnyH_take (i := 1) (v := ?_) rfl (by kernel_rfl) (by kernel_rfl) (by kernel_rfl) (fun _ _ _ h => h) (Or.inl ⟨by rfl, ?_⟩) hHeld ?_
    rotate_left 1
    · intro w9 hSw; obtain ⟨t0, t1, t2, t3, t4, t5, t6⟩ := hSw; go_simp; try with_reducible rfl
    change wpAnyH _ _ _ _ _ _ _ (Act.put _ (some 31) _) _
    simp only [Act.put, List.setIfInBounds_toArray, List.set_cons_zero, List.set_cons_succ]
    refine wpAnyH_take (i := 2) (v := ?_) rfl (by kernel_rfl) (by kernel_rfl) (by kernel_rfl) (fun _ _ _ h => h) (Or.inl ⟨by rfl, ?_⟩) hHeld ?_
    rotate_left 1
    · intro w9 hSw; obtain ⟨t0, t1, t2, t3, t4, t5, t6⟩ := hSw; go_simp; try with_reducible rfl
    change wpAnyH _ _ _ _ _ _ _ (Act.put _ (some 32) _) _
    simp only [Act.put, List.setIfInBounds_toArray, List.set_cons_zero, List.set_cons_succ]
    refine wpAnyH_take (i := 3) (v := ?_) rfl (by kernel_rfl) (by kernel_rfl) (by kernel_rfl) (fun _ _ _ h => h) (Or.inl ⟨by rfl, ?_⟩) hHeld ?_
    rotate_left 1
    · intro w9 hSw; obtain ⟨t0, t1, t2, t3, t4, t5, t6⟩ := hSw; go_simp; try with_reducible rfl
    change wpAnyH _ _ _ _ _ _ _ (Act.put _ (some 33) _) _
    simp only [Act.put, List.setIfInBounds_toArray, List.set_cons_zero, List.set_cons_succ]
    refine wpAnyH_take (i := 5) (v := ?_) rfl (by kernel_rfl) (by kernel_rfl) (by kernel_rfl) (fun _ _ _ h => h) (Or.inl ⟨by rfl, ?_⟩) hHeld ?_
    rotate_left 1
    · intro w9 hSw; obtain ⟨t0, t1, t2, t3, t4, t5, t6⟩ := hSw; go_simp; try with_reducible rfl
    change wpAnyH _ _ _ _ _ _ _ (Act.put _ (some 35) _) _
    simp only [Act.put, List.setIfInBounds_toArray, List.set_cons_zero, List.set_cons_succ]
    refine wpAnyH_ready (rs := [4, 6]) (by kernel_rfl) (by simp) ?_
    refine AllReadyH.cons rfl (fun K hK => ?_) (AllReadyH.cons rfl (fun K hK => ?_) AllReadyH.nil)
    · go_simp
      refine hK.out _ _ hHeld (fun hHeld => ?_)
      clear hK K
      refine wpAnyH_ready (rs := [6]) (by kernel_rfl) (by simp) ?_
      refine AllReadyH.cons rfl (fun K hK => ?_) AllReadyH.nil
      go_simp
      refine (HC.out _).mono ?_
      rintro e w5 ⟨rfl, hb5⟩
      have HB5 : Hid (Below W.heap.size W w5) := HBd.out.trans (hb5.mono (Nat.le_refl _))
      obtain ⟨k5a, k5b⟩ := HK5.out w5 HB5.out
      go_simp
      refine hK.out _ _ (HSB.out _ HB5.out) (fun hHeld => ?_)
      clear hK K hb5
      refine wpAnyH_ready (rs := [7]) (by kernel_rfl) (by simp) ?_
      refine AllReadyH.cons rfl (fun K hK => ?_) AllReadyH.nil
      go_simp
      refine hK.out _ _ (HSB.out _ (HB5.out.trans ((al_b w5 _).mono HB5.out.size))) (fun hHeld => ?_)
      clear hK K
      refine wpAnyH_ready (rs := [8]) (by kernel_rfl) (by simp) ?_
      refine AllReadyH.cons rfl (fun K hK => ?_) AllReadyH.nil
      refine step_app_at rfl (.tmp 34) (.tmp 37) 50 38 rfl i0 _ 7 88 Tryd.underlying50 hi0 hz0 hz1 hz2 rfl (by decide) base (.slice qa Q.l.length qcap) Q.l.length (gCells Q.l) rfl (HOW.out w5 HB5.out).1 ⟨w5.heap.size, 0, none⟩ (enG (gk s q)) rfl rfl (gnew w5 (gk s q)) (oneG_cell _) hbl hml (HOW.out w5 HB5.out).2 ?_
      intro v9 w9 hown9 hgrow9 hat9
      obtain ⟨fz9, c19, hS9, hS9'⟩ := HFZ.out w5 w9 HB5.out hgrow9
      obtain ⟨va9, vc9, rfl⟩ := (IsRow.own hown9).form
      have HX : Hid (OfP base w g m (.slice qa Q.l.length qcap) Q (gk s q) (.returned (.int .i64 0)) (w9.setCell ⟨g, 1, none⟩ (.slice va9 (Q.l.length + 1) vc9))) := HST.out w5 w9 va9 vc9 HB5.out hgrow9 hown9 hat9
      clear hown9 hgrow9 hat9
      refine hK.out _ _ hS9 (fun hHeld => ?_)
      clear hK K
      change wpAnyH _ _ _ _ _ _ _ (Act.put _ (some 38) _) _
      simp only [Act.put, List.setIfInBounds_toArray, List.set_cons_zero, List.set_cons_succ]
      refine wpAnyH_take (i := 9) (v := ?_) rfl (by kernel_rfl) (by kernel_rfl) (by kernel_rfl) (fun _ _ _ h => h) (Or.inl ⟨by rfl, ?_⟩) hHeld ?_
      rotate_left 1
      · intro w9 hSw; obtain ⟨t0, t1, t2, t3, t4, t5, t6⟩ := hSw; go_simp; try with_reducible rfl
      change wpAnyH _ _ _ _ _ _ _ (Act.put _ (some 39) _) _
      simp only [Act.put, List.setIfInBounds_toArray, List.set_cons_zero, List.set_cons_succ]
      refine wpAnyH_take (i := 10) (v := ?_) rfl (by kernel_rfl) (by kernel_rfl) (by kernel_rfl) (fun _ _ _ h => h) (Or.inl ⟨by rfl, ?_⟩) hHeld ?_
      rotate_left 1
      · intro w9 hSw; obtain ⟨t0, t1, t2, t3, t4, t5, t6⟩ := hSw; go_simp; try with_reducible rfl
      change wpAnyH _ _ _ _ _ _ _ (Act.put _ (some 40) _) _
      simp only [Act.put, List.setIfInBounds_toArray, List.set_cons_zero, List.set_cons_succ]
      refine wpAnyH_ready (rs := [11]) (by kernel_rfl) (by simp) ?_
      refine AllReadyH.cons rfl (fun K hK => ?_) AllReadyH.nil
      go_simp
      refine hK.out _ _ (hS9' _) (fun hHeld => ?_)
      clear hK K
      refine wpAnyH_done (by kernel_rfl) ?_ _
      clear hHeld hS9 hS9' fz9 c19
      go_wp2
      go_ret
      exact HX.out
    · go_simp
      refine (HC.out _).mono ?_
      rintro e w5 ⟨rfl, hb5⟩
      have HB5 : Hid (Below W.heap.size W w5) := HBd.out.trans (hb5.mono (Nat.le_refl _))
      obtain ⟨k5a, k5b⟩ := HK5.out w5 HB5.out
      go_simp
      refine hK.out _ _ (HSB.out _ HB5.out) (fun hHeld => ?_)
      clear hK K hb5
      refine wpAnyH_ready (rs := [4, 7]) (by kernel_rfl) (by simp) ?_
      refine AllReadyH.cons rfl (fun K hK => ?_) (AllReadyH.cons rfl (fun K hK => ?_) AllReadyH.nil)
      · go_simp
        refine hK.out _ _ hHeld (fun hHeld => ?_)
        clear hK K
        refine wpAnyH_ready (rs := [7]) (by kernel_rfl) (by simp) ?_
        refine AllReadyH.cons rfl (fun K hK => ?_) AllReadyH.nil
        go_simp
        refine hK.out _ _ (HSB.out _ (HB5.out.trans ((al_b w5 _).mono HB5.out.size))) (fun hHeld => ?_)
        clear hK K
        refine wpAnyH_ready (rs := [8]) (by kernel_rfl) (by simp) ?_
        refine AllReadyH.cons rfl (fun K hK => ?_) AllReadyH.nil
        refine step_app_at rfl (.tmp 34) (.tmp 37) 50 38 rfl i0 _ 7 88 Tryd.underlying50 hi0 hz0 hz1 hz2 rfl (by decide) base (.slice qa Q.l.length qcap) Q.l.length (gCells Q.l) rfl (HOW.out w5 HB5.out).1 ⟨w5.heap.size, 0, none⟩ (enG (gk s q)) rfl rfl (gnew w5 (gk s q)) (oneG_cell _) hbl hml (HOW.out w5 HB5.out).2 ?_
        intro v9 w9 hown9 hgrow9 hat9
        obtain ⟨fz9, c19, hS9, hS9'⟩ := HFZ.out w5 w9 HB5.out hgrow9
        obtain ⟨va9, vc9, rfl⟩ := (IsRow.own hown9).form
        have HX : Hid (OfP base w g m (.slice qa Q.l.length qcap) Q (gk s q) (.returned (.int .i64 0)) (w9.setCell ⟨g, 1, none⟩ (.slice va9 (Q.l.length + 1) vc9))) := HST.out w5 w9 va9 vc9 HB5.out hgrow9 hown9 hat9
        clear hown9 hgrow9 hat9
        refine hK.out _ _ hS9 (fun hHeld => ?_)
        clear hK K
        change wpAnyH _ _ _ _ _ _ _ (Act.put _ (some 38) _) _
        simp only [Act.put, List.setIfInBounds_toArray, List.set_cons_zero, List.set_cons_succ]
        refine wpAnyH_take (i := 9) (v := ?_) rfl (by kernel_rfl) (by kernel_rfl) (by kernel_rfl) (fun _ _ _ h => h) (Or.inl ⟨by rfl, ?_⟩) hHeld ?_
        rotate_left 1
        · intro w9 hSw; obtain ⟨t0, t1, t2, t3, t4, t5, t6⟩ := hSw; go_simp; try with_reducible rfl
        change wpAnyH _ _ _ _ _ _ _ (Act.put _ (some 39) _) _
        simp only [Act.put, List.setIfInBounds_toArray, List.set_cons_zero, List.set_cons_succ]
        refine wpAnyH_take (i := 10) (v := ?_) rfl (by kernel_rfl) (by kernel_rfl) (by kernel_rfl) (fun _ _ _ h => h) (Or.inl ⟨by rfl, ?_⟩) hHeld ?_
        rotate_left 1
        · intro w9 hSw; obtain ⟨t0, t1, t2, t3, t4, t5, t6⟩ := hSw; go_simp; try with_reducible rfl
        change wpAnyH _ _ _ _ _ _ _ (Act.put _ (some 40) _) _
        simp only [Act.put, List.setIfInBounds_toArray, List.set_cons_zero, List.set_cons_succ]
        refine wpAnyH_ready (rs := [11]) (by kernel_rfl) (by simp) ?_
        refine AllReadyH.cons rfl (fun K hK => ?_) AllReadyH.nil
        go_simp
        refine hK.out _ _ (hS9' _) (fun hHeld => ?_)
        clear hK K
        refine wpAnyH_done (by kernel_rfl) ?_ _
        clear hHeld hS9 hS9' fz9 c19
        go_wp2
        go_ret
        exact HX.out
      · go_simp
        refine hK.out _ _ (HSB.out _ (HB5.out.trans ((al_b w5 _).mono HB5.out.size))) (fun hHeld => ?_)
        clear hK K
        refine wpAnyH_ready (rs := [4]) (by kernel_rfl) (by simp) ?_
        refine AllReadyH.cons rfl (fun K hK => ?_) AllReadyH.nil
        go_simp
        refine hK.out _ _ hHeld (fun hHeld => ?_)
        clear hK K
        refine wpAnyH_ready (rs := [8]) (by kernel_rfl) (by simp) ?_
        refine AllReadyH.cons rfl (fun K hK => ?_) AllReadyH.nil
        refine step_app_at rfl (.tmp 34) (.tmp 37) 50 38 rfl i0 _ 7 88 Tryd.underlying50 hi0 hz0 hz1 hz2 rfl (by decide) base (.slice qa Q.l.length qcap) Q.l.length (gCells Q.l) rfl (HOW.out w5 HB5.out).1 ⟨w5.heap.size, 0, none⟩ (enG (gk s q)) rfl rfl (gnew w5 (gk s q)) (oneG_cell _) hbl hml (HOW.out w5 HB5.out).2 ?_
        intro v9 w9 hown9 hgrow9 hat9
        obtain ⟨fz9, c19, hS9, hS9'⟩ := HFZ.out w5 w9 HB5.out hgrow9
        obtain ⟨va9, vc9, rfl⟩ := (IsRow.own hown9).form
        have HX : Hid (OfP base w g m (.slice qa Q.l.length qcap) Q (gk s q) (.returned (.int .i64 0)) (w9.setCell ⟨g, 1, none⟩ (.slice va9 (Q.l.length + 1) vc9))) := HST.out w5 w9 va9 vc9 HB5.out hgrow9 hown9 hat9
        clear hown9 hgrow9 hat9
        refine hK.out _ _ hS9 (fun hHeld => ?_)
        clear hK K
        change wpAnyH _ _ _ _ _ _ _ (Act.put _ (some 38) _) _
        simp only [Act.put, List.setIfInBounds_toArray, List.set_cons_zero, List.set_cons_succ]
        refine wpAnyH_take (i := 9) (v := ?_) rfl (by kernel_rfl) (by kernel_rfl) (by kernel_rfl) (fun _ _ _ h => h) (Or.inl ⟨by rfl, ?_⟩) hHeld ?_
        rotate_left 1
        · intro w9 hSw; obtain ⟨t0, t1, t2, t3, t4, t5, t6⟩ := hSw; go_simp; try with_reducible rfl
        change wpAnyH _ _ _ _ _ _ _ (Act.put _ (some 39) _) _
        simp only [Act.put, List.setIfInBounds_toArray, List.set_cons_zero, List.set_cons_succ]
        refine wpAnyH_take (i := 10) (v := ?_) rfl (by kernel_rfl) (by kernel_rfl) (by kernel_rfl) (fun _ _ _ h => h) (Or.inl ⟨by rfl, ?_⟩) hHeld ?_
        rotate_left 1
        · intro w9 hSw; obtain ⟨t0, t1, t2, t3, t4, t5, t6⟩ := hSw; go_simp; try with_reducible rfl
        change wpAnyH _ _ _ _ _ _ _ (Act.put _ (some 40) _) _
        simp only [Act.put, List.setIfInBounds_toArray, List.set_cons_zero, List.set_cons_succ]
        refine wpAnyH_ready (rs := [11]) (by kernel_rfl) (by simp) ?_
        refine AllReadyH.cons rfl (fun K hK => ?_) AllReadyH.nil
        go_simp
        refine hK.out _ _ (hS9' _) (fun hHeld => ?_)
        clear hK K
        refine wpAnyH_done (by kernel_rfl) ?_ _
        clear hHeld hS9 hS9' fz9 c19
        go_wp2
        go_ret
        exact HX.out
end Go.Proofs.YtnldibcfpbignaaDoor
