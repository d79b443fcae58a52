/- The law ViewRises: its walk. -/
import Derived.Test.YtpepdcbhimjddaaDoorVwY
import Derived.Test.YtpepdcbhimjddaaDoorVwW
import Derived.Test.YtpepdcbhimjddaaDoorVwZ0
import Derived.Deep.CutBlock
import Derived.Deep.DeepCutAuto
import Derived.BigRegion
import Derived.BigQuiet
import Derived.Deep.Quiet
namespace Go.Proofs.YtpepdcbhimjddaaDoor
open Go.RowKit

/-- A step, plainly. -/
structure Sp where
  nd : Int
  up : Bool
deriving Inhabited
def enSp (x : Sp) : List Value := [.int .i64 x.nd, .bool x.up]
abbrev sCells (l : List Sp) : List Value := l.flatMap enSp
theorem sCells_get : ∀ (l : List Sp) (i : Nat) (hi : i < l.length) (j : Nat), j < 2 → (sCells l)[i * 2 + j]? = (enSp l[i])[j]?
  | d :: l, 0, _, j, hj => by
    rw [show sCells (d :: l) = enSp d ++ sCells l from rfl, List.getElem?_append_left (by simp [enSp]; omega)]
    simp
  | d :: l, i + 1, hi, j, hj => by
    rw [show sCells (d :: l) = enSp d ++ sCells l from rfl, List.getElem?_append_right (by simp [enSp]; omega)]
    rw [show (i + 1) * 2 + j - (enSp d).length = i * 2 + j by simp [enSp]; omega]
    exact sCells_get l i (by simpa using hi) j hj
theorem sp_at {w : World} {v : Value} {l : List Sp} (h : IsRow w 2 v l.length (sCells l)) {i : Nat} (hi : i < l.length) :
    ∃ b off cap, v = .slice (some ⟨b, off, none⟩) l.length cap ∧ b < w.heap.size ∧ l.length ≤ cap ∧ cap ≤ maxLen ∧ (w.cell? ⟨b, off + i * 2, none⟩ = some (.int .i64 l[i].nd) ∧ w.cell? ⟨b, off + i * 2 + 1, none⟩ = some (.bool l[i].up)) := by
  rcases h.2 with ⟨h0, -⟩ | ⟨b, off, cap, hv, hb, h1, h2, hc⟩
  · omega
  refine ⟨b, off, cap, hv, hb, h1, h2, ?_, ?_⟩
  · exact hc (i * 2 + 0) _ (sCells_get l i hi 0 (by omega))
  · exact hc (i * 2 + 1) _ (sCells_get l i hi 1 (by omega))
/-- A slice that does not lie at block B. -/
def Off (B : Nat) (v : Value) : Prop := ∀ a n c, v = .slice (some a) n c → a.block ≠ B
theorem IsRow.off {w : World} {sz : Nat} {v : Value} {n : Nat} {xs : List Value} (h : IsRow w sz v n xs) {b o : Nat} (hn : Off b v) (u : Value) : IsRow (w.setCell ⟨b, o, none⟩ u) sz v n xs := by
  refine ⟨h.1, ?_⟩
  rcases h.2 with h | ⟨g, off, cap, rfl, hlt, hc, hm, hcell⟩
  · exact .inl h
  · have hne : g ≠ b := hn _ _ _ rfl
    refine .inr ⟨g, off, cap, rfl, by simpa using hlt, hc, hm, fun j u' hu => ?_⟩
    rw [World.cell?_setCell_other _ _ _ _ (fun e => hne (congrArg Addr.block e).symm)]
    exact hcell j u' hu
theorem NewB.off {C B : Nat} {v : Value} (h : NewB C v) (hb : B < C) : Off B v := fun a n c e => by
  have := h a n c e
  omega
abbrev T3 (b : Nat) (x y : Value) (s o : Nat) (z : Value) (w0 w : World) : Prop := w.cell? ⟨b, 0, none⟩ = some x ∧ w.cell? ⟨b, 1, none⟩ = some y ∧ w.cell? ⟨s, o, none⟩ = some z ∧ (b < w.heap.size ∧ s < w.heap.size) ∧ Below w0.heap.size w0 w
theorem T3_drew {b : Nat} {x y : Value} {s o : Nat} {z : Value} {w0 W : World} (h : T3 b x y s o z w0 W) : T3 b x y s o z w0 W.drew := ⟨h.1, h.2.1, h.2.2.1, h.2.2.2.1, h.2.2.2.2.drew⟩
theorem T3_call {b : Nat} {x y : Value} {s o : Nat} {z : Value} {w0 W w' : World} (hb : Below W.heap.size W w') (h : T3 b x y s o z w0 W) : T3 b x y s o z w0 w' := ⟨(hb.cell (p := ⟨b, 0, none⟩) h.2.2.2.1.1).trans h.1, (hb.cell (p := ⟨b, 1, none⟩) h.2.2.2.1.1).trans h.2.1, (hb.cell (p := ⟨s, o, none⟩) h.2.2.2.1.2).trans h.2.2.1, ⟨Nat.lt_of_lt_of_le h.2.2.2.1.1 hb.size, Nat.lt_of_lt_of_le h.2.2.2.1.2 hb.size⟩, h.2.2.2.2.trans (hb.mono h.2.2.2.2.size)⟩
theorem T3_alloc {b : Nat} {x y : Value} {s o : Nat} {z : Value} {w0 W : World} (ob : Obj) (h : T3 b x y s o z w0 W) : T3 b x y s o z w0 (W.alloc ob) := T3_call (al_belowV W ob) h
theorem T3_b {b : Nat} {x y : Value} {s o : Nat} {z : Value} {w0 W : World} (h : T3 b x y s o z w0 W) : Below w0.heap.size w0 W := h.2.2.2.2
theorem two_al (w : World) (o1 o2 : Obj) : ((w.alloc o1).alloc o2).heap[w.heap.size]? = some o1 ∧ ((w.alloc o1).alloc o2).heap[w.heap.size + 1]? = some o2 ∧ Below w.heap.size w ((w.alloc o1).alloc o2) := by
  refine ⟨?_, ?_, (al_belowV w _).trans ((al_belowV _ _).mono (by simp))⟩
  · show ((w.heap.push _).push _)[w.heap.size]? = _
    rw [Array.getElem?_push, if_neg (by simp), Array.getElem?_push, if_pos rfl]
  · show ((w.heap.push _).push _)[w.heap.size + 1]? = _
    rw [Array.getElem?_push, if_pos (by simp)]
theorem drewN_bZ {B : Nat} {a w : World} (h : Below B a w) (n : Nat) : Below B a (w.drewN n) := ⟨h.os, h.tape, h.output, h.size, h.block⟩
/-- A view in its box. -/
def VS (B : Nat) (ep : Int) (l : List Mb) (wr : World) : Prop := ∃ a c, wr.heap[B]? = some (.cells #[.int .i64 ep, .slice a l.length c] 24 (0, 0)) ∧ IsRow wr 3 (.slice a l.length c) l.length (mCells l) ∧ Off B (.slice a l.length c)
theorem VS.below {B : Nat} {ep : Int} {l : List Mb} {w w' : World} (h : VS B ep l w) (hb : Below w.heap.size w w') : VS B ep l w' := by
  obtain ⟨a, c, h1, h2, h3⟩ := h
  exact ⟨a, c, (hb.block _ (heap_at h1).2.2).trans h1, h2.below hb, h3⟩
theorem off_new {w : World} {sz : Nat} {v : Value} {n : Nat} {xs : List Value} (h : IsRow w sz v n xs) (h0 : 0 < n) : Off w.heap.size v := fun a m c hv => by
  intro e
  rcases h.2 with ⟨hz, -⟩ | ⟨b, off, cap, hv', hlt, -⟩
  · omega
  · rw [hv'] at hv
    obtain ⟨ha, -, -⟩ := Value.slice.inj hv
    simp at ha
    subst ha
    exact absurd hlt (by show ¬ b < _; rw [← e]; exact Nat.lt_irrefl _)
/-- Who is gone by a step. -/
theorem gn_step {ep : Int} {up : Bool} {nd : Int} {l : List Mb} (hv : VwP ep l) (hv2 : VwP (ep + 1) (l.map (tM ep up nd))) (k : Nat) (hk : k < l.length) (hn : l[k].nd = nd) (hz : eOf ep up l[k] = 0) : gnL ep l (ep + 1) (l.map (tM ep up nd)) = if up = true then [] else [nd] := by
  obtain ⟨z1, -, -⟩ := eOf_zero hz
  have key : ∀ (j : Nat) (hj : j < l.length), ¬ j = k → l[j] ∈ l.map (tM ep up nd) := fun j hj hne => by
    refine List.mem_map.2 ⟨l[j], List.getElem_mem hj, ?_⟩
    unfold tM
    rw [if_neg]
    intro e
    exact hne (nds_nodup hv.2.2.2 j k hj hk (e.trans hn.symm))
  unfold gnL
  rw [if_pos ⟨vB_true hv, vB_true hv2⟩]
  cases up
  · have hu : l[k].up = true := by cases h : l[k].up <;> simp_all
    have hnot : l[k] ∉ l.map (tM ep false nd) := fun hm => by
      obtain ⟨x, hx, e⟩ := List.mem_map.1 hm
      unfold tM at e
      split at e
      · have := congrArg Mb.up e
        rw [hu] at this
        cases this
      · rename_i hne
        exact hne (by rw [e]; exact hn)
    have hs : l = l.take k ++ l[k] :: l.drop (k + 1) := by rw [List.getElem_cons_drop, List.take_append_drop]
    have hin : ∀ m ∈ l.take k, m ∈ l.map (tM ep false nd) := fun m hm => by
      obtain ⟨j, hj, rfl⟩ := List.mem_take_iff_getElem.1 hm
      exact key j (by omega) (by omega)
    have hin2 : ∀ m ∈ l.drop (k + 1), m ∈ l.map (tM ep false nd) := fun m hm => by
      obtain ⟨j, hj, rfl⟩ := List.mem_iff_getElem.1 hm
      rw [List.getElem_drop]
      exact key (k + 1 + j) (by simp at hj; omega) (by omega)
    generalize hM : l.map (tM ep false nd) = M at *
    have : (l.take k ++ l[k] :: l.drop (k + 1)).filter (fun m => m.up && !decide (m ∈ M)) = [l[k]] := by
      rw [List.filter_append, List.filter_eq_nil_iff.2 (fun m hm => by simp [hin m hm]), List.nil_append, List.filter_cons_of_pos (by simp [hu, hnot]), List.filter_eq_nil_iff.2 (fun m hm => by simp [hin2 m hm])]
    rw [← hs] at this
    rw [this, if_neg (by decide)]
    simp [hn]
  · rw [if_pos rfl, List.filter_eq_nil_iff.2 (fun m hm => ?_)]
    · rfl
    · obtain ⟨j, hj, rfl⟩ := List.mem_iff_getElem.1 hm
      by_cases e : j = k
      · subst e
        have hu : l[j].up = false := by cases h : l[j].up <;> simp_all
        simp [hu]
      · simp [key j hj e]
/-- A region whose operations stand as a list, at a class of worlds of our own. -/
theorem region_quiet_l {P : Program} {C : World → Prop} {id : Nat} {Q : Exit → Act → World → Prop} {a : Act} {w : World} {l : List Oper} (hm : P.follows .mixedOrders = true) (hB : Region.lexB .any l.toArray = true) (hC : C { w with drawn := w.drawn + 1 })
    (h : wpQuiet P l.toArray C (fun a' => ∀ w', C w' → Q .normal a' w') l a) : (Code.region id l.toArray true).wp P Q a w := wp_region_quiet hm hB hC (by simpa using h)
set_option maxRecDepth 100000 in
set_option maxHeartbeats 40000000 in
theorem viewRises_walk (v : Value) (ns : List Int) (vs : Value) (st : List Sp) (w : World) (hr : IsRow w 1 v ns.length (iCells ns)) (hl : ns.length ≤ 140737488355328) (hrs : IsRow w 2 vs st.length (sCells st)) (_hls : st.length ≤ 140737488355328) (hT : Q.Tab w) :
    Calls Tryd.prog 6 #[v, vs] w fun e w' => e = .returned (.bool true) ∧ Below w.heap.size w w' := by
  obtain ⟨a0, cap0, rfl⟩ := hr.form
  obtain ⟨sa, caps, rfl⟩ := hrs.form
  have HS : Hid (∀ w', Below w.heap.size w w' → IsRow w' 2 (.slice sa st.length caps) st.length (sCells st)) := fun w' h => hrs.below h
  have HAw : Hid (∀ W, Below w.heap.size w W → Calls Tryd.prog 9 #[] W fun e w' => e = .returned (.bool true) ∧ Below W.heap.size W w') := fun W h => awake14_any W (hT.below h hT.size)
  have HF : Hid (Calls Tryd.prog 11 #[.slice a0 ns.length cap0] w fun e w' => VwPost (if fsB ns = true then 1 else 0) (if fsB ns = true then fsM ns else []) (if fsB ns = true then 0 else 1) w e w') := first_big _ ns w hr hl
  have HV0 : Hid (fsB ns = true → VwP 1 (fsM ns)) := fun h => by
    unfold fsB at h
    simp only [Bool.and_eq_true, Bool.not_eq_true', List.isEmpty_eq_false_iff] at h
    refine ⟨by decide, by unfold fsM; simpa using h.1, fun m hm => ?_, ?_⟩
    · unfold fsM at hm
      obtain ⟨x, -, rfl⟩ := List.mem_map.1 hm
      show cntB 1 = true
      decide
    · have e : nds (fsM ns) = ns := by
        unfold nds fsM
        rw [List.map_map]
        exact List.map_id ns
      rw [e]
      apply Classical.byContradiction
      intro hn
      rw [nodesB_false hn] at h
      cases h.2
  clear hr hrs hT
  cases hfb : fsB ns
  · rw [hfb] at HF
    simp only [Bool.false_eq_true, if_false] at HF
    clear HV0 hfb
    go_enter Tryd.func6, Tryd.ntmps6
    go_wp2_with fail
    refine HF.out.mono ?_
    rintro e w1 ⟨v1, rfl, hr1, -, hb1⟩
    obtain ⟨a1, c1, rfl⟩ := hr1.form
    have HB1 : Hid (Below w.heap.size w (w1.alloc (.cells #[.int .i64 0, .slice a1 0 c1] 24))) := hb1.alloc hb1.size _
    have HK : Hid (∀ W, Below (w1.alloc (.cells #[.int .i64 0, .slice a1 0 c1] 24)).heap.size (w1.alloc (.cells #[.int .i64 0, .slice a1 0 c1] 24)) W → (W.cell? ⟨w1.heap.size, 0, none⟩ = some (.int .i64 0) ∧ W.cell? ⟨w1.heap.size, 1, none⟩ = some (.slice a1 0 c1)) ∧ Calls Tryd.prog 14 #[.agg #[.int .i64 0, .slice a1 0 c1]] W fun e w' => e = .returned (.bool false) ∧ Below W.heap.size W w') := fun W h => by
      have h2 := two_V ((h.block _ (by simp)).trans (alloc_top w1 (.cells #[.int .i64 0, .slice a1 0 c1] 24)))
      refine ⟨⟨h2.1, h2.2.1⟩, ?_⟩
      have := check_any 0 (.slice a1 0 c1) [] W ⟨by simp, .inl ⟨rfl, _, _, rfl⟩⟩ (by decide)
      rw [vB_false (fun hv => hv.2.1 rfl)] at this
      exact this
    clear hr1 hb1 HF HS
    go_wp2_with fail
    refine (HAw.out _ HB1.out).mono ?_
    rintro e w2 ⟨rfl, hb2⟩
    have HB2 : Hid (Below w.heap.size w w2) := HB1.out.trans (hb2.mono HB1.out.size)
    obtain ⟨⟨p0, p1⟩, hck⟩ := HK.out _ hb2
    have HC : Hid (Calls Tryd.prog 14 #[.agg #[.int .i64 0, .slice a1 0 c1]] w2 fun e w' => e = .returned (.bool false) ∧ Below w2.heap.size w2 w') := hck
    clear hb2 hck HK
    go_wp2_with fail
    refine HC.out.mono ?_
    rintro e w3 ⟨rfl, hb3⟩
    have HB3 : Hid (Below w.heap.size w w3) := HB2.out.trans (hb3.mono HB2.out.size)
    clear hb3 HC
    go_wp2
    go_ret
    exact ⟨rfl, HB3.out⟩
  rw [hfb] at HF
  simp only [if_true] at HF
  have HV : Hid (VwP 1 (fsM ns)) := HV0.out hfb
  clear HV0 hfb
  go_enter Tryd.func6, Tryd.ntmps6
  go_wp2_with fail
  refine HF.out.mono ?_
  rintro e w1 ⟨v1, rfl, hr1, hn1, hb1⟩
  obtain ⟨a1, c1, rfl⟩ := hr1.form
  have HB1 : Hid (Below w.heap.size w (w1.alloc (.cells #[.int .i64 1, .slice a1 (fsM ns).length c1] 24))) := hb1.alloc hb1.size _
  have HVS : Hid (VS w1.heap.size 1 (fsM ns) (w1.alloc (.cells #[.int .i64 1, .slice a1 (fsM ns).length c1] 24))) := ⟨a1, c1, alloc_top _ _, hr1.below (al_belowV w1 _), off_new hr1 HV.out.pos⟩
  have hs1 := hb1.size
  clear hr1 hn1 hb1 HF
  go_wp2_with fail
  generalize hBV : w1.heap.size = BV at *
  go_loopw [4, 7, 9, 10, 13] (fun r i f q g wr => r = .bool false ∧ f = f ∧ q = q ∧ g = g ∧ ∃ (k : Nat) (ep : Int) (l : List Mb), (k ≤ st.length ∧ k ≤ 40) ∧ i = .int .i64 (k : Int) ∧ Hid (VwP ep l) ∧ Hid (VS BV ep l wr) ∧ Hid (Below w.heap.size w wr)) (fun _ i _ _ _ _ => st.length - (intOf i).toNat)
  case atStart => exact ⟨rfl, rfl, rfl, rfl, 0, 1, fsM ns, ⟨Nat.zero_le _, by omega⟩, rfl, HV, HVS, HB1⟩
  case round =>
    clear HV HVS HB1
    obtain ⟨rfl, -, -, -, k, ep, l, hk, rfl, HV, HVS, HB⟩ := hrel
    have hsz := HB.out.size
    by_cases hlk : k < st.length ∧ k < 40
    · have dk : decide (k < st.length) = true := by simp; omega
      have dk2 : decide ((k : Int) < 40) = true := by simp; omega
      have wk : IntKind.i64.wrap ((k : Int) + 1) = (k : Int) + 1 := wrapI (by omega) (by omega)
      obtain ⟨sb, so, sc, hv, hslt, hc1, hc2, s0, s1⟩ := sp_at (HS.out _ HB.out) hlk.1
      obtain ⟨rfl, -, rfl⟩ := Value.slice.inj hv
      have i1 : (0 : Int) ≤ (k : Int) := by omega
      have i2 : (k : Int) < (st.length : Int) := by omega
      have HSc : Hid (∀ W, Below wr.heap.size wr W → W.cell? ⟨sb, so + k * 2, none⟩ = some (.int .i64 (st[k]'hlk.1).nd) ∧ W.cell? ⟨sb, so + k * 2 + 1, none⟩ = some (.bool (st[k]'hlk.1).up)) := fun W h => ⟨(h.cell (p := ⟨sb, so + k * 2, none⟩) hslt).trans s0, (h.cell (p := ⟨sb, so + k * 2 + 1, none⟩) hslt).trans s1⟩
      obtain ⟨av, cv, hH, hRw, hOf⟩ := HVS.out
      have hgB := (heap_at hH).2.2
      have hHx : Hid (wr.heap[BV]? = some (.cells #[.int .i64 ep, .slice av l.length cv] 24 (0, 0))) := hH
      have HVc : Hid (∀ W, Below wr.heap.size wr W → (W.cell? ⟨BV, 0, none⟩ = some (.int .i64 ep) ∧ W.cell? ⟨BV, 1, none⟩ = some (.slice av l.length cv)) ∧ IsRow W 3 (.slice av l.length cv) l.length (mCells l)) := fun W h => by
        have h2 := two_V ((h.block _ hgB).trans hH)
        exact ⟨⟨h2.1, h2.2.1⟩, hRw.below h⟩
      have hl15 := HV.out.len
      have HDn : Hid (∀ W, Below wr.heap.size wr W → ∀ nd, Calls Tryd.prog 23 #[.agg #[.int .i64 ep, .slice av l.length cv], .int .i64 nd] W fun e w' => VwPost (tEp ep false nd l) (tLs ep false nd l) (tE ep false nd l) W e w') := fun W h nd => down_any ep _ l nd W (HVc.out W h).2 (by omega)
      have HUp : Hid (∀ W, Below wr.heap.size wr W → ∀ nd, Calls Tryd.prog 25 #[.agg #[.int .i64 ep, .slice av l.length cv], .int .i64 nd] W fun e w' => VwPost (tEp ep true nd l) (tLs ep true nd l) (tE ep true nd l) W e w') := fun W h nd => up_any ep _ l nd W (HVc.out W h).2 (by omega)
      obtain ⟨⟨p0, p1⟩, -⟩ := HVc.out wr (Below.refl _ _)
      generalize hsk : (st[k]'hlk.1) = sk at *
      obtain ⟨nd, up⟩ := sk
      dsimp only at *
      clear hsk hv hH hRw
      go_upto_region 7 with fail
      go_cut [8, 9] (fun p f wx => ∃ B a2 c2, p = .pointer (some ⟨B, 0, none⟩) ∧ f = .int .i64 (tE ep false nd l) ∧ Hid (wr.heap.size ≤ B) ∧ Hid (wx.heap[B]? = some (.cells #[.int .i64 (tEp ep false nd l), .slice a2 (tLs ep false nd l).length c2] 24 (0, 0))) ∧ Hid (IsRow wx 3 (.slice a2 (tLs ep false nd l).length c2) (tLs ep false nd l).length (mCells (tLs ep false nd l))) ∧ Hid (NewB wr.heap.size (.slice a2 (tLs ep false nd l).length c2)) ∧ Hid (Below wr.heap.size wr wx))
      case first =>
        as_aux_lemma =>
          clear HUp HSc HAw HS
          have p0' := ((al_belowV wr (.cells #[.int .i64 0, .slice none 0 0] 24)).cell (p := ⟨BV, 0, none⟩) hgB).trans p0
          have p1' := ((al_belowV wr (.cells #[.int .i64 0, .slice none 0 0] 24)).cell (p := ⟨BV, 1, none⟩) hgB).trans p1
          have s0' := ((al_belowV wr (.cells #[.int .i64 0, .slice none 0 0] 24)).cell (p := ⟨sb, so + k * 2, none⟩) hslt).trans s0
          have HD1 : Hid (Calls Tryd.prog 23 #[.agg #[.int .i64 ep, .slice av l.length cv], .int .i64 nd] wr.drew fun e w' => ∃ a2 c2, e = .returned (.tuple #[.agg #[.int .i64 (tEp ep false nd l), .slice a2 (tLs ep false nd l).length c2], .int .i64 (tE ep false nd l)]) ∧ IsRow w' 3 (.slice a2 (tLs ep false nd l).length c2) (tLs ep false nd l).length (mCells (tLs ep false nd l)) ∧ NewB wr.heap.size (.slice a2 (tLs ep false nd l).length c2) ∧ Below wr.heap.size wr w') := by
            refine (HDn.out wr.drew (Below.refl _ _).drew nd).mono ?_
            rintro e w' ⟨v', rfl, h1, h2, h3⟩
            obtain ⟨a2, c2, rfl⟩ := h1.form
            exact ⟨a2, c2, rfl, h1, h2, (Below.refl _ _).drew.trans h3⟩
          have HD2 : Hid (Calls Tryd.prog 23 #[.agg #[.int .i64 ep, .slice av l.length cv], .int .i64 nd] (wr.alloc (.cells #[.int .i64 0, .slice none 0 0] 24)).drew fun e w' => ∃ a2 c2, e = .returned (.tuple #[.agg #[.int .i64 (tEp ep false nd l), .slice a2 (tLs ep false nd l).length c2], .int .i64 (tE ep false nd l)]) ∧ (w'.cell? ⟨wr.heap.size, 0, none⟩ = some (.int .i64 0) ∧ w'.cell? ⟨wr.heap.size, 1, none⟩ = some (.slice none 0 0) ∧ w'.frozen? ⟨wr.heap.size, 0, none⟩ = false ∧ w'.frozen? ⟨wr.heap.size, 1, none⟩ = false) ∧ Hid (∀ x y, ∃ a2' c2', ((w'.setCell ⟨wr.heap.size, 0, none⟩ x).setCell ⟨wr.heap.size, 1, none⟩ y).heap[wr.heap.size]? = some (.cells #[x, y] 24 (0, 0)) ∧ Value.slice a2 (tLs ep false nd l).length c2 = Value.slice a2' (tLs ep false nd l).length c2' ∧ IsRow ((w'.setCell ⟨wr.heap.size, 0, none⟩ x).setCell ⟨wr.heap.size, 1, none⟩ y) 3 (.slice a2 (tLs ep false nd l).length c2) (tLs ep false nd l).length (mCells (tLs ep false nd l)) ∧ Below wr.heap.size wr ((w'.setCell ⟨wr.heap.size, 0, none⟩ x).setCell ⟨wr.heap.size, 1, none⟩ y)) ∧ NewB wr.heap.size (.slice a2 (tLs ep false nd l).length c2)) := by
            have hA := (al_belowV wr (.cells #[.int .i64 0, .slice none 0 0] 24)).drew
            refine (HDn.out _ hA nd).mono ?_
            rintro e w' ⟨v', rfl, h1, h2, h3⟩
            obtain ⟨a2, c2, rfl⟩ := h1.form
            have hq : w'.heap[wr.heap.size]? = some (.cells #[.int .i64 0, .slice none 0 0] 24 (0, 0)) := (h3.block _ (by simp)).trans (alloc_top wr _)
            have hsA : wr.heap.size < (wr.alloc (.cells #[.int .i64 0, .slice none 0 0] 24)).drew.heap.size := by simp
            refine ⟨a2, c2, rfl, two_V hq, fun x y => ?_, h2.mono (by omega)⟩
            have t1 := setCell_atV w' 0 hq x
            have t2 := setCell_atV _ 1 t1.1 y
            exact ⟨a2, c2, t2.1, rfl, (h1.far h2 hsA _).far h2 hsA _, set2_V (hA.trans (h3.mono hA.size)) (Nat.le_refl _) _ _⟩
          clear HDn
          go_region_with (first | (go_at_call 23; refine HD1.out.mono ?_; rintro e w2 ⟨a2, c2, rfl, hr2, hn2, hb2⟩) | (go_at_call 23; refine HD2.out.mono ?_; rintro e w2 ⟨a2, c2, rfl, ⟨q0, q1, q2, q3⟩, hF2, hn2⟩))
          all_goals go_wp2_with fail
          all_goals go_meet
          all_goals first
            | exact ⟨w2.heap.size, a2, c2, rfl, rfl, hb2.size, alloc_top _ _, hr2.below (al_belowV w2 _), hn2, hb2.alloc hb2.size _⟩
            | (obtain ⟨_, _, h1, -, h2, h3⟩ := hF2.out (.int .i64 (tEp ep false nd l)) (.slice a2 (tLs ep false nd l).length c2); exact ⟨wr.heap.size, a2, c2, rfl, rfl, Nat.le_refl _, h1, h2, hn2, h3⟩)
      case rest =>
        obtain ⟨B, a2, c2, rfl, rfl, HBB, HHB, HRB, HNB, HBx⟩ := hcut
        obtain ⟨wd, hwd⟩ : ∃ wd, wd = wc := ⟨_, rfl⟩
        subst hwd
        clear HDn p0 p1 s0 s1
        obtain ⟨⟨p0, p1⟩, -⟩ := HVc.out wd HBx.out
        obtain ⟨s0, s1⟩ := HSc.out wd HBx.out
        go_upto_if 51 with fail
        go_cut [9] (fun f wx => ∃ a3 c3, f = .int .i64 (tE ep up nd l) ∧ Hid (wx.heap[B]? = some (.cells #[.int .i64 (tEp ep up nd l), .slice a3 (tLs ep up nd l).length c3] 24 (0, 0))) ∧ Hid (IsRow wx 3 (.slice a3 (tLs ep up nd l).length c3) (tLs ep up nd l).length (mCells (tLs ep up nd l))) ∧ Hid (NewB wr.heap.size (.slice a3 (tLs ep up nd l).length c3)) ∧ Hid (Below wr.heap.size wr wx))
        case first =>
          cases up
          · clear HUp HAw HS
            go_wp2
            go_meet
            exact ⟨a2, c2, rfl, HHB, HRB, HNB, HBx⟩
          · have hBBl := (heap_at HHB.out).2.2
            have hBB := HBB.out
            have hdz := HBx.out.size
            have HU1 : Hid (Calls Tryd.prog 25 #[.agg #[.int .i64 ep, .slice av l.length cv], .int .i64 nd] wd.drew fun e w' => ∃ a3 c3, e = .returned (.tuple #[.agg #[.int .i64 (tEp ep true nd l), .slice a3 (tLs ep true nd l).length c3], .int .i64 (tE ep true nd l)]) ∧ (w'.cell? ⟨B, 0, none⟩ = some (.int .i64 (tEp ep false nd l)) ∧ w'.cell? ⟨B, 1, none⟩ = some (.slice a2 (tLs ep false nd l).length c2) ∧ w'.frozen? ⟨B, 0, none⟩ = false ∧ w'.frozen? ⟨B, 1, none⟩ = false) ∧ Hid (∀ x y, ((w'.setCell ⟨B, 0, none⟩ x).setCell ⟨B, 1, none⟩ y).heap[B]? = some (.cells #[x, y] 24 (0, 0)) ∧ IsRow ((w'.setCell ⟨B, 0, none⟩ x).setCell ⟨B, 1, none⟩ y) 3 (.slice a3 (tLs ep true nd l).length c3) (tLs ep true nd l).length (mCells (tLs ep true nd l)) ∧ NewB wr.heap.size (.slice a3 (tLs ep true nd l).length c3) ∧ Below wr.heap.size wr ((w'.setCell ⟨B, 0, none⟩ x).setCell ⟨B, 1, none⟩ y))) := by
              refine (HUp.out wd.drew HBx.out.drew nd).mono ?_
              rintro e w' ⟨v', rfl, h1, h2, h3⟩
              obtain ⟨a3, c3, rfl⟩ := h1.form
              have hq : w'.heap[B]? = some (.cells #[.int .i64 (tEp ep false nd l), .slice a2 (tLs ep false nd l).length c2] 24 (0, 0)) := (h3.block _ hBBl).trans HHB.out
              refine ⟨a3, c3, rfl, two_V hq, fun x y => ?_⟩
              have t1 := setCell_atV w' 0 hq x
              have t2 := setCell_atV _ 1 t1.1 y
              exact ⟨t2.1, (h1.far h2 hBBl _).far h2 hBBl _, h2.mono hdz, set2_V (HBx.out.drew.trans (h3.mono hdz)) hBB _ _⟩
            clear HUp HAw HS HHB HRB HNB
            go_wp2_with fail
            go_region_with (go_at_call 25; refine HU1.out.mono ?_; rintro e w2 ⟨a3, c3, rfl, ⟨q0, q1, q2, q3⟩, hF⟩)
            all_goals go_wp2_with fail
            all_goals go_meet
            all_goals
              obtain ⟨h1, h2, h3, h4⟩ := hF.out (.int .i64 (tEp ep true nd l)) (.slice a3 (tLs ep true nd l).length c3)
              exact ⟨a3, c3, rfl, h1, h2, h3, h4⟩
        case rest =>
          obtain ⟨a3, c3, rfl, HHB3, HRB3, HNB3, HBx3⟩ := hcut
          obtain ⟨we, hwe⟩ : ∃ we, we = wc := ⟨_, rfl⟩
          subst hwe
          clear HHB HRB HNB HBx HUp p0 p1 s0 s1
          have HBw : Hid (Below w.heap.size w we) := HB.out.trans (HBx3.out.mono hsz)
          by_cases h0 : tE ep up nd l = 0
          case neg =>
            have nb : (tE ep up nd l != 0) = true := by simpa using h0
            have HVS2 : Hid (VS BV ep l we) := HVS.out.below HBx3.out
            generalize tE ep up nd l = TE at *
            clear h0 HS HAw HSc HVc HHB3 HRB3 HNB3 HBx3
            go_wp2
            go_roundw
            case rel => exact ⟨rfl, trivial, trivial, trivial, k + 1, ep, l, ⟨by omega, by omega⟩, by simp, HV, HVS2, HBw⟩
            case measure => simp [intOf]; omega
          have hvw2 := turn_vw h0
          obtain ⟨-, t1, t2, kk, hkk, hnd, hz⟩ := tE_zero h0
          rw [h0]
          rw [t1] at HHB3 hvw2
          rw [t2] at HHB3 HRB3 HNB3 hvw2
          have hlm : (l.map (tM ep up nd)).length = l.length := List.length_map _
          have HHB4 : Hid (we.heap[B]? = some (.cells #[.int .i64 (ep + 1), .slice a3 l.length c3] 24 (0, 0))) := by have := HHB3.out; rw [hlm] at this; exact this
          have HRB4 : Hid (IsRow we 3 (.slice a3 l.length c3) (l.map (tM ep up nd)).length (mCells (l.map (tM ep up nd)))) := by have := HRB3.out; rw [hlm] at this ⊢; exact this
          have HNB4 : Hid (NewB wr.heap.size (.slice a3 l.length c3)) := by have := HNB3.out; rw [hlm] at this; exact this
          have HV2 : Hid (VwP (ep + 1) (l.map (tM ep up nd))) := hvw2
          have HAt : Hid (∀ (j : Nat) (hj : j < l.length), l[j].nd = nd → eOf ep up l[j] = 0) := fun j hj e => by
            obtain rfl := nds_nodup HV.out.2.2.2 j kk hj hkk (e.trans hnd.symm)
            exact hz
          have hep := HV.out.ep
          obtain ⟨z1, z2, z3⟩ := eOf_zero hz
          have hep2 : ep ≠ 1099511627775 := z2
          have we1 : IntKind.i64.wrap (ep + 1) = ep + 1 := wrapI (by omega) (by omega)
          have hgB4 := (heap_at HHB4.out).2.2
          have hBo := HBB.out
          have hdz := HBx3.out.size
          have HFx : Hid (∀ W, Below we.heap.size we W → ((W.cell? ⟨BV, 0, none⟩ = some (.int .i64 ep) ∧ W.cell? ⟨BV, 1, none⟩ = some (.slice av l.length cv)) ∧ (W.cell? ⟨B, 0, none⟩ = some (.int .i64 (ep + 1)) ∧ W.cell? ⟨B, 1, none⟩ = some (.slice a3 l.length c3)) ∧ W.cell? ⟨sb, so + k * 2, none⟩ = some (.int .i64 nd) ∧ W.cell? ⟨sb, so + k * 2 + 1, none⟩ = some (.bool up)) ∧ IsRow W 3 (.slice av l.length cv) l.length (mCells l) ∧ IsRow W 3 (.slice a3 l.length c3) (l.map (tM ep up nd)).length (mCells (l.map (tM ep up nd)))) := fun W h => by
            have hx := HBx3.out.trans (h.mono hdz)
            have h2 := two_V ((h.block _ hgB4).trans HHB4.out)
            exact ⟨⟨(HVc.out W hx).1, ⟨h2.1, h2.2.1⟩, HSc.out W hx⟩, (HVc.out W hx).2, HRB4.out.below h⟩
          have HCk : Hid (Calls Tryd.prog 14 #[.agg #[.int .i64 (ep + 1), .slice a3 l.length c3]] we fun e w' => e = .returned (.bool true) ∧ Below we.heap.size we w') := by
            have := check_any (ep + 1) _ (l.map (tM ep up nd)) we (HFx.out we (Below.refl _ _)).2.2 (by rw [hlm]; omega)
            rw [vB_true HV2.out] at this
            exact this
          have HGn : Hid (∀ W, Below we.heap.size we W → Calls Tryd.prog 30 #[.agg #[.int .i64 ep, .slice av l.length cv], .agg #[.int .i64 (ep + 1), .slice a3 l.length c3]] W fun e w' => LvPost (gnL ep l (ep + 1) (l.map (tM ep up nd))) W e w') := fun W h => gone_any _ _ l _ _ (l.map (tM ep up nd)) W (HFx.out W h).2.1 (HFx.out W h).2.2 (by omega) (by rw [hlm]; omega)
          have hGl : gnL ep l (ep + 1) (l.map (tM ep up nd)) = if up = true then [] else [nd] := gn_step HV.out HV2.out kk hkk hnd hz
          rw [hGl] at HGn
          have HVn : Hid (∀ W x y, Below we.heap.size we W → VS BV x (l.map (tM ep up nd)) ((W.setCell ⟨BV, 0, none⟩ (.int .i64 x)).setCell ⟨BV, 1, none⟩ y) ∨ y ≠ .slice a3 l.length c3) := fun W x y h => by
            by_cases hy : y = .slice a3 l.length c3
            · subst hy
              left
              have hb1 := (h.block _ (Nat.lt_of_lt_of_le hgB hdz)).trans ((HBx3.out.block _ hgB).trans hHx.out)
              have t1 := setCell_atV W 0 hb1 (.int .i64 x)
              have t2 := setCell_atV _ 1 t1.1 (.slice a3 l.length c3)
              have hoff : Off BV (.slice a3 l.length c3) := HNB4.out.off hgB
              refine ⟨a3, c3, ?_, ?_, ?_⟩
              · rw [hlm]; exact t2.1
              · rw [hlm]
                have hr := (HFx.out W h).2.2
                rw [hlm] at hr
                exact (hr.off hoff _).off hoff _
              · rw [hlm]; exact hoff
            · exact .inr hy
          have HFz : Hid (∀ W, Below we.heap.size we W → W.frozen? ⟨BV, 0, none⟩ = false ∧ W.frozen? ⟨BV, 1, none⟩ = false) := fun W h => by
            have hb1 := (heap_at ((h.block _ (Nat.lt_of_lt_of_le hgB hdz)).trans ((HBx3.out.block _ hgB).trans hHx.out))).2.1
            exact ⟨hb1 0, hb1 1⟩
          clear hGl hvw2 t1 t2 hz hnd HHB3 HRB3 HNB3 h0 hHx
          obtain ⟨⟨⟨p0, p1⟩, ⟨q0, q1⟩, s0, s1⟩, -⟩ := HFx.out we (Below.refl _ _)
          go_wp2_with fail
          refine HCk.out.mono ?_
          rintro e w3 ⟨rfl, hb3⟩
          have HB3 : Hid (Below we.heap.size we w3) := hb3
          clear p0 p1 q0 q1 s0 s1 hb3 HCk
          obtain ⟨⟨⟨p0, p1⟩, ⟨q0, q1⟩, s0, s1⟩, -⟩ := HFx.out w3 HB3.out
          obtain ⟨wo, hwo⟩ : ∃ wo, wo = wr := ⟨_, rfl⟩
          subst hwo
          go_wp2_with fail
          go_loopw [4, 10] (fun r q wx => r = .bool false ∧ ∃ j : Nat, j ≤ l.length ∧ q = .int .i64 (j : Int) ∧ Hid (Below we.heap.size we wx)) (fun _ q _ => l.length - (intOf q).toNat)
          case atStart => exact ⟨rfl, 0, Nat.zero_le _, rfl, HB3⟩
          case round =>
            obtain ⟨rfl, j, hj, rfl, HBj⟩ := hrel
            clear p0 p1 q0 q1 s0 s1 HB3
            obtain ⟨⟨⟨p0, p1⟩, ⟨q0, q1⟩, s0, s1⟩, hRa, hRb⟩ := HFx.out wr HBj.out
            by_cases hlj : j < l.length
            · have dj : decide ((j : Int) < l.length) = true := by simp; omega
              have i3 : (0 : Int) ≤ (j : Int) := by omega
              have i4 : (j : Int) < (l.length : Int) := by omega
              have wj : IntKind.i64.wrap ((j : Int) + 1) = (j : Int) + 1 := wrapI (by omega) (by omega)
              obtain ⟨b1, o1, k1, hv1, hlt1, -, -, c0, c1, c2⟩ := mb_at hRa hlj
              obtain ⟨rfl, -, rfl⟩ := Value.slice.inj hv1
              obtain ⟨b2, o2, k2, hv2, hlt2, -, -, e0, e1, e2⟩ := mb_at hRb (i := j) (by rw [hlm]; exact hlj)
              obtain ⟨rfl, -, rfl⟩ := Value.slice.inj hv2
              rw [List.getElem_map] at e0 e1 e2
              have HE0 : Hid (l[j].nd = nd → eOf ep up l[j] = 0) := HAt.out j hlj
              have hlfj := cntB_iff.1 (HV.out.2.2.1 l[j] (List.getElem_mem hlj))
              generalize l[j]'hlj = m at *
              clear hv1 hv2 hRa hRb
              go_upto_region 16 with fail
              go_cut [11, 12] (fun p q wx => ∃ B1 B2, p = .pointer (some ⟨B1, 0, none⟩) ∧ q = .pointer (some ⟨B2, 0, none⟩) ∧ Hid (wx.heap[B1]? = some (.cells #[.int .i64 m.nd, .int .i64 m.lf, .bool m.up] 58 (0, 0))) ∧ Hid (wx.heap[B2]? = some (.cells #[.int .i64 (tM ep up nd m).nd, .int .i64 (tM ep up nd m).lf, .bool (tM ep up nd m).up] 58 (0, 0))) ∧ Hid (Below wr.heap.size wr wx))
              case first =>
                as_aux_lemma =>
                  generalize tM ep up nd m = m' at *
                  obtain ⟨mn, ml, mu⟩ := m
                  obtain ⟨mn', ml', mu'⟩ := m'
                  dsimp only at *
                  have hsj := HBj.out.size
                  have gBV : BV < wr.heap.size := by omega
                  have gB : B < wr.heap.size := by omega
                  have L1 : ∀ (W : World) (ob : Obj) (b o : Nat) (x : Value), b < W.heap.size → W.cell? ⟨b, o, none⟩ = some x → (W.alloc ob).cell? ⟨b, o, none⟩ = some x := fun W ob b o x h1 h2 => ((al_belowV W ob).cell (p := ⟨b, o, none⟩) h1).trans h2
                  have hg1 : ∀ b, b < wr.heap.size → b < (wr.alloc (.cells #[.int .i64 0, .int .i64 0, .bool false] 58)).heap.size := fun b h => by simp; omega
                  have p0a := L1 wr (.cells #[.int .i64 0, .int .i64 0, .bool false] 58) _ _ _ gBV p0
                  have p1a := L1 wr (.cells #[.int .i64 0, .int .i64 0, .bool false] 58) _ _ _ gBV p1
                  have q0a := L1 wr (.cells #[.int .i64 0, .int .i64 0, .bool false] 58) _ _ _ gB q0
                  have q1a := L1 wr (.cells #[.int .i64 0, .int .i64 0, .bool false] 58) _ _ _ gB q1
                  have c0a := L1 wr (.cells #[.int .i64 0, .int .i64 0, .bool false] 58) _ _ _ hlt1 c0
                  have c1a := L1 wr (.cells #[.int .i64 0, .int .i64 0, .bool false] 58) _ _ _ hlt1 c1
                  have c2a := L1 wr (.cells #[.int .i64 0, .int .i64 0, .bool false] 58) _ _ _ hlt1 c2
                  have e0a := L1 wr (.cells #[.int .i64 0, .int .i64 0, .bool false] 58) _ _ _ hlt2 e0
                  have e1a := L1 wr (.cells #[.int .i64 0, .int .i64 0, .bool false] 58) _ _ _ hlt2 e1
                  have e2a := L1 wr (.cells #[.int .i64 0, .int .i64 0, .bool false] 58) _ _ _ hlt2 e2
                  have p0b := L1 _ (.cells #[.int .i64 0, .int .i64 0, .bool false] 58) _ _ _ (hg1 _ gBV) p0a
                  have p1b := L1 _ (.cells #[.int .i64 0, .int .i64 0, .bool false] 58) _ _ _ (hg1 _ gBV) p1a
                  have q0b := L1 _ (.cells #[.int .i64 0, .int .i64 0, .bool false] 58) _ _ _ (hg1 _ gB) q0a
                  have q1b := L1 _ (.cells #[.int .i64 0, .int .i64 0, .bool false] 58) _ _ _ (hg1 _ gB) q1a
                  have c0b := L1 _ (.cells #[.int .i64 0, .int .i64 0, .bool false] 58) _ _ _ (hg1 _ hlt1) c0a
                  have c1b := L1 _ (.cells #[.int .i64 0, .int .i64 0, .bool false] 58) _ _ _ (hg1 _ hlt1) c1a
                  have c2b := L1 _ (.cells #[.int .i64 0, .int .i64 0, .bool false] 58) _ _ _ (hg1 _ hlt1) c2a
                  have e0b := L1 _ (.cells #[.int .i64 0, .int .i64 0, .bool false] 58) _ _ _ (hg1 _ hlt2) e0a
                  have e1b := L1 _ (.cells #[.int .i64 0, .int .i64 0, .bool false] 58) _ _ _ (hg1 _ hlt2) e1a
                  have e2b := L1 _ (.cells #[.int .i64 0, .int .i64 0, .bool false] 58) _ _ _ (hg1 _ hlt2) e2a
                  clear HFx HSc HVc HAt HGn HVn HS HAw HE0 HFz L1 hg1
                  go_region
                  all_goals go_wp2_with fail
                  all_goals go_meet
                  all_goals first
                    | exact ⟨_, _, rfl, rfl, (two_al wr _ _).1, (two_al wr _ _).2.1, (two_al wr _ _).2.2.drew⟩
                    | exact ⟨_, _, rfl, rfl, (two_al wr _ _).2.1, (two_al wr _ _).1, (two_al wr _ _).2.2.drew⟩
              case rest =>
                as_aux_lemma =>
                  obtain ⟨B1, B2, rfl, rfl, H1, H2, HBf⟩ := hcut
                  obtain ⟨wf, hwf⟩ : ∃ wf, wf = wc := ⟨_, rfl⟩
                  subst hwf
                  have HBe : Hid (Below we.heap.size we wf) := HBj.out.trans (HBf.out.mono HBj.out.size)
                  have HG : Hid (∀ W, Below wf.heap.size wf W → (W.cell? ⟨B1, 0, none⟩ = some (.int .i64 m.nd) ∧ W.cell? ⟨B1, 1, none⟩ = some (.int .i64 m.lf) ∧ W.cell? ⟨B1, 2, none⟩ = some (.bool m.up)) ∧ (W.cell? ⟨B2, 0, none⟩ = some (.int .i64 (tM ep up nd m).nd) ∧ W.cell? ⟨B2, 1, none⟩ = some (.int .i64 (tM ep up nd m).lf) ∧ W.cell? ⟨B2, 2, none⟩ = some (.bool (tM ep up nd m).up)) ∧ W.cell? ⟨sb, so + k * 2, none⟩ = some (.int .i64 nd) ∧ W.cell? ⟨sb, so + k * 2 + 1, none⟩ = some (.bool up)) := fun W h => by
                    have g1 := (heap_at ((h.block _ (heap_at H1.out).2.2).trans H1.out)).1
                    have g2 := (heap_at ((h.block _ (heap_at H2.out).2.2).trans H2.out)).1
                    have hx := HFx.out W (HBe.out.trans (h.mono HBe.out.size))
                    exact ⟨⟨g1 0, g1 1, g1 2⟩, ⟨g2 0, g2 1, g2 2⟩, hx.1.2.2⟩
                  have HD : Hid (∀ W, Below wf.heap.size wf W → Below we.heap.size we W) := fun W h => HBe.out.trans (h.mono HBe.out.size)
                  have HC0 : Hid (Below wf.heap.size wf wf.drew) := (Below.refl _ _).drew
                  obtain ⟨C, hC⟩ : ∃ C : World → Prop, C = fun W => Below wf.heap.size wf W := ⟨_, rfl⟩
                  have HG' : Hid (∀ W, C W → (W.cell? ⟨B1, 0, none⟩ = some (.int .i64 m.nd) ∧ W.cell? ⟨B1, 1, none⟩ = some (.int .i64 m.lf) ∧ W.cell? ⟨B1, 2, none⟩ = some (.bool m.up)) ∧ (W.cell? ⟨B2, 0, none⟩ = some (.int .i64 (tM ep up nd m).nd) ∧ W.cell? ⟨B2, 1, none⟩ = some (.int .i64 (tM ep up nd m).lf) ∧ W.cell? ⟨B2, 2, none⟩ = some (.bool (tM ep up nd m).up)) ∧ W.cell? ⟨sb, so + k * 2, none⟩ = some (.int .i64 nd) ∧ W.cell? ⟨sb, so + k * 2 + 1, none⟩ = some (.bool up)) := by subst hC; exact HG
                  have HD' : Hid (∀ W, C W → Below we.heap.size we W) := by subst hC; exact HD
                  have HC1 : Hid (C wf.drew) := by subst hC; exact HC0
                  clear hC HG HD HC0 p0 p1 q0 q1 s0 s1 c0 c1 c2 e0 e1 e2 HFx HSc HVc HAt HGn HVn HS HAw H1 H2 HBf HFz HBe
                  by_cases hmn : m.nd = nd
                  · have hz := HE0.out hmn
                    obtain ⟨z1, -, z3⟩ := eOf_zero hz
                    have htm : tM ep up nd m = ⟨nd, if up = true then m.lf + 1 else m.lf, up⟩ := by unfold tM; rw [if_pos hmn, hz, hmn]; simp
                    rw [htm] at HG'
                    clear htm hz HE0
                    obtain ⟨mn, ml, mu⟩ := m
                    dsimp only at *
                    subst hmn
                    cases up
                    · obtain rfl : mu = true := by cases mu <;> simp_all
                      simp only [Bool.false_eq_true, if_false] at HG'
                      have dl : decide (ml < ml) = false := by simp
                      as_aux_lemma =>
                        go_wp2_with fail
                        refine region_quiet_l (C := C) (by kernel_rfl) (by kernel_rfl) HC1.out ?_
                        try simp only [List.append]
                        repeat (first
                          | go_big_quiet_skip
                          | (go_big_quiet_want
                             apply Exists.intro
                             refine ⟨fun W' hW' => ?_, ?_⟩
                             · obtain ⟨⟨g0, g1, g2⟩, ⟨g3, g4, g5⟩, g6, g7⟩ := HG'.out W' hW'
                               go_simp
                               first
                                 | done
                                 | rfl
                             go_big_quiet_on
                             try simp only [Act.put, List.setIfInBounds_toArray, List.set_cons_zero, List.set_cons_succ]))
                        refine wpQuiet_nil ?_
                        intro w2 hS2
                        have HB2 : Hid (Below we.heap.size we w2) := HD'.out _ hS2
                        clear hS2
                        go_wp2
                        go_roundw
                        case rel => exact ⟨rfl, j + 1, by omega, by simp, HB2⟩
                        case measure => simp [intOf]; omega
                    · obtain rfl : mu = false := by cases mu <;> simp_all
                      simp only [if_true] at HG'
                      have hm1 : ml ≠ 1099511627775 := z3 rfl
                      have wl : IntKind.i64.wrap (ml + 1) = ml + 1 := wrapI (by omega) (by omega)
                      have dl : decide (ml + 1 < ml) = false := by simp; omega
                      as_aux_lemma =>
                        go_wp2_with fail
                        refine region_quiet_l (C := C) (by kernel_rfl) (by kernel_rfl) HC1.out ?_
                        try simp only [List.append]
                        repeat (first
                          | go_big_quiet_skip
                          | (go_big_quiet_want
                             apply Exists.intro
                             refine ⟨fun W' hW' => ?_, ?_⟩
                             · obtain ⟨⟨g0, g1, g2⟩, ⟨g3, g4, g5⟩, g6, g7⟩ := HG'.out W' hW'
                               go_simp
                               first
                                 | done
                                 | rfl
                             go_big_quiet_on
                             try simp only [Act.put, List.setIfInBounds_toArray, List.set_cons_zero, List.set_cons_succ]))
                        refine wpQuiet_nil ?_
                        intro w2 hS2
                        have HB2 : Hid (Below we.heap.size we w2) := HD'.out _ hS2
                        clear hS2
                        go_wp2
                        go_roundw
                        case rel => exact ⟨rfl, j + 1, by omega, by simp, HB2⟩
                        case measure => simp [intOf]; omega
                  · have htm : tM ep up nd m = m := by unfold tM; rw [if_neg hmn]
                    rw [htm] at HG'
                    clear htm HE0
                    obtain ⟨mn, ml, mu⟩ := m
                    dsimp only at *
                    have n1 : (mn == nd) = false := by rw [beq_eq_false_iff_ne]; exact hmn
                    have n2 : (mn != nd) = true := by rw [bne_iff_ne]; exact hmn
                    clear hmn
                    as_aux_lemma =>
                      go_wp2_with fail
                      refine region_quiet_l (C := C) (by kernel_rfl) (by kernel_rfl) HC1.out ?_
                      try simp only [List.append]
                      repeat (first
                        | go_big_quiet_skip
                        | (go_big_quiet_want
                           apply Exists.intro
                           refine ⟨fun W' hW' => ?_, ?_⟩
                           · obtain ⟨⟨g0, g1, g2⟩, ⟨g3, g4, g5⟩, g6, g7⟩ := HG'.out W' hW'
                             go_simp
                             first
                               | done
                               | rfl
                           go_big_quiet_on
                           try simp only [Act.put, List.setIfInBounds_toArray, List.set_cons_zero, List.set_cons_succ]))
                      refine wpQuiet_nil ?_
                      intro w2 hS2
                      have HB2 : Hid (Below we.heap.size we w2) := HD'.out _ hS2
                      clear hS2
                      go_wp2
                      go_roundw
                      case rel => exact ⟨rfl, j + 1, by omega, by simp, HB2⟩
                      case measure => simp [intOf]; omega
            ·
              as_aux_lemma =>
                have dj : decide ((j : Int) < l.length) = false := by simp; omega
                clear HSc HVc HAt HAw HS hRa hRb
                have hsj := HBj.out.size
                go_wp2_with fail
                refine (HGn.out _ HBj.out).mono ?_
                rintro e w4 ⟨v4, rfl, hr4, -, hb4⟩
                obtain ⟨a4, k4, rfl⟩ := hr4.form
                have HB4 : Hid (Below we.heap.size we w4) := HBj.out.trans (hb4.mono HBj.out.size)
                clear p0 p1 q0 q1 s0 s1
                obtain ⟨⟨⟨p0, p1⟩, ⟨q0, q1⟩, s0, s1⟩, -, -⟩ := HFx.out w4 HB4.out
                obtain ⟨f0, f1⟩ := HFz.out w4 HB4.out
                have HVS4 : Hid (∀ n x, VS BV x (l.map (tM ep up nd)) (((w4.drewN n).setCell ⟨BV, 0, none⟩ (.int .i64 x)).setCell ⟨BV, 1, none⟩ (.slice a3 l.length c3))) := fun n x => (HVn.out (w4.drewN n) x _ (drewN_bZ HB4.out n)).resolve_right (fun h => h rfl)
                have HBo : Hid (∀ n x y, Below w.heap.size w (((w4.drewN n).setCell ⟨BV, 0, none⟩ x).setCell ⟨BV, 1, none⟩ y)) := fun n x y => set2_V (drewN_bZ (HBw.out.trans (HB4.out.mono HBw.out.size)) n) hs1 x y
                clear hb4 HFx HFz HVn HGn HBj HB4 HBw HB HBx3 HVS
                cases up
                · simp only [Bool.false_eq_true, if_false] at hr4
                  rcases hr4.2 with ⟨h0, -⟩ | ⟨b4, o4, k4', hv4, hlt4, -, -, hc4⟩
                  · cases h0
                  obtain ⟨rfl, -, rfl⟩ := Value.slice.inj hv4
                  have g0 : w4.cell? ⟨b4, o4, none⟩ = some (.int .i64 nd) := hc4 0 _ rfl
                  clear hr4 hv4 hc4
                  go_wp2_with fail
                  go_quiet (fail)
                  go_wp2_with fail
                  go_roundw
                  case rel => exact ⟨rfl, trivial, trivial, trivial, k + 1, ep + 1, _, ⟨by omega, by omega⟩, by simp, HV2, HVS4.out _ _, HBo.out _ _ _⟩
                  case measure => simp [intOf]; omega
                · simp only [if_true] at hr4
                  clear hr4
                  go_wp2_with fail
                  go_quiet (fail)
                  go_wp2_with fail
                  go_roundw
                  case rel => exact ⟨rfl, trivial, trivial, trivial, k + 1, ep + 1, _, ⟨by omega, by omega⟩, by simp, HV2, HVS4.out _ _, HBo.out _ _ _⟩
                  case measure => simp [intOf]; omega
    ·
      as_aux_lemma =>
        clear HVS HV HS
        by_cases h1 : k < st.length
        · have d1 : decide (k < st.length) = true := by simp; omega
          have d2 : decide ((k : Int) < 40) = false := by simp; omega
          go_wp2_with fail
          refine (HAw.out _ HB.out).mono ?_
          rintro e w2 ⟨rfl, hb2⟩
          have HB2 : Hid (Below w.heap.size w w2) := HB.out.trans (hb2.mono HB.out.size)
          clear hb2 HAw
          go_wp2
          go_ret
          exact ⟨rfl, HB2.out⟩
        · have d1 : decide (k < st.length) = false := by simp; omega
          go_wp2_with fail
          refine (HAw.out _ HB.out).mono ?_
          rintro e w2 ⟨rfl, hb2⟩
          have HB2 : Hid (Below w.heap.size w w2) := HB.out.trans (hb2.mono HB.out.size)
          clear hb2 HAw
          go_wp2
          go_ret
          exact ⟨rfl, HB2.out⟩
end Go.Proofs.YtpepdcbhimjddaaDoor
