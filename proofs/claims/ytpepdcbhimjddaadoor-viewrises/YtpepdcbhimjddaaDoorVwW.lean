/- The law ViewHeirs: its walk. -/
import Derived.Test.YtpepdcbhimjddaaDoorVwV
import Derived.Test.YtpepdcbhimjddaaDoorVwO
import Derived.Test.YtpepdcbhimjddaaDoorVwJ
namespace Go.Proofs.YtpepdcbhimjddaaDoor
open Go.RowKit

theorem up_tM (ep : Int) (node : Int) : ∀ l : List Mb, upN (l.map (tM ep false node)) = woL (upN l) node
  | [] => rfl
  | m :: l => by
    have ih := up_tM ep node l
    unfold upN woL at *
    rw [List.map_cons]
    by_cases e : m.nd = node
    · have h1 : (tM ep false node m).up = false := by unfold tM; rw [if_pos e]
      rw [List.filter_cons_of_neg (by simp [h1]), ih]
      cases hu : m.up
      · rw [List.filter_cons_of_neg (by simp [hu])]
      · rw [List.filter_cons_of_pos hu, List.map_cons, List.filter_cons_of_neg (by simpa using e)]
    · have h1 : tM ep false node m = m := by unfold tM; exact if_neg e
      rw [h1]
      cases hu : m.up
      · rw [List.filter_cons_of_neg (by simp [hu]), List.filter_cons_of_neg (by simp [hu])]
        exact ih
      · rw [List.filter_cons_of_pos hu, List.filter_cons_of_pos hu, List.map_cons, List.map_cons, List.filter_cons_of_pos (by simpa using e), ih]
theorem tM_nds (ep : Int) (up : Bool) (node : Int) (l : List Mb) : nds (l.map (tM ep up node)) = nds l := by
  rw [nds, List.map_map]
  apply List.map_congr_left
  intro m _
  show (tM ep up node m).nd = m.nd
  unfold tM
  split <;> rfl
/-- Where a turn is well there is such a member, and the view goes on. -/
theorem tE_zero {ep : Int} {up : Bool} {node : Int} {l : List Mb} (h0 : tE ep up node l = 0) : VwP ep l ∧ tEp ep up node l = ep + 1 ∧ tLs ep up node l = l.map (tM ep up node) ∧ ∃ (k : Nat) (hk : k < l.length), l[k].nd = node ∧ eOf ep up l[k] = 0 := by
  by_cases hv : VwP ep l
  · refine ⟨hv, by unfold tEp; rw [if_pos h0], by unfold tLs; rw [if_pos h0], ?_⟩
    by_cases hx : ∃ (k : Nat) (hk : k < l.length), l[k].nd = node
    · obtain ⟨k, hk, e⟩ := hx
      exact ⟨k, hk, e, by rw [← tE_at hv k hk e]; exact h0⟩
    · have : tE ep up node l = 4 := tE_none hv fun x hm e => by
        obtain ⟨k, hk, rfl⟩ := List.mem_iff_getElem.1 hm
        exact hx ⟨k, hk, e⟩
      rw [this] at h0
      cases h0
  · rw [tE_no hv] at h0; cases h0
theorem eOf_zero {ep : Int} {up : Bool} {m : Mb} (h : eOf ep up m = 0) : m.up ≠ up ∧ ep ≠ 1099511627775 ∧ (up = true → m.lf ≠ 1099511627775) := by
  unfold eOf at h
  split at h
  · cases h
  · split at h
    · cases h
    · split at h
      · cases h
      · rename_i h1 h2 h3
        exact ⟨h2, fun e => h3 (.inl e), fun hu e => h3 (.inr ⟨hu, e⟩)⟩
/-- What a turn leaves may be. -/
theorem turn_vw {ep : Int} {up : Bool} {node : Int} {l : List Mb} (h0 : tE ep up node l = 0) : VwP (tEp ep up node l) (tLs ep up node l) := by
  obtain ⟨hv, h1, h2, k, hk, e, hz⟩ := tE_zero h0
  obtain ⟨z1, z2, z3⟩ := eOf_zero hz
  rw [h1, h2]
  have hep := hv.ep
  refine ⟨cntB_iff.2 ⟨by omega, by omega⟩, by simp [hv.2.1], fun m hm => ?_, by rw [tM_nds]; exact hv.2.2.2⟩
  obtain ⟨x, hx, rfl⟩ := List.mem_map.1 hm
  have hxl := cntB_iff.1 (hv.2.2.1 x hx)
  unfold tM
  split
  · rename_i hxe
    obtain ⟨j, hj, rfl⟩ := List.mem_iff_getElem.1 hx
    obtain rfl := nds_nodup hv.2.2.2 j k hj hk (hxe.trans e.symm)
    refine cntB_iff.2 ?_
    dsimp only
    split
    · rename_i hh
      have := z3 hh.1
      omega
    · exact hxl
  · exact hv.2.2.1 x hx
theorem down_lv {ep : Int} {node : Int} {l : List Mb} (h0 : tE ep false node l = 0) : lvL (tEp ep false node l) (tLs ep false node l) = woL (lvL ep l) node := by
  have hv2 := turn_vw h0
  obtain ⟨hv, h1, h2, -⟩ := tE_zero h0
  unfold lvL
  rw [if_pos (vB_true hv2), if_pos (vB_true hv), h2, up_tM]
theorem tLs_lenH (ep : Int) (up : Bool) (node : Int) (l : List Mb) : (tLs ep up node l).length ≤ l.length := by
  unfold tLs
  split
  · simp
  · simp
theorem wo_take {H : List Int} {n : Int} (h : n ∉ H.take 3) : (woL H n).take 3 = H.take 3 := by
  have e : woL H n = H.take 3 ++ woL (H.drop 3) n := by
    conv => lhs; rw [← List.take_append_drop 3 H]
    unfold woL
    rw [List.filter_append, List.filter_eq_self.2 (fun x hx => by simp; exact fun e => h (e ▸ hx))]
  rw [e]
  by_cases hl : H.length ≤ 3
  · rw [List.drop_eq_nil_of_le hl, show woL [] n = [] from rfl, List.append_nil, List.take_take]
    rfl
  · rw [List.take_append_of_le_length (by simp; omega), List.take_take]
    simp
theorem isV_not {ep : Int} {l : List Mb} (h : isV ep l = false) (s : ByteArray) : lvL ep l = [] ∧ hrV ep l s = [] := by
  have h1 : lvL ep l = [] := by
    unfold isV at h
    cases hl : lvL ep l with
    | nil => rfl
    | cons a t => rw [hl] at h; simp at h
  refine ⟨h1, ?_⟩
  apply List.eq_nil_of_length_eq_zero
  unfold hrV
  rw [List.length_take, hI_len (lv_nodes ep l), h1]
  simp
theorem isV_yes {ep : Int} {l : List Mb} (h : isV ep l = true) (s : ByteArray) : 0 < (hrV ep l s).length ∧ (hrV ep l s)[0]? = some (owV ep l s) ∧ owV ep l s ∈ lvL ep l ∧ (hrV ep l s).length ≤ 3 := by
  have h1 : 0 < (lvL ep l).length := by
    unfold isV at h
    cases hl : lvL ep l with
    | nil => rw [hl] at h; simp at h
    | cons a t => simp
  have h2 : 0 < (hI (keyL s.data.toList) (lvL ep l)).length := by rw [hI_len (lv_nodes ep l)]; exact h1
  have h3 := hI_head (lvL ep l) (keyL s.data.toList) h2
  refine ⟨by unfold hrV; rw [List.length_take]; omega, by unfold hrV; rw [List.getElem?_take, if_pos (by omega), h3]; rfl, ?_, by unfold hrV; rw [List.length_take]; omega⟩
  have hm : owV ep l s ∈ hI (keyL s.data.toList) (lvL ep l) := List.mem_of_getElem? h3
  unfold hI at hm
  rw [← rgL_mem (lv_nodes ep l)]
  obtain ⟨n, hn, e⟩ := List.mem_map.1 hm
  exact List.mem_map.2 ⟨n, (hsL_perm _ _ (rgL_sorted _)).subset hn, e⟩
theorem heirs_stay {ep : Int} {node : Int} {l : List Mb} (h0 : tE ep false node l = 0) (s : ByteArray) (hn : node ∉ hrV ep l s) : hrV (tEp ep false node l) (tLs ep false node l) s = hrV ep l s := by
  unfold hrV at *
  rw [down_lv h0, hI_wo (lv_nodes ep l)]
  exact wo_take hn
theorem heirs_next {ep : Int} {node : Int} {l : List Mb} (h0 : tE ep false node l = 0) (s : ByteArray) (hi : isV ep l = true) (hn : node = owV ep l s) : (isV (tEp ep false node l) (tLs ep false node l) = false ∧ (hrV ep l s).length = 1) ∨ (isV (tEp ep false node l) (tLs ep false node l) = true ∧ 1 < (hrV ep l s).length ∧ (hrV ep l s)[1]? = some (owV (tEp ep false node l) (tLs ep false node l) s)) := by
  obtain ⟨-, y2, y3, -⟩ := isV_yes hi s
  have hnd := nodes_nodup (lv_nodes ep l)
  have hwl := wo_len hnd (n := node) (by rw [hn]; exact y3)
  have hlen := hI_len (lv_nodes ep l) (keyL s.data.toList)
  have hlv := down_lv h0
  have hhl : (hrV ep l s).length = min 3 (lvL ep l).length := by unfold hrV; rw [List.length_take, hlen]
  by_cases h1 : (lvL ep l).length = 1
  · refine .inl ⟨?_, by omega⟩
    unfold isV
    rw [hlv, List.eq_nil_of_length_eq_zero (show (woL (lvL ep l) node).length = 0 by omega)]
    rfl
  · have h2 : 1 < (lvL ep l).length := by omega
    refine .inr ⟨?_, by omega, ?_⟩
    · unfold isV
      rw [hlv]
      cases hw : woL (lvL ep l) node with
      | nil => rw [hw] at hwl; simp at hwl; omega
      | cons a t => rfl
    · have hb : ∃ b, (hI (keyL s.data.toList) (lvL ep l))[1]? = some b := ⟨_, List.getElem?_eq_getElem (by omega)⟩
      obtain ⟨b, hb⟩ := hb
      have ha : (hI (keyL s.data.toList) (lvL ep l))[0]? = some (owV ep l s) := hI_head _ _ (by omega)
      have hw := wo_head (hI_nodup (lvL ep l) (keyL s.data.toList)) node _ _ ha hb
      rw [if_pos hn.symm, ← hI_wo (lv_nodes ep l), ← hlv] at hw
      have hw2 := hI_head (lvL (tEp ep false node l) (tLs ep false node l)) (keyL s.data.toList) (by rw [hI_len (lv_nodes _ _), hlv]; omega)
      rw [hw] at hw2
      unfold hrV
      rw [List.getElem?_take, if_pos (by omega), hb]
      exact hw2
set_option maxRecDepth 100000 in
set_option maxHeartbeats 4000000 in
theorem viewHeirs_walk (ep : Int) (v : Value) (l : List Mb) (s : ByteArray) (node : Int) (w : World) (hr : IsRow w 3 v l.length (mCells l)) (hl : l.length ≤ 140737488355328) (hs : s.size ≤ 140737488355328) (hTU : Q.Tab w ∧ UT w) :
    Calls Tryd.prog 7 #[vwV ep v, .string s, .int .i64 node] w fun e w' => e = .returned (.bool true) ∧ Below w.heap.size w w' := by
  obtain ⟨hT, hU⟩ := hTU
  obtain ⟨a0, cap0, rfl⟩ := hr.form
  have HR : Hid (∀ w', Below w.heap.size w w' → IsRow w' 3 (.slice a0 l.length cap0) l.length (mCells l)) := fun w' h => hr.below h
  have HT : Hid (∀ w', Below w.heap.size w w' → Q.Tab w' ∧ UT w') := fun w' h => ⟨hT.below h hT.size, Utf8Tabs_below hU h⟩
  have HAw : Hid (∀ W, Below w.heap.size w W → Calls Tryd.prog 9 #[] W fun e w' => e = .returned (.bool true) ∧ Below W.heap.size W w') := fun W h => awake14_any W (HT.out W h).1
  have HB0 : Hid (Below w.heap.size w (w.alloc (.cells #[.int .i64 ep, .slice a0 l.length cap0] 24))) := al_belowV w _
  have HFw : Hid (∀ W, Calls Tryd.prog 8 #[.agg #[.int .i64 ep, .slice a0 l.length cap0]] W fun e w' => e = .returned (.bool (decide (l.length ≤ 40))) ∧ Below W.heap.size W w') := fun W => few_anyV ep a0 l.length cap0 W hl
  clear hr hT hU
  go_enter Tryd.func7, Tryd.ntmps7
  go_wp2_with fail
  refine (HFw.out _).mono ?_
  rintro e w1 ⟨rfl, hb1⟩
  have HB1 : Hid (Below w.heap.size w w1) := HB0.out.trans (hb1.mono HB0.out.size)
  have HH1 : Hid (w1.heap[w.heap.size]? = some (.cells #[.int .i64 ep, .slice a0 l.length cap0] 24 (0, 0))) := (hb1.block _ (by simp)).trans (alloc_top w _)
  have hs1 := HB1.out.size
  have hg1 := (heap_at HH1.out).2.2
  have HP : Hid (∀ W, Below w1.heap.size w1 W → W.cell? ⟨w.heap.size, 0, none⟩ = some (.int .i64 ep) ∧ W.cell? ⟨w.heap.size, 1, none⟩ = some (.slice a0 l.length cap0)) := fun W h => by
    have := two_V ((h.block _ hg1).trans HH1.out)
    exact ⟨this.1, this.2.1⟩
  obtain ⟨p0, p1⟩ := HP.out _ (Below.refl _ _)
  clear hb1 HB0 HFw
  by_cases h40 : l.length ≤ 40
  case neg =>
    rw [decide_eq_false h40]
    go_wp2_with fail
    refine (HAw.out _ HB1.out).mono ?_
    rintro e w2 ⟨rfl, hb2⟩
    have HB2 : Hid (Below w.heap.size w w2) := HB1.out.trans (hb2.mono hs1)
    clear hb2
    go_wp2
    go_ret
    exact ⟨rfl, HB2.out⟩
  rw [decide_eq_true h40]
  by_cases h200 : 200 < s.size
  · have d200 : decide ((200 : Int) < (s.size : Int)) = true := decide_eq_true (by omega)
    have d200' : decide (200 < s.size) = true := decide_eq_true h200
    go_wp2_with fail
    refine (HAw.out _ HB1.out).mono ?_
    rintro e w2 ⟨rfl, hb2⟩
    have HB2 : Hid (Below w.heap.size w w2) := HB1.out.trans (hb2.mono hs1)
    clear hb2
    go_wp2
    go_ret
    exact ⟨rfl, HB2.out⟩
  have d200 : decide ((200 : Int) < (s.size : Int)) = false := decide_eq_false (by omega)
  have d200' : decide (200 < s.size) = false := decide_eq_false h200
  have HCk : Hid (Calls Tryd.prog 14 #[.agg #[.int .i64 ep, .slice a0 l.length cap0]] w1 fun e w' => e = .returned (.bool (vB ep l)) ∧ Below w1.heap.size w1 w') := check_any ep _ l w1 (HR.out w1 HB1.out) hl
  go_wp2_with fail
  refine HCk.out.mono ?_
  rintro e w2 ⟨rfl, hb2⟩
  have HB2 : Hid (Below w1.heap.size w1 w2) := hb2
  have HBw2 : Hid (Below w.heap.size w w2) := HB1.out.trans (hb2.mono hs1)
  clear p0 p1 hb2 HCk
  obtain ⟨p0, p1⟩ := HP.out _ HB2.out
  cases hvb : vB ep l
  · go_wp2_with fail
    refine (HAw.out _ HBw2.out).mono ?_
    rintro e w3 ⟨rfl, hb3⟩
    have HB3 : Hid (Below w.heap.size w w3) := HBw2.out.trans (hb3.mono HBw2.out.size)
    clear hb3
    go_wp2
    go_ret
    exact ⟨rfl, HB3.out⟩
  have HHr : Hid (Calls Tryd.prog 31 #[.agg #[.int .i64 ep, .slice a0 l.length cap0], .string s] w2 fun e w' => ∃ ra rc, e = .returned (.slice ra (hrV ep l s).length rc) ∧ IsRow w' 1 (.slice ra (hrV ep l s).length rc) (hrV ep l s).length (iCells (hrV ep l s)) ∧ Below w2.heap.size w2 w') := heirsV_any ep _ l s w2 (HR.out _ HBw2.out) (by omega) (by omega) (HT.out _ HBw2.out).2
  have HOw : Hid (∀ W, Below w.heap.size w W → Calls Tryd.prog 32 #[.agg #[.int .i64 ep, .slice a0 l.length cap0], .string s] W fun e w' => e = .returned (.tuple #[.int .i64 (owV ep l s), .bool (isV ep l)]) ∧ Below W.heap.size W w') := fun W h => ownerV_any ep _ l s W (HR.out W h) (by omega) (by omega) (HT.out W h).2
  clear hvb
  go_wp2_with fail
  refine HHr.out.mono ?_
  rintro e w3 ⟨ra, rc, rfl, hr3, hb3⟩
  have HR3 : Hid (∀ W, Below w3.heap.size w3 W → IsRow W 1 (.slice ra (hrV ep l s).length rc) (hrV ep l s).length (iCells (hrV ep l s))) := fun W h => hr3.below h
  have HB3 : Hid (Below w1.heap.size w1 w3) := HB2.out.trans (hb3.mono HB2.out.size)
  have HBw3 : Hid (Below w.heap.size w w3) := HBw2.out.trans (hb3.mono HBw2.out.size)
  clear p0 p1 hb3 hr3 HHr HB2 HBw2
  obtain ⟨p0, p1⟩ := HP.out _ HB3.out
  go_wp2_with fail
  refine (HOw.out _ HBw3.out).mono ?_
  rintro e w4 ⟨rfl, hb4⟩
  have HB4a : Hid (Below w3.heap.size w3 w4) := hb4
  have HB4 : Hid (Below w1.heap.size w1 w4) := HB3.out.trans (hb4.mono HB3.out.size)
  have HBw4 : Hid (Below w.heap.size w w4) := HBw3.out.trans (hb4.mono HBw3.out.size)
  clear p0 p1 hb4 HOw HB3 HBw3
  obtain ⟨p0, p1⟩ := HP.out _ HB4.out
  cases hiv : isV ep l
  · obtain ⟨e1, e2⟩ := isV_not hiv s
    have HLv : Hid (∀ W, Below w.heap.size w W → Calls Tryd.prog 18 #[.agg #[.int .i64 ep, .slice a0 l.length cap0]] W fun e w' => ∃ la lc, e = .returned (.slice la 0 lc) ∧ Below W.heap.size W w') := fun W h => by
      have := live_any ep _ l W (HR.out W h) (by omega)
      rw [e1] at this
      refine this.mono ?_
      rintro e w' ⟨v', rfl, h1, -, h2⟩
      obtain ⟨la, lc, rfl⟩ := h1.form
      exact ⟨la, lc, rfl, h2⟩
    rw [e2]
    clear e1 e2 hiv HR HR3
    go_wp2_with fail
    refine (HAw.out _ HBw4.out).mono ?_
    rintro e w5 ⟨rfl, hb5⟩
    have HBw5 : Hid (Below w.heap.size w w5) := HBw4.out.trans (hb5.mono HBw4.out.size)
    have HB5 : Hid (Below w1.heap.size w1 w5) := HB4.out.trans (hb5.mono HB4.out.size)
    clear p0 p1 hb5
    obtain ⟨p0, p1⟩ := HP.out _ HB5.out
    go_wp2_with fail
    refine (HLv.out _ HBw5.out).mono ?_
    rintro e w6 ⟨la, lc, rfl, hb6⟩
    have HBw6 : Hid (Below w.heap.size w w6) := HBw5.out.trans (hb6.mono HBw5.out.size)
    clear hb6
    go_wp2
    go_ret
    exact ⟨rfl, HBw6.out⟩
  obtain ⟨y1, y2, y3, y4⟩ := isV_yes hiv s
  have HIv : Hid (isV ep l = true) := hiv
  have HIu : Hid (Calls Tryd.prog 21 #[.agg #[.int .i64 ep, .slice a0 l.length cap0], .int .i64 (owV ep l s)] w4 fun e w' => e = .returned (.bool true) ∧ Below w4.heap.size w4 w') := by
    have := isUp_any ep _ l (owV ep l s) w4 (HR.out _ HBw4.out) (by omega)
    rw [decide_eq_true y3] at this
    exact this
  have HDn : Hid (∀ W, Below w.heap.size w W → Calls Tryd.prog 23 #[.agg #[.int .i64 ep, .slice a0 l.length cap0], .int .i64 node] W fun e w' => VwPost (tEp ep false node l) (tLs ep false node l) (tE ep false node l) W e w') := fun W h => down_any ep _ l node W (HR.out W h) hl
  obtain ⟨b, off, hra, -, hlt, hcap, hc⟩ := iCells_at (HR3.out _ HB4a.out) y1
  subst hra
  have cc0 := hc 0 y1
  have ey : (hrV ep l s)[0]'y1 = owV ep l s := by
    have := List.getElem?_eq_getElem y1
    rw [this] at y2
    exact Option.some.inj y2
  rw [ey] at cc0
  simp only [Nat.add_zero] at cc0
  have n0 : (((hrV ep l s).length : Int) == 0) = false := by rw [beq_eq_false_iff_ne]; omega
  have i1 : (0 : Int) < ((hrV ep l s).length : Int) := by omega
  have d3 : decide ((3 : Int) < ((hrV ep l s).length : Int)) = false := decide_eq_false (by omega)
  have d3' : decide (3 < (hrV ep l s).length) = false := decide_eq_false (by omega)
  have HS : Hid (∀ W, Below w3.heap.size w3 W → ∀ (k : Nat) (hk : k < (hrV ep l s).length), W.cell? ⟨b, off + k, none⟩ = some (.int .i64 (hrV ep l s)[k])) := fun W h k hk => by
    obtain ⟨b', off', e, -, -, -, hc'⟩ := iCells_at (HR3.out _ h) (by omega)
    simp only [Option.some.injEq, Addr.mk.injEq, and_true] at e
    obtain ⟨rfl, rfl⟩ := e
    exact hc' k hk
  have HStay : Hid (tE ep false node l = 0 → node ∉ hrV ep l s → hrV (tEp ep false node l) (tLs ep false node l) s = hrV ep l s) := fun h0 hn => heirs_stay h0 s hn
  have HNext : Hid (tE ep false node l = 0 → node = owV ep l s → (isV (tEp ep false node l) (tLs ep false node l) = false ∧ (hrV ep l s).length = 1) ∨ (isV (tEp ep false node l) (tLs ep false node l) = true ∧ 1 < (hrV ep l s).length ∧ (hrV ep l s)[1]? = some (owV (tEp ep false node l) (tLs ep false node l) s))) := fun h0 hn => heirs_next h0 s HIv.out hn
  have hll := tLs_lenH ep false node l
  clear hiv HR hc ey y2 y3 HIv
  generalize hRS : hrV ep l s = RS at *
  generalize hOW : owV ep l s = OW at *
  clear hRS hOW
  go_wp2_with fail
  refine HIu.out.mono ?_
  rintro e w5 ⟨rfl, hb5⟩
  have HB5a : Hid (Below w3.heap.size w3 w5) := HB4a.out.trans (hb5.mono HB4a.out.size)
  have HBw5 : Hid (Below w.heap.size w w5) := HBw4.out.trans (hb5.mono HBw4.out.size)
  have HB5 : Hid (Below w1.heap.size w1 w5) := HB4.out.trans (hb5.mono HB4.out.size)
  clear p0 p1 hb5 cc0 HIu HB4 HB4a HBw4
  obtain ⟨p0, p1⟩ := HP.out _ HB5.out
  go_wp2_with fail
  refine (HDn.out _ HBw5.out).mono ?_
  rintro e w6 ⟨v6, rfl, hr6, -, hb6⟩
  obtain ⟨a6, c6, rfl⟩ := hr6.form
  have HB6a : Hid (Below w3.heap.size w3 (w6.alloc (.cells #[.int .i64 (tEp ep false node l), .slice a6 (tLs ep false node l).length c6] 24))) := (HB5a.out.trans (hb6.mono HB5a.out.size)).alloc (by have := HB5a.out.size; have := hb6.size; omega) _
  have HBw6 : Hid (Below w.heap.size w (w6.alloc (.cells #[.int .i64 (tEp ep false node l), .slice a6 (tLs ep false node l).length c6] 24))) := (HBw5.out.trans (hb6.mono HBw5.out.size)).alloc (by have := HBw5.out.size; have := hb6.size; omega) _
  have HP6 : Hid (∀ W, Below (w6.alloc (.cells #[.int .i64 (tEp ep false node l), .slice a6 (tLs ep false node l).length c6] 24)).heap.size (w6.alloc (.cells #[.int .i64 (tEp ep false node l), .slice a6 (tLs ep false node l).length c6] 24)) W → (W.cell? ⟨w6.heap.size, 0, none⟩ = some (.int .i64 (tEp ep false node l)) ∧ W.cell? ⟨w6.heap.size, 1, none⟩ = some (.slice a6 (tLs ep false node l).length c6)) ∧ IsRow W 3 (.slice a6 (tLs ep false node l).length c6) (tLs ep false node l).length (mCells (tLs ep false node l))) := fun W h => by
    have := two_V ((h.block _ (by simp)).trans (alloc_top w6 (.cells #[.int .i64 (tEp ep false node l), .slice a6 (tLs ep false node l).length c6] 24)))
    exact ⟨⟨this.1, this.2.1⟩, (hr6.below (al_belowV w6 _)).below h⟩
  clear p0 p1 hr6 hb6 HDn HB5 HBw5 HB5a HP
  by_cases h0 : tE ep false node l = 0
  case neg =>
    have nb : (tE ep false node l != 0) = true := by simpa using h0
    generalize tE ep false node l = TE at *
    clear h0 HStay HNext
    go_wp2_with fail
    refine (HAw.out _ HBw6.out).mono ?_
    rintro e w7 ⟨rfl, hb7⟩
    have HB7 : Hid (Below w.heap.size w w7) := HBw6.out.trans (hb7.mono HBw6.out.size)
    clear hb7
    go_wp2
    go_ret
    exact ⟨rfl, HB7.out⟩
  have HStay : Hid (node ∉ RS → hrV (tEp ep false node l) (tLs ep false node l) s = RS) := HStay.out h0
  have HNext : Hid (node = OW → (isV (tEp ep false node l) (tLs ep false node l) = false ∧ RS.length = 1) ∨ (isV (tEp ep false node l) (tLs ep false node l) = true ∧ 1 < RS.length ∧ RS[1]? = some (owV (tEp ep false node l) (tLs ep false node l) s))) := HNext.out h0
  have HH2 : Hid (∀ W, Below w.heap.size w W → IsRow W 3 (.slice a6 (tLs ep false node l).length c6) (tLs ep false node l).length (mCells (tLs ep false node l)) → Calls Tryd.prog 31 #[.agg #[.int .i64 (tEp ep false node l), .slice a6 (tLs ep false node l).length c6], .string s] W fun e w' => ∃ ra rc, e = .returned (.slice ra (hrV (tEp ep false node l) (tLs ep false node l) s).length rc) ∧ IsRow w' 1 (.slice ra (hrV (tEp ep false node l) (tLs ep false node l) s).length rc) (hrV (tEp ep false node l) (tLs ep false node l) s).length (iCells (hrV (tEp ep false node l) (tLs ep false node l) s)) ∧ Below W.heap.size W w') := fun W h hr => heirsV_any _ _ _ s W hr (by omega) (by omega) (HT.out W h).2
  have HO2 : Hid (∀ W, Below w.heap.size w W → IsRow W 3 (.slice a6 (tLs ep false node l).length c6) (tLs ep false node l).length (mCells (tLs ep false node l)) → Calls Tryd.prog 32 #[.agg #[.int .i64 (tEp ep false node l), .slice a6 (tLs ep false node l).length c6], .string s] W fun e w' => e = .returned (.tuple #[.int .i64 (owV (tEp ep false node l) (tLs ep false node l) s), .bool (isV (tEp ep false node l) (tLs ep false node l))]) ∧ Below W.heap.size W w') := fun W h hr => ownerV_any _ _ _ s W hr (by omega) (by omega) (HT.out W h).2
  rw [h0]
  clear h0 HT hll
  generalize owV (tEp ep false node l) (tLs ep false node l) s = OW2 at *
  generalize isV (tEp ep false node l) (tLs ep false node l) = IS2 at *
  generalize hrV (tEp ep false node l) (tLs ep false node l) s = RS2 at *
  generalize tEp ep false node l = EP2 at *
  generalize tLs ep false node l = L2 at *
  obtain ⟨⟨p0, p1⟩, hr6⟩ := HP6.out _ (Below.refl _ _)
  have HX : Hid (Calls Tryd.prog 31 #[.agg #[.int .i64 EP2, .slice a6 L2.length c6], .string s] (w6.alloc (.cells #[.int .i64 EP2, .slice a6 L2.length c6] 24)) fun e w' => ∃ ra rc, e = .returned (.slice ra RS2.length rc) ∧ IsRow w' 1 (.slice ra RS2.length rc) RS2.length (iCells RS2) ∧ Below (w6.alloc (.cells #[.int .i64 EP2, .slice a6 L2.length c6] 24)).heap.size (w6.alloc (.cells #[.int .i64 EP2, .slice a6 L2.length c6] 24)) w') := HH2.out _ HBw6.out hr6
  clear hr6 HH2
  go_wp2_with fail
  refine HX.out.mono ?_
  rintro e w7 ⟨rb, rd, rfl, hr7, hb7⟩
  have HB7a : Hid (Below w3.heap.size w3 w7) := HB6a.out.trans (hb7.mono HB6a.out.size)
  have HBw7 : Hid (Below w.heap.size w w7) := HBw6.out.trans (hb7.mono HBw6.out.size)
  have HR7 : Hid (∀ W, Below w7.heap.size w7 W → IsRow W 1 (.slice rb RS2.length rd) RS2.length (iCells RS2)) := fun W h => hr7.below h
  have HP7 : Hid (∀ W, Below w7.heap.size w7 W → (W.cell? ⟨w6.heap.size, 0, none⟩ = some (.int .i64 EP2) ∧ W.cell? ⟨w6.heap.size, 1, none⟩ = some (.slice a6 L2.length c6)) ∧ IsRow W 3 (.slice a6 L2.length c6) L2.length (mCells L2)) := fun W h => HP6.out W (hb7.trans (h.mono hb7.size))
  have HHs : Hid (Calls Tryd.prog 22 #[.slice (some ⟨b, off, none⟩) RS.length rc, .int .i64 node] w7 fun e w' => e = .returned (.bool (decide (node ∈ RS))) ∧ w' = w7) := has_any _ RS node w7 (HR3.out _ HB7a.out) (by omega)
  clear p0 p1 hr7 hb7 HX HP6 HB6a HBw6
  go_wp2_with fail
  refine HHs.out.mono ?_
  rintro e w8 ⟨rfl, hw8⟩
  subst hw8
  by_cases hin : node ∈ RS
  case neg =>
    obtain rfl := HStay.out hin
    rw [decide_eq_false hin]
    clear hin HStay HNext HHs HO2 HS
    have HSm : Hid (∀ W, Below w8.heap.size w8 W → Calls Tryd.prog 17 #[.slice (some ⟨b, off, none⟩) RS2.length rc, .slice rb RS2.length rd] W fun e w' => e = .returned (.bool true) ∧ Below W.heap.size W w') := fun W h => same_eq _ _ RS2 W (HR3.out _ (HB7a.out.trans (h.mono HB7a.out.size))) (HR7.out _ h) (by omega)
    go_wp2_with fail
    refine (HAw.out _ HBw7.out).mono ?_
    rintro e w9 ⟨rfl, hb9⟩
    have HBw9 : Hid (Below w.heap.size w w9) := HBw7.out.trans (hb9.mono HBw7.out.size)
    have HX : Hid (Calls Tryd.prog 17 #[.slice (some ⟨b, off, none⟩) RS2.length rc, .slice rb RS2.length rd] w9 fun e w' => e = .returned (.bool true) ∧ Below w9.heap.size w9 w') := HSm.out _ hb9
    clear hb9 HSm
    go_wp2_with fail
    refine HX.out.mono ?_
    rintro e w10 ⟨rfl, hb10⟩
    have HBwa : Hid (Below w.heap.size w w10) := HBw9.out.trans (hb10.mono HBw9.out.size)
    clear hb10 HX
    go_wp2
    go_ret
    exact ⟨rfl, HBwa.out⟩
  rw [decide_eq_true hin]
  obtain ⟨⟨p0, p1⟩, hr8⟩ := HP7.out _ (Below.refl _ _)
  have HX : Hid (Calls Tryd.prog 32 #[.agg #[.int .i64 EP2, .slice a6 L2.length c6], .string s] w8 fun e w' => e = .returned (.tuple #[.int .i64 OW2, .bool IS2]) ∧ Below w8.heap.size w8 w') := HO2.out _ HBw7.out hr8
  clear hr8 HO2 HHs HStay hin
  go_wp2_with fail
  refine HX.out.mono ?_
  rintro e w9 ⟨rfl, hb9⟩
  have HBw9 : Hid (Below w.heap.size w w9) := HBw7.out.trans (hb9.mono HBw7.out.size)
  have HB9a : Hid (Below w3.heap.size w3 w9) := HB7a.out.trans (hb9.mono HB7a.out.size)
  clear p0 p1 hb9 HX
  go_wp2_with fail
  refine (HAw.out _ HBw9.out).mono ?_
  rintro e w10 ⟨rfl, hb10⟩
  have HBwa : Hid (Below w.heap.size w w10) := HBw9.out.trans (hb10.mono HBw9.out.size)
  have HBaa : Hid (Below w3.heap.size w3 w10) := HB9a.out.trans (hb10.mono HB9a.out.size)
  clear hb10
  by_cases ho : node = OW
  case neg =>
    have nb : (node != OW) = true := by simpa using ho
    clear ho HNext HS
    go_wp2
    go_ret
    exact ⟨rfl, HBwa.out⟩
  have hnx := HNext.out ho
  subst ho
  clear HNext
  rcases hnx with ⟨rfl, hl1⟩ | ⟨rfl, hl1, he1⟩
  · have n1 : ((RS.length : Int) == 1) = true := by simp [hl1]
    clear hl1 HS
    generalize RS.length = RN at *
    go_wp2
    go_ret
    exact ⟨rfl, HBwa.out⟩
  · have n1 : ((RS.length : Int) == 1) = false := by rw [beq_eq_false_iff_ne]; omega
    have d1 : decide ((1 : Int) < (RS.length : Int)) = true := decide_eq_true (by omega)
    have d1' : decide (1 < RS.length) = true := decide_eq_true hl1
    have i2 : (1 : Int) < (RS.length : Int) := by omega
    have c1 := HS.out _ HBaa.out 1 hl1
    have e1 : RS[1]'hl1 = OW2 := by
      rw [List.getElem?_eq_getElem hl1] at he1
      exact Option.some.inj he1
    rw [e1] at c1
    clear he1 e1 hl1 HS
    generalize RS.length = RN at *
    go_wp2
    go_ret
    exact ⟨rfl, HBwa.out⟩
end Go.Proofs.YtpepdcbhimjddaaDoor
