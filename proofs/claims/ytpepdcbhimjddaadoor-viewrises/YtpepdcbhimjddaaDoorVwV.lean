/- view.Heirs, Owner: walks; what becomes of heirs when one goes. -/
import Derived.Test.YtpepdcbhimjddaaDoorJF
import Derived.Test.YtpepdcbhimjddaaDoorND
import Derived.Test.YtpepdcbhimjddaaDoorVwS
namespace Go.Proofs.YtpepdcbhimjddaaDoor
open Go.RowKit

def woL (l : List Int) (n : Int) : List Int := l.filter fun x => decide (x ≠ n)
theorem nodes_of {l : List Int} (h1 : ∀ x ∈ l, 1 ≤ x ∧ x ≤ 15) (h2 : l.Pairwise (· < ·)) : NodesP l := fun k hk =>
  ⟨(h1 _ (List.getElem_mem hk)).1, (h1 _ (List.getElem_mem hk)).2, fun j e => List.pairwise_iff_getElem.1 h2 j k (by omega) hk (by omega)⟩
theorem nodes_pw {l : List Int} (h : NodesP l) : l.Pairwise (· < ·) := List.pairwise_iff_getElem.2 fun i j _ hj hij => nodes_rise h j i hj hij
theorem nodes_wo {l : List Int} (h : NodesP l) (n : Int) : NodesP (woL l n) := nodes_of (fun _ hx => nodes_mem h (List.mem_filter.1 hx).1) ((nodes_pw h).filter _)
theorem rg_wo {l : List Int} (h : NodesP l) (n : Int) : rgL (woL l n) = (rgL l).filter (fun (m : Nat) => decide ((m : Int) ≠ n)) := by
  rw [rgL_of (nodes_wo h n), rgL_of h, List.filter_filter]
  congr 1
  funext m
  unfold woL
  simp [List.mem_filter, Bool.and_comm]
theorem hs_filter (key : Nat) (r : List Nat) (p : Nat → Bool) : hsL key (r.filter p) = (hsL key r).filter p := by
  unfold hsL
  rw [List.filter_append, List.filter_filter, List.filter_filter, List.filter_filter, List.filter_filter]
  congr 1
  · congr 1; funext m; rw [Bool.and_comm]
  · congr 1; funext m; rw [Bool.and_comm]
/-- The heirs, as ints. -/
noncomputable def hI (key : Nat) (l : List Int) : List Int := (hsL key (rgL l)).map fun (n : Nat) => (n : Int)
theorem hI_wo {l : List Int} (h : NodesP l) (key : Nat) (n : Int) : hI key (woL l n) = woL (hI key l) n := by
  unfold hI
  rw [rg_wo h, hs_filter]
  unfold woL
  rw [List.filter_map]
  congr 1
theorem hI_len {l : List Int} (h : NodesP l) (key : Nat) : (hI key l).length = l.length := by unfold hI; rw [List.length_map, hsL_len key _ (rgL_sorted l), rgL_len h]
theorem hI_nodup (l : List Int) (key : Nat) : (hI key l).Nodup := map_cast_nodup ((hsL_perm key _ (rgL_sorted l)).symm.nodup (rgL_nodup l))
theorem hI_head (l : List Int) (key : Nat) (h0 : 0 < (hI key l).length) : (hI key l)[0]? = some (ownL key l : Int) := by
  unfold hI ownL at *
  rw [List.length_map] at h0
  rw [List.getElem?_map, List.head?_eq_getElem?, List.getElem?_eq_getElem h0]
  rfl
theorem wo_len {l : List Int} (h : l.Nodup) {n : Int} (hn : n ∈ l) : (woL l n).length + 1 = l.length := by
  induction l with
  | nil => cases hn
  | cons a l ih =>
    have h2 := List.nodup_cons.1 h
    unfold woL
    by_cases e : a = n
    · subst e
      rw [List.filter_cons_of_neg (by simp), List.filter_eq_self.2 (fun x hx => by simp; exact fun e => h2.1 (e ▸ hx)), List.length_cons]
    · rw [List.filter_cons_of_pos (by simpa using e), List.length_cons, List.length_cons]
      have := ih h2.2 ((List.mem_cons.1 hn).resolve_left (fun h => e h.symm))
      unfold woL at this
      omega
theorem wo_head {H : List Int} (hd : H.Nodup) (n a b : Int) (h0 : H[0]? = some a) (h1 : H[1]? = some b) : (woL H n)[0]? = some (if a = n then b else a) := by
  match H, h0, h1 with
  | x :: y :: t, h0, h1 =>
    simp at h0 h1
    subst h0 h1
    unfold woL
    by_cases e : x = n
    · subst e
      have hxy : y ≠ x := fun e => (List.nodup_cons.1 hd).1 (by rw [e]; simp)
      rw [List.filter_cons_of_neg (by simp), List.filter_cons_of_pos (by simpa using hxy), if_pos rfl]
      rfl
    · rw [List.filter_cons_of_pos (by simpa using e), if_neg e]
      rfl
set_option maxRecDepth 100000 in
theorem keeper_any (s : ByteArray) (v : Value) (l : List Int) (w : World) (hs : s.size ≤ 1000000) (hr : IsRow w 1 v l.length (iCells l)) (hl : l.length ≤ 1000) (hT : UT w) :
    Calls Tryd.prog 48 #[.string s, v] w fun e w' => e = .returned (.tuple #[.int .i64 (ownL (keyL s.data.toList) l : Int), .bool (hasL l)]) ∧ Below w.heap.size w w' := by
  have HK : Hid (Calls Tryd.prog 47 #[.string s] w fun e w' => e = .returned (.int .u64 (keyL s.data.toList : Int)) ∧ Below w.heap.size w w') := key_any s w hs hT
  have HO : Hid (∀ w, IsRow w 1 v l.length (iCells l) → Calls Tryd.prog 66 #[.int .u64 (keyL s.data.toList : Int), v] w fun e w' => e = .returned (.tuple #[.int .i64 (ownL (keyL s.data.toList) l : Int), .bool (hasL l)]) ∧ Below w.heap.size w w') := fun w h => ownerL_any _ v l w h hl
  have HR : Hid (IsRow w 1 v l.length (iCells l)) := hr
  clear hr
  generalize ownL (keyL s.data.toList) l = o at *
  generalize hasL l = b at *
  generalize keyL s.data.toList = k at *
  go_enter Tryd.func48, Tryd.ntmps48
  go_wp2_with fail
  refine HK.out.mono ?_
  rintro e w1 ⟨rfl, hb1⟩
  have HR1 : Hid (IsRow w1 1 v l.length (iCells l)) := HR.out.below hb1
  go_wp2_with fail
  refine (HO.out _ HR1.out).mono ?_
  rintro e w2 ⟨rfl, hb2⟩
  have HB : Hid (Below w.heap.size w w2) := hb1.trans (hb2.mono hb1.size)
  clear hb1 hb2
  go_wp2
  go_ret2
  exact ⟨rfl, HB.out⟩
/-- Who is up are nodes. -/
theorem lv_nodes (ep : Int) (l : List Mb) : NodesP (lvL ep l) := by
  unfold lvL
  split
  · rename_i hb
    by_cases hv : VwP ep l
    · have hp := nodes_pw hv.2.2.2
      refine nodes_of (fun x hx => ?_) ?_
      · unfold upN at hx
        obtain ⟨m, hm, rfl⟩ := List.mem_map.1 hx
        exact nodes_mem hv.2.2.2 (List.mem_map.2 ⟨m, (List.mem_filter.1 hm).1, rfl⟩)
      · unfold upN
        rw [List.pairwise_map] at hp ⊢
        exact hp.filter _
    · rw [vB_false hv] at hb; cases hb
  · intro k h; simp at h
/-- A name's heirs in a view. -/
noncomputable def hrV (ep : Int) (l : List Mb) (s : ByteArray) : List Int := (hI (keyL s.data.toList) (lvL ep l)).take 3
noncomputable def owV (ep : Int) (l : List Mb) (s : ByteArray) : Int := (ownL (keyL s.data.toList) (lvL ep l) : Int)
noncomputable def isV (ep : Int) (l : List Mb) : Bool := !(lvL ep l).isEmpty
theorem has_is (ep : Int) (l : List Mb) : hasL (lvL ep l) = isV ep l := by
  unfold hasL isV
  have h := rgL_len (lv_nodes ep l)
  cases hr : rgL (lvL ep l) <;> cases hl : lvL ep l <;> rw [hr, hl] at h <;> simp at h ⊢
theorem lv_len (ep : Int) (l : List Mb) : (lvL ep l).length ≤ 15 := nodes_len (lv_nodes ep l)
abbrev S2 (b : Nat) (x y : Value) (w0 w : World) : Prop := w.cell? ⟨b, 0, none⟩ = some x ∧ w.cell? ⟨b, 1, none⟩ = some y ∧ b < w.heap.size ∧ Below w0.heap.size w0 w
theorem S2_drew {b : Nat} {x y : Value} {w0 W : World} (h : S2 b x y w0 W) : S2 b x y w0 W.drew := ⟨h.1, h.2.1, h.2.2.1, h.2.2.2.drew⟩
theorem S2_call {b : Nat} {x y : Value} {w0 W w' : World} (hb : Below W.heap.size W w') (h : S2 b x y w0 W) : S2 b x y w0 w' := ⟨(hb.cell (p := ⟨b, 0, none⟩) h.2.2.1).trans h.1, (hb.cell (p := ⟨b, 1, none⟩) h.2.2.1).trans h.2.1, Nat.lt_of_lt_of_le h.2.2.1 hb.size, h.2.2.2.trans (hb.mono h.2.2.2.size)⟩
theorem S2_b {b : Nat} {x y : Value} {w0 W : World} (h : S2 b x y w0 W) : Below w0.heap.size w0 W := h.2.2.2
set_option maxRecDepth 100000 in
set_option maxHeartbeats 2000000 in
theorem heirsV_any (ep : Int) (v : Value) (l : List Mb) (s : ByteArray) (w : World) (hr : IsRow w 3 v l.length (mCells l)) (hl : l.length ≤ 1000000) (hs : s.size ≤ 1000000) (hU : UT w) :
    Calls Tryd.prog 31 #[vwV ep v, .string s] w fun e w' => ∃ ra rc, e = .returned (.slice ra (hrV ep l s).length rc) ∧ IsRow w' 1 (.slice ra (hrV ep l s).length rc) (hrV ep l s).length (iCells (hrV ep l s)) ∧ Below w.heap.size w w' := by
  obtain ⟨a0, cap0, rfl⟩ := hr.form
  have HB0 := al_belowV w (.cells #[.int .i64 ep, .slice a0 l.length cap0] 24)
  have hS : S2 w.heap.size (.int .i64 ep) (.slice a0 l.length cap0) (w.alloc (.cells #[.int .i64 ep, .slice a0 l.length cap0] 24)) (w.alloc (.cells #[.int .i64 ep, .slice a0 l.length cap0] 24)) := by
    have h := two_V (alloc_top w (.cells #[.int .i64 ep, .slice a0 l.length cap0] 24))
    exact ⟨h.1, h.2.1, by simp, Below.refl _ _⟩
  have HU : Hid (∀ W, Below (w.alloc (.cells #[.int .i64 ep, .slice a0 l.length cap0] 24)).heap.size (w.alloc (.cells #[.int .i64 ep, .slice a0 l.length cap0] 24)) W → Below w.heap.size w W) := fun W h => HB0.trans (h.mono HB0.size)
  have HK : Hid (∀ W, Below (w.alloc (.cells #[.int .i64 ep, .slice a0 l.length cap0] 24)).heap.size (w.alloc (.cells #[.int .i64 ep, .slice a0 l.length cap0] 24)) W → Calls Tryd.prog 47 #[.string s] W fun e w' => e = .returned (.int .u64 (keyL s.data.toList : Int)) ∧ Below W.heap.size W w') := fun W h => key_any s W hs (Utf8Tabs_below hU (HU.out W h))
  have HL : Hid (∀ W, Below (w.alloc (.cells #[.int .i64 ep, .slice a0 l.length cap0] 24)).heap.size (w.alloc (.cells #[.int .i64 ep, .slice a0 l.length cap0] 24)) W → Calls Tryd.prog 18 #[.agg #[.int .i64 ep, .slice a0 l.length cap0]] W fun e w' => ∃ la lc, e = .returned (.slice la (lvL ep l).length lc) ∧ IsRow w' 1 (.slice la (lvL ep l).length lc) (lvL ep l).length (iCells (lvL ep l)) ∧ Below W.heap.size W w') := fun W h => by
    refine (live_any ep _ l W (hr.below (HU.out W h)) hl).mono ?_
    rintro e w' ⟨v', rfl, h1, -, h2⟩
    obtain ⟨ra, rc, rfl⟩ := h1.form
    exact ⟨ra, rc, rfl, h1, h2⟩
  have HH : Hid (∀ la lc W, IsRow W 1 (.slice la (lvL ep l).length lc) (lvL ep l).length (iCells (lvL ep l)) → Calls Tryd.prog 46 #[.int .u64 (keyL s.data.toList : Int), .slice la (lvL ep l).length lc, .int .i64 3] W fun e w' => ∃ ra rc, e = .returned (.slice ra (hrV ep l s).length rc) ∧ IsRow w' 1 (.slice ra (hrV ep l s).length rc) (hrV ep l s).length (iCells (hrV ep l s)) ∧ Below W.heap.size W w') := fun la lc W h => by
    refine (heirs_any (keyL s.data.toList) _ (lvL ep l) 3 W h (by have := lv_len ep l; omega)).mono ?_
    rintro e w' ⟨v', rfl, h1, h2⟩
    have e1 : ((hsL (keyL s.data.toList) (rgL (lvL ep l))).take (3 : Int).toNat).map (fun (n : Nat) => (n : Int)) = hrV ep l s := by
      unfold hrV hI
      rw [List.map_take]
      rfl
    rw [nCells_is, e1] at h1
    rw [show ((hsL (keyL s.data.toList) (rgL (lvL ep l))).take (3 : Int).toNat).length = (hrV ep l s).length by rw [← e1, List.length_map]] at h1
    obtain ⟨ra, rc, rfl⟩ := h1.form
    exact ⟨ra, rc, rfl, h1, h2⟩
  clear hr hU HB0
  generalize hrV ep l s = HRS at *
  generalize lvL ep l = LV at *
  generalize (keyL s.data.toList : Nat) = KY at *
  go_enter Tryd.func31, Tryd.ntmps31
  go_wp2_with fail
  generalize w.alloc (.cells #[.int .i64 ep, .slice a0 l.length cap0] 24) = W1 at *
  generalize hNN : w.heap.size = N at *
  rw [← hNN] at HU
  have HU : Hid (∀ W, Below W1.heap.size W1 W → Below w.heap.size w W) := HU
  clear hNN
  go_region_held3 (fun w' => S2 N (.int .i64 ep) (.slice a0 l.length cap0) W1 w')
    (first | with_reducible assumption | with_reducible exact S2_drew (by with_reducible assumption) | exact S2_call hb (by with_reducible assumption))
    (first
      | (go_at_call 47; refine (HK.out _ (S2_b (by with_reducible assumption))).mono ?_; rintro e w'' ⟨rfl, hb⟩)
      | (go_at_call 18; refine (HL.out _ (S2_b (by with_reducible assumption))).mono ?_; rintro e w'' ⟨la, lc, rfl, hrow, hb⟩)
      | (go_at_call 46; refine (HH.out _ _ _ hrow).mono ?_; rintro e w'' ⟨ra, rc, rfl, hrow2, hb⟩))
  rename_i hS9
  have HB9 := HU.out _ (S2_b hS9)
  clear hS9 hS
  go_wp2
  go_ret
  exact ⟨ra, rc, rfl, hrow2, HB9⟩
set_option maxRecDepth 100000 in
set_option maxHeartbeats 2000000 in
theorem ownerV_any (ep : Int) (v : Value) (l : List Mb) (s : ByteArray) (w : World) (hr : IsRow w 3 v l.length (mCells l)) (hl : l.length ≤ 1000000) (hs : s.size ≤ 1000000) (hU : UT w) :
    Calls Tryd.prog 32 #[vwV ep v, .string s] w fun e w' => e = .returned (.tuple #[.int .i64 (owV ep l s), .bool (isV ep l)]) ∧ Below w.heap.size w w' := by
  obtain ⟨a0, cap0, rfl⟩ := hr.form
  have HB0 : Hid (Below w.heap.size w (w.alloc (.cells #[.int .i64 ep, .slice a0 l.length cap0] 24))) := al_belowV w _
  have HL : Hid (Calls Tryd.prog 18 #[.agg #[.int .i64 ep, .slice a0 l.length cap0]] (w.alloc (.cells #[.int .i64 ep, .slice a0 l.length cap0] 24)) fun e w' => LvPost (lvL ep l) (w.alloc (.cells #[.int .i64 ep, .slice a0 l.length cap0] 24)) e w') := live_any ep _ l _ (hr.below HB0.out) hl
  have HK : Hid (∀ v W, Below w.heap.size w W → IsRow W 1 v (lvL ep l).length (iCells (lvL ep l)) → Calls Tryd.prog 48 #[.string s, v] W fun e w' => e = .returned (.tuple #[.int .i64 (owV ep l s), .bool (isV ep l)]) ∧ Below W.heap.size W w') := fun v W hb h => by
    have := keeper_any s v (lvL ep l) W hs h (by have := lv_len ep l; omega) (Utf8Tabs_below hU hb)
    rw [has_is] at this
    exact this
  clear hr hU
  generalize owV ep l s = OW at *
  generalize isV ep l = IS at *
  generalize lvL ep l = LV at *
  go_enter Tryd.func32, Tryd.ntmps32
  go_wp2_with fail
  refine HL.out.mono ?_
  rintro e w1 ⟨v1, rfl, hr1, -, hb1⟩
  have HB1 : Hid (Below w.heap.size w w1) := HB0.out.trans (hb1.mono HB0.out.size)
  have HX : Hid (Calls Tryd.prog 48 #[.string s, v1] w1 fun e w' => e = .returned (.tuple #[.int .i64 OW, .bool IS]) ∧ Below w1.heap.size w1 w') := HK.out _ _ HB1.out hr1
  clear hr1 hb1 HL HK HB0
  go_wp2_with fail
  refine HX.out.mono ?_
  rintro e w2 ⟨rfl, hb2⟩
  have HB2 : Hid (Below w.heap.size w w2) := HB1.out.trans (hb2.mono HB1.out.size)
  clear hb2 HX
  go_wp2
  go_ret2
  exact ⟨rfl, HB2.out⟩
end Go.Proofs.YtpepdcbhimjddaaDoor
