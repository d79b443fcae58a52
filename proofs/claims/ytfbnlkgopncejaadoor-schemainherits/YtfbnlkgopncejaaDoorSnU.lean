/- SchemaInherits: its walk. -/
import Derived.Test.YtfbnlkgopncejaaDoorSnT
import Derived.Test.YtfbnlkgopncejaaDoorEM
import Derived.Test.YtfbnlkgopncejaaDoorEN
import Derived.Test.YtfbnlkgopncejaaDoorEO
namespace Go.Proofs.YtfbnlkgopncejaaDoor
open Go.RowKit

theorem few_namesI {l : List Fd} (h : fewF l = true) : (∀ x ∈ l, x.n.size ≤ 200) ∧ l.length ≤ 41 := by
  have h := of_decide_eq_true h
  refine ⟨fun x hx => ?_, ?_⟩
  · obtain ⟨i, hi, rfl⟩ := List.mem_iff_getElem.1 hx
    exact (h i hi).2
  · by_cases h0 : l.length ≤ 41
    · exact h0
    · have := (h 41 (by omega)).1
      omega
theorem few_attrsI {l : List At} (h : fewA l = true) : (∀ x ∈ l, x.n.size ≤ 200 ∧ x.s.size ≤ 500) ∧ l.length ≤ 41 := by
  have h := of_decide_eq_true h
  refine ⟨fun x hx => ?_, ?_⟩
  · obtain ⟨i, hi, rfl⟩ := List.mem_iff_getElem.1 hx
    exact (h i hi).2
  · by_cases h0 : l.length ≤ 41
    · exact h0
    · have := (h 41 (by omega)).1
      omega
def RfI (l : List Fd) (w : World) (e : Ending) (w' : World) : Prop := ∃ a c, e = .returned (.slice a l.length c) ∧ IsRow w' 3 (.slice a l.length c) l.length (fCells l) ∧ Below w.heap.size w w'
theorem refsI (v : Value) (l : List Fd) (w : World) (hr : IsRow w 3 v l.length (fCells l)) (hl : l.length ≤ 1000000) : Calls Tryd.prog 9 #[v] w fun e w' => RfI l w e w' := by
  refine (refs_any v l w hr hl).mono ?_
  rintro e W' ⟨v', rfl, hrow, hbl⟩
  obtain ⟨a, c, rfl⟩ := hrow.form
  exact ⟨a, c, rfl, hrow, hbl⟩
theorem sameI (v u : Value) (l : List Fd) (w : World) (hr : IsRow w 3 v l.length (fCells l)) (hq : IsRow w 3 u l.length (fCells l)) (hl : l.length ≤ 1000000) : Calls Tryd.prog 8 #[v, u] w fun e w' => e = .returned (.bool true) ∧ Below w.heap.size w w' := by
  refine (refSame_any v u l l w hr hq hl hl).mono ?_
  rintro e W' ⟨rfl, hbl⟩
  exact ⟨by rw [(sameR_iff l l).2 rfl], hbl⟩
/-- What both merges answer. -/
def ErrM (v u : Value) (w : World) (E : Int) : Prop := ∀ W, Below w.heap.size w W → Calls Tryd.prog 7 #[v, u] W fun e W' => e = .returned (.tuple #[.slice none 0 0, .int .i64 E]) ∧ Below W.heap.size W W'
def OkM (v u : Value) (w : World) (D : List Fd) : Prop := ∀ W, Below w.heap.size w W → Calls Tryd.prog 7 #[v, u] W fun e W' => ∃ s c, e = .returned (.tuple #[.slice s D.length c, .int .i64 0]) ∧ IsRow W' 3 (.slice s D.length c) D.length (fCells D) ∧ Below W.heap.size W W'
theorem errM_bad {v u : Value} {l a : List Fd} {w : World} (hr : IsRow w 3 v l.length (fCells l)) (hq : IsRow w 3 u a.length (fCells a)) (hl : l.length ≤ 1000) (hal : a.length ≤ 1000) (hn : NmF l) (hna : NmF a) (hW : W4 w) (hbad : mergeE l a ≠ 0) : ErrM v u w (mergeE l a) := fun W hB =>
  merge_bad v u l a W (hr.below hB) (hq.below hB) (by omega) (by omega) hn hna (hW.below hB).t (hW.below hB).m hbad
theorem errM_long {v u : Value} {l a : List Fd} {w : World} (hr : IsRow w 3 v l.length (fCells l)) (hq : IsRow w 3 u a.length (fCells a)) (hl : l.length ≤ 1000) (hal : a.length ≤ 1000) (hn : NmF l) (hna : NmF a) (hW : W4 w) (hok : mergeE l a = 0) (h24 : 24 < l.length + a.length) : ErrM v u w 2 := fun W hB => by
  refine (merge_ok v u l a W (hr.below hB) (hq.below hB) (by omega) (by omega) hn hna (hW.below hB) hok).mono ?_
  rintro e W' ⟨hb, ⟨-, rfl⟩ | ⟨h, -⟩⟩
  · exact ⟨rfl, hb⟩
  · omega
theorem okM {v u : Value} {l a D : List Fd} {w : World} (hr : IsRow w 3 v l.length (fCells l)) (hq : IsRow w 3 u a.length (fCells a)) (hl : l.length ≤ 1000) (hal : a.length ≤ 1000) (hn : NmF l) (hna : NmF a) (hW : W4 w) (hok : mergeE l a = 0) (h24 : l.length + a.length ≤ 24) (hD : MrgD l a D) : OkM v u w D := fun W hB => by
  refine (merge_ok v u l a W (hr.below hB) (hq.below hB) (by omega) (by omega) hn hna (hW.below hB) hok).mono ?_
  rintro e W' ⟨hb, ⟨h, -⟩ | ⟨-, D', hM, s, c, rfl, hrow⟩⟩
  · omega
  · have : D' = D := List.Perm.eq_of_pairwise (le := ltF) (fun x y _ _ h1 h2 => absurd (ltF_trans h1 h2) (ltF_irr x)) hM.2 hD.2 (hM.1.trans hD.1.symm)
    subst this
    exact ⟨s, c, rfl, hrow, hb⟩
theorem mrg_comm {a b D : List Fd} (h : MrgD a b D) : MrgD b a D := ⟨h.1.trans List.perm_append_comm, h.2⟩
/-- There is what both make together. -/
theorem mrg_ex {a b : List Fd} (h : mergeE a b = 0) : ∃ D, MrgD a b D := by
  refine ⟨(a ++ b).mergeSort (fun x y => decide (¬ cmpL y.n.data.toList x.n.data.toList < 0)), ?_⟩
  refine mrg_of h (List.mergeSort_perm _ _) ?_
  have hs := List.pairwise_mergeSort (le := fun x y : Fd => decide (¬ cmpL y.n.data.toList x.n.data.toList < 0)) (fun x y z h1 h2 => ?_) (fun x y => ?_) (a ++ b)
  · exact hs.imp fun h => by simpa [leF] using h
  · simp only [decide_eq_true_eq] at *
    intro hh
    have hh := cmpL_lt.1 hh
    by_cases hyx : cmpL y.n.data.toList x.n.data.toList = 0
    · unfold cmpL at hyx hh h2
      have e := cmp_zero _ _ hyx
      rw [e] at h2
      exact h2 (by rw [hh]; decide)
    · have v := cmp_vals (foldL y.n.data.toList) (foldL x.n.data.toList)
      have an := cmp_anti (foldL y.n.data.toList) (foldL x.n.data.toList)
      have h3 : ltF x y := by unfold ltF; unfold cmpL at *; omega
      have h4 : ltF z y := ltF_trans hh h3
      exact h2 (by unfold ltF at h4; rw [h4]; decide)
  · simp only [Bool.or_eq_true, decide_eq_true_eq]
    have an := cmp_anti (foldL y.n.data.toList) (foldL x.n.data.toList)
    unfold cmpL
    omega
set_option maxRecDepth 100000 in
set_option maxHeartbeats 4000000 in
theorem inh_err (v u x : Value) (l a : List Fd) (t : List At) (w : World) (hr : IsRow w 3 v l.length (fCells l)) (hq : IsRow w 3 u a.length (fCells a)) (hx : IsRow w 4 x t.length (aCells t)) (hl : l.length ≤ 140737488355328) (hal : a.length ≤ 140737488355328) (hxl : t.length ≤ 140737488355328) (h : W4 w) (hf : fewF l = true) (hg : fewF a = true) (hk : fewA t = true) (E : Int) (hE : E ≠ 0) (hm : ErrM v u w E) (hm' : ErrM u v w E) :
    Calls Tryd.prog 3 #[v, u, x] w fun e w' => e = .returned (.bool true) ∧ Below w.heap.size w w' := by
  have HAw : Hid (∀ W, Below w.heap.size w W → Calls Tryd.prog 6 #[] W fun e W' => e = .returned (.bool true) ∧ Below W.heap.size W W') := fun W hW => awake4_any W (h.below hW)
  have HF1 : Hid (Calls Tryd.prog 4 #[v] w fun e w' => e = .returned (.bool true) ∧ w' = w) := by
    have := fewF_any v l w hr hl
    rw [hf] at this
    exact this
  have HF2 : Hid (Calls Tryd.prog 4 #[u] w fun e w' => e = .returned (.bool true) ∧ w' = w) := by
    have := fewF_any u a w hq hal
    rw [hg] at this
    exact this
  have HF3 : Hid (Calls Tryd.prog 5 #[x] w fun e w' => e = .returned (.bool true) ∧ w' = w) := by
    have := fewA_any x t w hx hxl
    rw [hk] at this
    exact this
  have HRf : Hid (∀ W, Calls Tryd.prog 9 #[.slice none 0 0] W fun e w' => RfI [] W e w') := fun W => refsI _ [] W (IsRow.nil _ _) (by decide)
  have HSm : Hid (∀ W y z, IsRow W 3 y 0 (fCells []) → IsRow W 3 z 0 (fCells []) → Calls Tryd.prog 8 #[y, z] W fun e w' => e = .returned (.bool true) ∧ Below W.heap.size W w') := fun W y z h1 h2 => sameI y z [] W h1 h2 (by decide)
  have HM : Hid (ErrM v u w E) := hm
  have HM' : Hid (ErrM u v w E) := hm'
  have nb : (E != 0) = true := by simpa using hE
  have nn : (E != E) = false := by simp
  obtain ⟨av, cv, rfl⟩ := hr.form
  obtain ⟨au, cu, rfl⟩ := hq.form
  obtain ⟨ax, cx, rfl⟩ := hx.form
  clear hr hq hx hl hal hxl h hf hg hk hm hm' hE
  go_enter Tryd.func3, Tryd.ntmps3
  go_wp2_with fail
  refine HF1.out.mono ?_
  rintro e w0 ⟨rfl, he0⟩
  obtain rfl := he0.symm
  go_wp2_with fail
  refine HF2.out.mono ?_
  rintro e w00 ⟨rfl, he0⟩
  obtain rfl := he0.symm
  go_wp2_with fail
  refine HF3.out.mono ?_
  rintro e w000 ⟨rfl, he0⟩
  obtain rfl := he0.symm
  clear HF1 HF2 HF3
  go_wp2_with fail
  refine (HM.out w (Below.refl _ _)).mono ?_
  rintro e w1 ⟨rfl, hb1⟩
  have HB1 : Hid (Below w.heap.size w w1) := hb1
  clear hb1
  go_wp2_with fail
  refine (HM'.out w1 HB1.out).mono ?_
  rintro e w2 ⟨rfl, hb2⟩
  have HB2 : Hid (Below w.heap.size w w2) := HB1.out.trans (hb2.mono HB1.out.size)
  clear hb2 HM HM'
  go_wp2_with fail
  refine (HRf.out w2).mono ?_
  rintro e w3 ⟨a3, c3, rfl, hr3, hb3⟩
  have HB3 : Hid (Below w.heap.size w w3) := HB2.out.trans (hb3.mono HB2.out.size)
  have HR3 : Hid (∀ W, Below w3.heap.size w3 W → IsRow W 3 (.slice a3 0 c3) 0 (fCells [])) := fun W hW => hr3.below hW
  clear hr3 hb3
  go_wp2_with fail
  refine (HRf.out w3).mono ?_
  rintro e w4 ⟨a4, c4, rfl, hr4, hb4⟩
  have HB4 : Hid (Below w.heap.size w w4) := HB3.out.trans (hb4.mono HB3.out.size)
  have HS := HSm.out w4 _ _ (HR3.out w4 hb4) hr4
  clear hr4 hb4 HR3
  go_wp2_with fail
  refine HS.mono ?_
  rintro e w5 ⟨rfl, hb5⟩
  have HB5 : Hid (Below w.heap.size w w5) := HB4.out.trans (hb5.mono HB4.out.size)
  clear hb5 HS HSm HRf
  go_wp2_with fail
  refine (HAw.out w5 HB5.out).mono ?_
  rintro e w6 ⟨rfl, hb6⟩
  have HB6 : Hid (Below w.heap.size w w6) := HB5.out.trans (hb6.mono HB5.out.size)
  clear hb6
  go_wp2
  go_ret
  exact ⟨rfl, HB6.out⟩
set_option maxRecDepth 100000 in
set_option maxHeartbeats 4000000 in
theorem inh_ok (v u x : Value) (l a D : List Fd) (t : List At) (w : World) (hr : IsRow w 3 v l.length (fCells l)) (hq : IsRow w 3 u a.length (fCells a)) (hx : IsRow w 4 x t.length (aCells t)) (hl : l.length ≤ 140737488355328) (hal : a.length ≤ 140737488355328) (hxl : t.length ≤ 140737488355328) (h : W4 w) (hf : fewF l = true) (hg : fewF a = true) (hk : fewA t = true) (h0 : mergeE l a = 0) (h24 : l.length + a.length ≤ 24) (hD : MrgD l a D) (hm : OkM v u w D) (hm' : OkM u v w D) :
    Calls Tryd.prog 3 #[v, u, x] w fun e w' => e = .returned (.bool true) ∧ Below w.heap.size w w' := by
  obtain ⟨hn, -⟩ := few_namesI hf
  obtain ⟨hna, -⟩ := few_namesI hg
  obtain ⟨hnt, h41⟩ := few_attrsI hk
  have hlen := mrg_len hD
  have hND : NmF D := fun y hy => by
    rcases List.mem_append.1 (hD.1.mem_iff.1 hy) with hy | hy
    · have := hn y hy; omega
    · have := hna y hy; omega
  have HAw : Hid (∀ W, Below w.heap.size w W → Calls Tryd.prog 6 #[] W fun e W' => e = .returned (.bool true) ∧ Below W.heap.size W W') := fun W hW => awake4_any W (h.below hW)
  have HF1 : Hid (Calls Tryd.prog 4 #[v] w fun e w' => e = .returned (.bool true) ∧ w' = w) := by
    have := fewF_any v l w hr hl
    rw [hf] at this
    exact this
  have HF2 : Hid (Calls Tryd.prog 4 #[u] w fun e w' => e = .returned (.bool true) ∧ w' = w) := by
    have := fewF_any u a w hq hal
    rw [hg] at this
    exact this
  have HF3 : Hid (Calls Tryd.prog 5 #[x] w fun e w' => e = .returned (.bool true) ∧ w' = w) := by
    have := fewA_any x t w hx hxl
    rw [hk] at this
    exact this
  have HRf : Hid (∀ W y, IsRow W 3 y D.length (fCells D) → Calls Tryd.prog 9 #[y] W fun e w' => RfI D W e w') := fun W y hy => refsI _ D W hy (by omega)
  have HSm : Hid (∀ W y z, IsRow W 3 y D.length (fCells D) → IsRow W 3 z D.length (fCells D) → Calls Tryd.prog 8 #[y, z] W fun e w' => e = .returned (.bool true) ∧ Below W.heap.size W w') := fun W y z h1 h2 => sameI y z D W h1 h2 (by omega)
  have HW1 : Hid (∀ W y, Below w.heap.size w W → IsRow W 3 y D.length (fCells D) → Calls Tryd.prog 10 #[v, y] W fun e w' => e = .returned (.bool true) ∧ Below W.heap.size W w') := fun W y hW hy => by
    have := withinF_any v y l D W (hr.below hW) hy (by omega) (by omega) (fun z hz => by have := hn z hz; omega) hND (h.below hW).t
    rw [(mrg_within hD).1] at this
    exact this
  have HW2 : Hid (∀ W y, Below w.heap.size w W → IsRow W 3 y D.length (fCells D) → Calls Tryd.prog 10 #[u, y] W fun e w' => e = .returned (.bool true) ∧ Below W.heap.size W w') := fun W y hW hy => by
    have := withinF_any u y a D W (hq.below hW) hy (by omega) (by omega) (fun z hz => by have := hna z hz; omega) hND (h.below hW).t
    rw [(mrg_within hD).2] at this
    exact this
  have HT1 : Hid (∀ W, Below w.heap.size w W → Calls Tryd.prog 11 #[v, x] W fun e w' => e = .returned (.int .i64 (fitsL l t)) ∧ Below W.heap.size W w') := fun W hW => fits_any v x l t W (hr.below hW) (hx.below hW) (by omega) (by omega) (fun z hz => by have := hn z hz; omega) (fun z hz => by have := hnt z hz; omega) (h.below hW).t (h.below hW).m
  have HT2 : Hid (∀ W y, Below w.heap.size w W → IsRow W 3 y D.length (fCells D) → Calls Tryd.prog 11 #[y, x] W fun e w' => e = .returned (.int .i64 (fitsL D t)) ∧ Below W.heap.size W w') := fun W y hW hy => fits_any y x D t W hy (hx.below hW) (by omega) (by omega) hND (fun z hz => by have := hnt z hz; omega) (h.below hW).t (h.below hW).m
  have HFm : Hid ((∀ y ∈ a, y.m = false) → fitsL l t = 0 → fitsL D t = 0) := fun hb hfi => fits_more h0 hD h24 hb hfi
  have HRu : Hid (∀ W, Below w.heap.size w W → IsRow W 3 u a.length (fCells a)) := fun W hW => hq.below hW
  have HM : Hid (OkM v u w D) := hm
  have HM' : Hid (OkM u v w D) := hm'
  have dl : ((D.length : Int) != (l.length : Int) + (a.length : Int)) = false := by rw [hlen]; simp
  have wl : IntKind.i64.wrap ((l.length : Int) + (a.length : Int)) = (l.length : Int) + (a.length : Int) := by rw [IntKind.wrap_i64]; omega
  obtain ⟨av, cv, rfl⟩ := hr.form
  obtain ⟨au, cu, rfl⟩ := hq.form
  obtain ⟨ax, cx, rfl⟩ := hx.form
  clear hr hq hx hl hal hxl h hf hg hk hm hm' hn hna hnt hND h0 hD hlen
  go_enter Tryd.func3, Tryd.ntmps3
  go_wp2_with fail
  refine HF1.out.mono ?_
  rintro e w0 ⟨rfl, he0⟩
  obtain rfl := he0.symm
  go_wp2_with fail
  refine HF2.out.mono ?_
  rintro e w00 ⟨rfl, he0⟩
  obtain rfl := he0.symm
  go_wp2_with fail
  refine HF3.out.mono ?_
  rintro e w000 ⟨rfl, he0⟩
  obtain rfl := he0.symm
  clear HF1 HF2 HF3
  go_wp2_with fail
  refine (HM.out w (Below.refl _ _)).mono ?_
  rintro e w1 ⟨s1, c1, rfl, hr1, hb1⟩
  have HB1 : Hid (Below w.heap.size w w1) := hb1
  have HR1 : Hid (∀ W, Below w1.heap.size w1 W → IsRow W 3 (.slice s1 D.length c1) D.length (fCells D)) := fun W hW => hr1.below hW
  clear hb1 hr1
  go_wp2_with fail
  refine (HM'.out w1 HB1.out).mono ?_
  rintro e w2 ⟨s2, c2, rfl, hr2, hb2⟩
  have HB2 : Hid (Below w.heap.size w w2) := HB1.out.trans (hb2.mono HB1.out.size)
  have HX2 : Hid (Below w1.heap.size w1 w2) := hb2
  have HR2 : Hid (∀ W, Below w2.heap.size w2 W → IsRow W 3 (.slice s2 D.length c2) D.length (fCells D)) := fun W hW => hr2.below hW
  clear hb2 HM HM' hr2
  go_wp2_with fail
  refine (HRf.out w2 _ (HR1.out w2 HX2.out)).mono ?_
  rintro e w3 ⟨a3, c3, rfl, hr3, hb3⟩
  have HB3 : Hid (Below w.heap.size w w3) := HB2.out.trans (hb3.mono HB2.out.size)
  have HX3 : Hid (Below w1.heap.size w1 w3) := HX2.out.trans (hb3.mono HX2.out.size)
  have HY3 : Hid (Below w2.heap.size w2 w3) := hb3
  have HR3 : Hid (∀ W, Below w3.heap.size w3 W → IsRow W 3 (.slice a3 D.length c3) D.length (fCells D)) := fun W hW => hr3.below hW
  clear hr3 hb3
  go_wp2_with fail
  refine (HRf.out w3 _ (HR2.out w3 HY3.out)).mono ?_
  rintro e w4 ⟨a4, c4, rfl, hr4, hb4⟩
  have HB4 : Hid (Below w.heap.size w w4) := HB3.out.trans (hb4.mono HB3.out.size)
  have HX4 : Hid (Below w1.heap.size w1 w4) := HX3.out.trans (hb4.mono HX3.out.size)
  have HS := HSm.out w4 _ _ (HR3.out w4 hb4) hr4
  clear hr4 hb4 HR3 HR2 HY3
  go_wp2_with fail
  refine HS.mono ?_
  rintro e w5 ⟨rfl, hb5⟩
  have HB5 : Hid (Below w.heap.size w w5) := HB4.out.trans (hb5.mono HB4.out.size)
  have HX5 : Hid (Below w1.heap.size w1 w5) := HX4.out.trans (hb5.mono HX4.out.size)
  clear hb5 HS HSm HRf
  go_wp2_with fail
  refine (HW1.out w5 _ HB5.out (HR1.out w5 HX5.out)).mono ?_
  rintro e w6 ⟨rfl, hb6⟩
  have HB6 : Hid (Below w.heap.size w w6) := HB5.out.trans (hb6.mono HB5.out.size)
  have HX6 : Hid (Below w1.heap.size w1 w6) := HX5.out.trans (hb6.mono HX5.out.size)
  clear hb6
  go_wp2_with fail
  refine (HW2.out w6 _ HB6.out (HR1.out w6 HX6.out)).mono ?_
  rintro e w7 ⟨rfl, hb7⟩
  have HB7 : Hid (Below w.heap.size w w7) := HB6.out.trans (hb7.mono HB6.out.size)
  have HX7 : Hid (Below w1.heap.size w1 w7) := HX6.out.trans (hb7.mono HX6.out.size)
  clear hb7 HW1 HW2
  go_wp2_with fail
  go_loopw [11, 12] (fun m i wr => ∃ k : Nat, k ≤ a.length ∧ i = .int .i64 (k : Int) ∧ m = .bool ((a.take k).any (·.m)) ∧ w7 = wr) (fun _ i _ => a.length - (intOf i).toNat)
  case atStart => exact ⟨0, Nat.zero_le _, rfl, rfl, rfl⟩
  case round =>
    obtain ⟨k, hk, rfl, rfl, rfl⟩ := hrel
    by_cases hlk : k < a.length
    · have dk : decide ((k : Int) < a.length) = true := by simp; omega
      obtain ⟨b, off, hvv, hlt, hc1, hcc⟩ := f_at (HRu.out _ HB7.out) (by omega)
      subst hvv
      obtain ⟨-, -, c2⟩ := hcc k hlk
      have HTk : Hid ((a.take (k + 1)).any (·.m) = ((a.take k).any (·.m) || a[k].m)) := by
        show _ = _
        rw [List.take_succ_eq_append_getElem hlk, List.any_append]
        simp
      have q1 : (0 : Int) ≤ (k : Int) := by omega
      have q2 : (k : Int) < (a.length : Int) := by omega
      generalize (a.take k).any (·.m) = M at *
      generalize (a[k]'hlk).m = am at *
      clear hcc HRu HT1 HT2 HAw HFm
      cases M
      · have HT' : Hid ((a.take (k + 1)).any (·.m) = am) := by show _ = _; rw [HTk.out]; simp
        clear HTk
        go_wp2
        go_roundw
        case rel => exact ⟨k + 1, by omega, by simp, by rw [HT'.out], trivial⟩
        case measure => simp [intOf]; omega
      · have HT' : Hid ((a.take (k + 1)).any (·.m) = true) := by show _ = _; rw [HTk.out]; simp
        clear HTk
        go_wp2
        go_roundw
        case rel => exact ⟨k + 1, by omega, by simp, by rw [HT'.out], trivial⟩
        case measure => simp [intOf]; omega
    · have dk : decide ((k : Int) < a.length) = false := by simp; omega
      have hk' : a.take k = a := List.take_of_length_le (by omega)
      rw [hk']
      have HRm : Hid (∀ W, Below w7.heap.size w7 W → IsRow W 3 (.slice s1 D.length c1) D.length (fCells D)) := fun W hW => HR1.out W (HX7.out.trans (hW.mono HX7.out.size))
      clear hk' HRu HR1
      cases hm : a.any (·.m)
      · have hb : ∀ y ∈ a, y.m = false := fun y hy => by
          have := List.any_eq_false.1 hm y hy
          simpa using this
        have HF0 : Hid (fitsL l t = 0 → fitsL D t = 0) := HFm.out hb
        clear hb hm HFm
        go_wp2_with fail
        refine (HAw.out w7 HB7.out).mono ?_
        rintro e w8 ⟨rfl, hb8⟩
        have HB8 : Hid (Below w.heap.size w w8) := HB7.out.trans (hb8.mono HB7.out.size)
        have HZ8 : Hid (Below w7.heap.size w7 w8) := hb8
        clear hb8 HAw
        go_wp2_with fail
        refine (HT1.out w8 HB8.out).mono ?_
        rintro e w9 ⟨rfl, hb9⟩
        have HB9 : Hid (Below w.heap.size w w9) := HB8.out.trans (hb9.mono HB8.out.size)
        have HZ9 : Hid (Below w7.heap.size w7 w9) := HZ8.out.trans (hb9.mono HZ8.out.size)
        clear hb9 HT1
        by_cases h0 : fitsL l t = 0
        · have HF1 : Hid (fitsL D t = 0) := HF0.out h0
          rw [h0]
          clear h0 HF0
          go_wp2_with fail
          refine (HT2.out w9 _ HB9.out (HRm.out w9 HZ9.out)).mono ?_
          rintro e w10 ⟨rfl, hb10⟩
          have HB10 : Hid (Below w.heap.size w w10) := HB9.out.trans (hb10.mono HB9.out.size)
          rw [HF1.out]
          clear hb10 HT2 HRm HF1
          go_wp2
          go_ret
          exact ⟨rfl, HB10.out⟩
        · have n0 : (fitsL l t != 0) = true := by simpa using h0
          generalize fitsL l t = F at *
          clear h0 HF0 HT2 HRm
          go_wp2
          go_ret
          exact ⟨rfl, HB9.out⟩
      · clear hm HFm HT1 HT2 HRm
        go_wp2_with fail
        refine (HAw.out w7 HB7.out).mono ?_
        rintro e w8 ⟨rfl, hb8⟩
        have HB8 : Hid (Below w.heap.size w w8) := HB7.out.trans (hb8.mono HB7.out.size)
        clear hb8 HAw
        go_wp2
        go_ret
        exact ⟨rfl, HB8.out⟩
set_option maxRecDepth 100000 in
set_option maxHeartbeats 4000000 in
theorem inh_few (v u x : Value) (l a : List Fd) (t : List At) (w : World) (hr : IsRow w 3 v l.length (fCells l)) (hq : IsRow w 3 u a.length (fCells a)) (hx : IsRow w 4 x t.length (aCells t)) (hl : l.length ≤ 140737488355328) (hal : a.length ≤ 140737488355328) (hxl : t.length ≤ 140737488355328) (h : W4 w) (hno : ¬ (fewF l = true ∧ fewF a = true ∧ fewA t = true)) :
    Calls Tryd.prog 3 #[v, u, x] w fun e w' => e = .returned (.bool true) ∧ Below w.heap.size w w' := by
  have HAw : Hid (Calls Tryd.prog 6 #[] w fun e W' => e = .returned (.bool true) ∧ Below w.heap.size w W') := awake4_any w h
  have HF1 := fewF_any v l w hr hl
  have HF2 := fewF_any u a w hq hal
  have HF3 := fewA_any x t w hx hxl
  obtain ⟨av, cv, rfl⟩ := hr.form
  obtain ⟨au, cu, rfl⟩ := hq.form
  obtain ⟨ax, cx, rfl⟩ := hx.form
  clear hr hq hx h hl hal hxl
  cases hf : fewF l
  · rw [hf] at HF1
    clear hno hf
    go_enter Tryd.func3, Tryd.ntmps3
    go_wp2_with fail
    refine HF1.mono ?_
    rintro e w0 ⟨rfl, he0⟩
    obtain rfl := he0.symm
    clear HF1 HF2 HF3
    go_wp2_with (refine HAw.out.mono ?_; rintro e w1 ⟨rfl, hb1⟩)
    go_ret
    exact ⟨rfl, hb1⟩
  rw [hf] at HF1
  cases hg : fewF a
  · rw [hg] at HF2
    clear hno hf hg
    go_enter Tryd.func3, Tryd.ntmps3
    go_wp2_with fail
    refine HF1.mono ?_
    rintro e w0 ⟨rfl, he0⟩
    obtain rfl := he0.symm
    go_wp2_with fail
    refine HF2.mono ?_
    rintro e w00 ⟨rfl, he0⟩
    obtain rfl := he0.symm
    clear HF1 HF2 HF3
    go_wp2_with (refine HAw.out.mono ?_; rintro e w1 ⟨rfl, hb1⟩)
    go_ret
    exact ⟨rfl, hb1⟩
  rw [hg] at HF2
  cases hk : fewA t
  · rw [hk] at HF3
    clear hno hf hg hk
    go_enter Tryd.func3, Tryd.ntmps3
    go_wp2_with fail
    refine HF1.mono ?_
    rintro e w0 ⟨rfl, he0⟩
    obtain rfl := he0.symm
    go_wp2_with fail
    refine HF2.mono ?_
    rintro e w00 ⟨rfl, he0⟩
    obtain rfl := he0.symm
    go_wp2_with fail
    refine HF3.mono ?_
    rintro e w000 ⟨rfl, he0⟩
    obtain rfl := he0.symm
    clear HF1 HF2 HF3
    go_wp2_with (refine HAw.out.mono ?_; rintro e w1 ⟨rfl, hb1⟩)
    go_ret
    exact ⟨rfl, hb1⟩
  · exact absurd ⟨hf, hg, hk⟩ hno
theorem schemaInherits_walk (v : Value) (l : List Fd) (u : Value) (a : List Fd) (x : Value) (t : List At) (w : World) (hr : IsRow w 3 v l.length (fCells l)) (hl : l.length ≤ 140737488355328) (hq : IsRow w 3 u a.length (fCells a)) (hal : a.length ≤ 140737488355328) (hx : IsRow w 4 x t.length (aCells t)) (hxl : t.length ≤ 140737488355328) (h : W4 w) :
    Calls Tryd.prog 3 #[v, u, x] w fun e w' => e = .returned (.bool true) ∧ Below w.heap.size w w' := by
  by_cases hno : fewF l = true ∧ fewF a = true ∧ fewA t = true
  · obtain ⟨hf, hg, hk⟩ := hno
    obtain ⟨n1, k1⟩ := few_namesI hf
    obtain ⟨n2, k2⟩ := few_namesI hg
    have m1 : NmF l := fun z hz => by have := n1 z hz; omega
    have m2 : NmF a := fun z hz => by have := n2 z hz; omega
    by_cases h0 : mergeE l a = 0
    · have h0' : mergeE a l = 0 := by rw [mergeE_symm]; exact h0
      by_cases h24 : 24 < l.length + a.length
      · exact inh_err v u x l a t w hr hq hx hl hal hxl h hf hg hk 2 (by decide) (errM_long hr hq (by omega) (by omega) m1 m2 h h0 h24) (errM_long hq hr (by omega) (by omega) m2 m1 h h0' (by omega))
      · obtain ⟨D, hD⟩ := mrg_ex h0
        exact inh_ok v u x l a D t w hr hq hx hl hal hxl h hf hg hk h0 (by omega) hD (okM hr hq (by omega) (by omega) m1 m2 h h0 (by omega) hD) (okM hq hr (by omega) (by omega) m2 m1 h h0' (by omega) (mrg_comm hD))
    · have e := errM_bad hq hr (by omega) (by omega) m2 m1 h (by rw [mergeE_symm]; exact h0)
      rw [mergeE_symm] at e
      exact inh_err v u x l a t w hr hq hx hl hal hxl h hf hg hk _ h0 (errM_bad hr hq (by omega) (by omega) m1 m2 h h0) e
  · exact inh_few v u x l a t w hr hq hx hl hal hxl h hno
end Go.Proofs.YtfbnlkgopncejaaDoor
