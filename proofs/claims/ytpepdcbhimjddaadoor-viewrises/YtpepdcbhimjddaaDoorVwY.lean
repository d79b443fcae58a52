/- slices.Index, Contains of members; view.Gone: walks. -/
import Derived.Test.YtpepdcbhimjddaaDoorVwS
import Derived.Test.YtpepdcbhimjddaaDoorVwJ
namespace Go.Proofs.YtpepdcbhimjddaaDoor
open Go.RowKit Go.Shelf

theorem eq_mb (m x : Mb) (w : World) : (binOp BinOp.eql 58 (.agg #[.int .i64 m.nd, .int .i64 m.lf, .bool m.up]) (.agg #[.int .i64 x.nd, .int .i64 x.lf, .bool x.up])).run Tryd.prog w = .ok (.bool (decide (m = x))) w := by
  obtain ⟨a, b, c⟩ := m
  obtain ⟨d, e, f⟩ := x
  dsimp only
  go_simp
  split
  · split
    · split <;> simp_all
    · simp_all
  · simp_all
theorem drewN_Y {B : Nat} {a w : World} (h : Below B a w) (n : Nat) : Below B a (w.drewN n) := ⟨h.os, h.tape, h.output, h.size, h.block⟩
theorem three_V {w : World} {b : Nat} {x y z : Value} {t : TypeId} (h : w.heap[b]? = some (.cells #[x, y, z] t (0, 0))) : w.cell? ⟨b, 0, none⟩ = some x ∧ w.cell? ⟨b, 1, none⟩ = some y ∧ w.cell? ⟨b, 2, none⟩ = some z := ⟨(heap_at h).1 0, (heap_at h).1 1, (heap_at h).1 2⟩
set_option maxRecDepth 100000 in
set_option maxHeartbeats 2000000 in
theorem indexE_any (v : Value) (l : List Mb) (m : Mb) (w : World) (hr : IsRow w 3 v l.length (mCells l)) (hl : l.length ≤ 1000) :
    Calls Tryd.prog 61 #[v, .agg #[.int .i64 m.nd, .int .i64 m.lf, .bool m.up]] w fun e w' => ∃ X, e = .returned (.int .i64 X) ∧ decide (0 ≤ X) = decide (m ∈ l) ∧ Below w.heap.size w w' := by
  obtain ⟨a0, cap0, rfl⟩ := hr.form
  have HR : Hid (∀ w', Below w.heap.size w w' → IsRow w' 3 (.slice a0 l.length cap0) l.length (mCells l)) := fun w' h => hr.below h
  have HB0 : Hid (Below w.heap.size w (w.alloc (.cells #[.int .i64 m.nd, .int .i64 m.lf, .bool m.up] 58))) := al_belowV w _
  have HH0 : Hid ((w.alloc (.cells #[.int .i64 m.nd, .int .i64 m.lf, .bool m.up] 58)).heap[w.heap.size]? = some (.cells #[.int .i64 m.nd, .int .i64 m.lf, .bool m.up] 58 (0, 0))) := alloc_top w _
  have HEq : Hid (∀ x w, (binOp BinOp.eql 58 (.agg #[.int .i64 m.nd, .int .i64 m.lf, .bool m.up]) (.agg #[.int .i64 x.nd, .int .i64 x.lf, .bool x.up])).run Tryd.prog w = .ok (.bool (decide (m = x))) w) := eq_mb m
  clear hr
  go_enter Tryd.func61, Tryd.ntmps61
  go_wp2_with fail
  go_loopw [4, 5, 8] (fun r q i wr => r = .int .i64 0 ∧ q = q ∧ ∃ k : Nat, k ≤ l.length ∧ i = .int .i64 (k : Int) ∧ Hid (m ∉ l.take k) ∧ Hid (wr.heap[w.heap.size]? = some (.cells #[.int .i64 m.nd, .int .i64 m.lf, .bool m.up] 58 (0, 0))) ∧ Hid (Below w.heap.size w wr)) (fun _ _ i _ => l.length - (intOf i).toNat)
  case atStart => exact ⟨rfl, rfl, 0, Nat.zero_le _, rfl, by show _ ∉ _; simp, HH0, HB0⟩
  case round =>
    clear HH0 HB0
    obtain ⟨rfl, -, k, hk, rfl, HA, HH, HB⟩ := hrel
    obtain ⟨z0, z1, z2⟩ := three_V HH.out
    by_cases hlk : k < l.length
    · have dk : decide ((k : Int) < l.length) = true := by simp; omega
      obtain ⟨b, off, cap, hvv, hlt, hc1, hc2, c0, c1, c2⟩ := mb_at (HR.out _ HB.out) hlk
      obtain ⟨rfl, -, rfl⟩ := Value.slice.inj hvv
      have i1 : (0 : Int) ≤ (k : Int) := by omega
      have i2 : (k : Int) < (l.length : Int) := by omega
      have hq := HEq.out l[k]
      have HA2 : Hid (¬ m = l[k] → m ∉ l.take (k + 1)) := fun h hm => by
        rw [List.take_succ_eq_append_getElem hlk] at hm
        rcases List.mem_append.1 hm with h2 | h2
        · exact HA.out h2
        · simp at h2; exact h h2
      have HI : Hid (m = l[k] → m ∈ l) := fun h => by rw [h]; exact List.getElem_mem hlk
      generalize l[k]'hlk = x at *
      clear hvv HR HA
      by_cases he : m = x
      · have hin := HI.out he
        have HD : Hid (decide ((0 : Int) ≤ (k : Int)) = decide (m ∈ l)) := by show _ = _; rw [decide_eq_true hin]; simp
        rw [decide_eq_true he] at hq
        clear HI HA2 hin he HEq
        go_wp2_with fail
        go_quiet (fail)
        go_wp2
        go_ret
        exact ⟨_, rfl, HD.out, drewN_Y HB.out _⟩
      · have HA3 : Hid (m ∉ l.take (k + 1)) := HA2.out he
        rw [decide_eq_false he] at hq
        clear HI HA2 he HEq
        go_wp2_with fail
        go_quiet (fail)
        go_wp2
        go_roundw
        case rel => exact ⟨rfl, trivial, k + 1, by omega, by simp, HA3, HH, drewN_Y HB.out _⟩
        case measure => simp [intOf]; omega
    · have hk' : k = l.length := by omega
      subst hk'
      have dk : decide ((l.length : Int) < l.length) = false := by simp
      have HD : Hid (decide ((0 : Int) ≤ -1) = decide (m ∈ l)) := by
        show _ = _
        have h := HA.out
        rw [List.take_of_length_le (Nat.le_refl _)] at h
        rw [decide_eq_false h]
        decide
      clear HA HR HEq
      go_wp2
      go_ret
      exact ⟨_, rfl, HD.out, HB.out⟩
set_option maxRecDepth 100000 in
theorem containsE_any (v : Value) (l : List Mb) (m : Mb) (w : World) (hr : IsRow w 3 v l.length (mCells l)) (hl : l.length ≤ 1000) :
    Calls Tryd.prog 45 #[v, .agg #[.int .i64 m.nd, .int .i64 m.lf, .bool m.up]] w fun e w' => e = .returned (.bool (decide (m ∈ l))) ∧ Below w.heap.size w w' := by
  have HB0 : Hid (Below w.heap.size w (w.alloc (.cells #[.int .i64 m.nd, .int .i64 m.lf, .bool m.up] 58))) := al_belowV w _
  have HX : Hid (Calls Tryd.prog 61 #[v, .agg #[.int .i64 m.nd, .int .i64 m.lf, .bool m.up]] (w.alloc (.cells #[.int .i64 m.nd, .int .i64 m.lf, .bool m.up] 58)) fun e w' => ∃ X, e = .returned (.int .i64 X) ∧ decide (0 ≤ X) = decide (m ∈ l) ∧ Below (w.alloc (.cells #[.int .i64 m.nd, .int .i64 m.lf, .bool m.up] 58)).heap.size (w.alloc (.cells #[.int .i64 m.nd, .int .i64 m.lf, .bool m.up] 58)) w') := indexE_any v l m _ (hr.below HB0.out) hl
  clear hr
  generalize decide (m ∈ l) = D at *
  go_enter Tryd.func45, Tryd.ntmps45
  go_wp2_with fail
  refine HX.out.mono ?_
  rintro e w1 ⟨X, rfl, hX, hb1⟩
  have HB1 : Hid (Below w.heap.size w w1) := HB0.out.trans (hb1.mono HB0.out.size)
  clear hb1 HX
  cases D
  · go_wp2
    go_ret
    exact ⟨rfl, HB1.out⟩
  · go_wp2
    go_ret
    exact ⟨rfl, HB1.out⟩
theorem rowne_Y {W : World} {base : Nat} {e : TypeId} {size k : Nat} {v : Value} {xs : List Value} (hr : W.ownsRow base e size v k xs) {B : Nat} {C : Array Value} {t : TypeId} (hB : W.heap[B]? = some (.cells C t (0, 0))) (hte : t ≠ e) : some B ≠ v.ownBlock := by
  rcases hr.2 with ⟨rfl, _⟩ | ⟨g, cap, cur, rfl, _, hgb, _⟩
  · simp [Value.ownBlock]
  · intro e'
    obtain rfl : B = g := by simpa [Value.ownBlock] using e'
    have := hB.symm.trans hgb
    simp at this
    exact hte this.2
attribute [local go_sem] Oper.semAt_some
/-- Who of those that are up is not there. -/
def gnP (b : List Mb) (pre : List Mb) : List Int := (pre.filter fun m => !decide (m ∈ b)).map Mb.nd
theorem gnP_snoc (b pre : List Mb) (x : Mb) : gnP b (pre ++ [x]) = gnP b pre ++ (if x ∈ b then [] else [x.nd]) := by
  unfold gnP
  rw [List.filter_append, List.map_append]
  congr 1
  by_cases h : x ∈ b <;> simp [h]
theorem gnP_len (b pre : List Mb) : (gnP b pre).length ≤ pre.length := by
  unfold gnP
  rw [List.length_map]
  exact List.length_filter_le _ _
theorem gnL_of {ea : Int} {a : List Mb} {eb : Int} {b : List Mb} (hb : vB eb b = true) : gnL ea a eb b = gnP b (upM ea a) := by
  unfold gnL gnP upM
  rw [hb]
  by_cases h : vB ea a = true
  · rw [if_pos ⟨h, rfl⟩, if_pos h, List.filter_filter]
    congr 1
    congr 1
    funext m
    rw [Bool.and_comm]
  · rw [if_neg (fun e => h e.1), if_neg h]
    rfl
theorem gnL_no {ea : Int} {a : List Mb} {eb : Int} {b : List Mb} (hb : vB eb b = false) : gnL ea a eb b = [] := by
  unfold gnL
  rw [if_neg (fun e => by rw [hb] at e; cases e.2)]
set_option maxRecDepth 100000 in
set_option maxHeartbeats 4000000 in
theorem gone_any (ea : Int) (va : Value) (la : List Mb) (eb : Int) (vb : Value) (lb : List Mb) (w : World) (hra : IsRow w 3 va la.length (mCells la)) (hrb : IsRow w 3 vb lb.length (mCells lb)) (hla : la.length ≤ 1000) (hlb : lb.length ≤ 1000) :
    Calls Tryd.prog 30 #[vwV ea va, vwV eb vb] w fun e w' => LvPost (gnL ea la eb lb) w e w' := by
  obtain ⟨a1, c1, rfl⟩ := hra.form
  obtain ⟨a2, c2, rfl⟩ := hrb.form
  obtain ⟨i0, hi, hz0, hz1, hz2⟩ := info_parts info_inV
  have b1 : Below w.heap.size w (w.alloc (.cells #[.int .i64 ea, .slice a1 la.length c1] 24)) := al_belowV w _
  have b2 := b1.alloc b1.size (.cells #[.int .i64 eb, .slice a2 lb.length c2] 24)
  have b3 := b2.alloc b2.size (.cells #[.slice none 0 0] 25)
  have k1 : ((((w.alloc (.cells #[.int .i64 ea, .slice a1 la.length c1] 24)).alloc (.cells #[.int .i64 eb, .slice a2 lb.length c2] 24)).alloc (.cells #[.slice none 0 0] 25))).heap[w.heap.size]? = some (.cells #[.int .i64 ea, .slice a1 la.length c1] 24 (0, 0)) := by
    rw [alloc_old _ _ (by simp; omega), alloc_old _ _ (by simp), alloc_top]
  have k2 : ((((w.alloc (.cells #[.int .i64 ea, .slice a1 la.length c1] 24)).alloc (.cells #[.int .i64 eb, .slice a2 lb.length c2] 24)).alloc (.cells #[.slice none 0 0] 25))).heap[w.heap.size + 1]? = some (.cells #[.int .i64 eb, .slice a2 lb.length c2] 24 (0, 0)) := by
    rw [alloc_old _ _ (by simp)]
    have := alloc_top (w.alloc (.cells #[.int .i64 ea, .slice a1 la.length c1] 24)) (.cells #[.int .i64 eb, .slice a2 lb.length c2] 24)
    simpa using this
  have k3 : Boxed ((((w.alloc (.cells #[.int .i64 ea, .slice a1 la.length c1] 24)).alloc (.cells #[.int .i64 eb, .slice a2 lb.length c2] 24)).alloc (.cells #[.slice none 0 0] 25))) (w.heap.size + 1 + 1) 25 (.slice none 0 0) := by
    have := Boxed.new ((w.alloc (.cells #[.int .i64 ea, .slice a1 la.length c1] 24)).alloc (.cells #[.int .i64 eb, .slice a2 lb.length c2] 24)) 25 (.slice none 0 0)
    rw [World.size_alloc, World.size_alloc] at this
    exact this
  have HC : Hid (Calls Tryd.prog 14 #[.agg #[.int .i64 eb, .slice a2 lb.length c2]] (((w.alloc (.cells #[.int .i64 ea, .slice a1 la.length c1] 24)).alloc (.cells #[.int .i64 eb, .slice a2 lb.length c2] 24)).alloc (.cells #[.slice none 0 0] 25)) fun e w' => e = .returned (.bool (vB eb lb)) ∧ Below (((w.alloc (.cells #[.int .i64 ea, .slice a1 la.length c1] 24)).alloc (.cells #[.int .i64 eb, .slice a2 lb.length c2] 24)).alloc (.cells #[.slice none 0 0] 25)).heap.size (((w.alloc (.cells #[.int .i64 ea, .slice a1 la.length c1] 24)).alloc (.cells #[.int .i64 eb, .slice a2 lb.length c2] 24)).alloc (.cells #[.slice none 0 0] 25)) w') := check_any eb _ lb _ (hrb.below b3) (by omega)
  refine (callsIn_wide (n := 3)).1 ?_
  refine callsIn_of_wp_marks Tryd.func30 rfl trivial ?_ rfl
  simp only [Tryd.ntmps30, List.size_toArray, List.length_cons, List.length_nil, Nat.reduceAdd, Nat.reduceSub, Array.replicate_succ, Array.replicate_zero, List.push_toArray, List.append_toArray, List.nil_append, List.cons_append]
  gi_wp2_with fail
  refine ⟨trivial, (callsIn_wide.2 HC.out).mono ?_⟩
  rintro e w1 ⟨rfl, hb1⟩
  have hB1 : Below w.heap.size w w1 := b3.trans (hb1.mono b3.size)
  have g1 := (hb1.block _ (heap_at k1).2.2).trans k1
  have g2 := (hb1.block _ (heap_at k2).2.2).trans k2
  have g3 : Boxed w1 (w.heap.size + 1 + 1) 25 (.slice none 0 0) := (hb1.block _ k3.lt).trans k3
  obtain ⟨p0, p1, -, -⟩ := two_V g1
  obtain ⟨q0, q1, -, -⟩ := two_V g2
  have r0 := g3.cell
  have r1 := g3.frozen
  have hg3 := g3.lt
  clear b1 b2 b3 k1 k2 k3 HC hb1
  cases hvb : vB eb lb
  · have HE : gnL ea la eb lb = [] := gnL_no hvb
    gi_wp2
    have hc5 := (g3.set (.slice none 0 0)).cell
    refine ⟨.slice none 0 0, ?_, ?_⟩
    rotate_left
    · rw [HE]
      exact ⟨_, rfl, IsRow.nil _ _, NewB.nil _, hB1.setCell (p := ⟨w.heap.size + 1 + 1, 0, none⟩) (by show w.heap.size ≤ w.heap.size + 1 + 1; omega) _⟩
    · simp [results, Tryd.f30, go_sem, hc5]
  have HE : Hid (gnL ea la eb lb = gnP lb (upM ea la)) := gnL_of hvb
  clear hvb
  gi_wp2_with fail
  refine ⟨trivial, (callsIn_wide.2 (up_fn _ _ _)).mono ?_⟩
  rintro e w' ⟨rfl, rfl⟩
  have hB0 : Below w.heap.size w (w1.alloc (.cells #[.int .i64 ea, .slice a1 la.length c1] 24)) := hB1.alloc hB1.size _
  have hs1 := hB1.size
  have hRb : ∀ W, Below w.heap.size w W → IsRow W 3 (.slice a2 lb.length c2) lb.length (mCells lb) := fun W h => hrb.below h
  gi_wp2_with fail
  refine wpIn_rangeFunc_ownH rfl (by omega) (gf := 50) (lb := #[.pointer (some ⟨w1.heap.size, 0, none⟩)]) rfl trivial (enters_of Tryd.func50 (by kernel_rfl) rfl)
    (upS_stops ea _ la w _ hra (by omega) hB0 w1.heap.size (by simp) (alloc_top _ _) 2) belowK_t (belowK_b (by simp; omega)) (Below.refl _ _) (fun _ => rfl)
    (fun pre W => (∃ v, Boxed W (w.heap.size + 1 + 1) 25 v ∧ W.ownsRow w.heap.size 3 1 v (gnP lb pre).length (iCells (gnP lb pre)) ∧ True) ∧ W.heap[w.heap.size + 1]? = some (.cells #[.int .i64 eb, .slice a2 lb.length c2] 24 (0, 0)) ∧ Below w.heap.size w W)
    (fun _ _ _ => False)
    (OwnFrom.and (Own.from (holdsRow_own w.heap.size (w.heap.size + 1 + 1) 25 3 1 (fun pre => (gnP lb pre).length) (fun pre => iCells (gnP lb pre)) (fun _ _ => True)) _) (OwnFrom.and (Own.from (fun s X Y row h hg hrow => row_own () X Y row h hg hrow) _) (ownFrom_below (Nat.le_refl _) (by simp; omega))))
    (fun _ _ _ _ _ hs _ _ => hs)
    ⟨⟨_, g3.alloc _, World.ownsRow_nil _ _ _ _, trivial⟩, (alloc_old _ _ (heap_at g2).2.2).trans g2, hB0⟩
    (fun x a' W => ∃ Bx, w.heap.size + 1 + 1 < Bx ∧ W.heap[Bx]? = some (.cells #[.int .i64 x.nd, .int .i64 x.lf, .bool x.up] 58 (0, 0)) ∧ a' = { tmps := #[vwV ea (.slice a1 la.length c1), vwV eb (.slice a2 lb.length c2), .pointer (some ⟨w.heap.size, 0, none⟩), .pointer (some ⟨w.heap.size + 1, 0, none⟩), .pointer (some ⟨w.heap.size + 1 + 1, 0, none⟩), .pointer (some ⟨Bx, 0, none⟩), vwV eb (.slice a2 lb.length c2), .bool true, .bool false, vwV ea (.slice a1 la.length c1), .func (.func 50) #[] #[.pointer (some ⟨w1.heap.size, 0, none⟩)], mbV x, undef, undef, undef, undef, undef, undef, undef, undef, undef, undef, undef], defers := [] })
    (fun x a' => Own.from (fun s X Y row h hg hrow => by
      obtain ⟨Bx, h1, h2, h3⟩ := h
      exact ⟨Bx, h1, row_own () X Y row h2 hg hrow, h3⟩) _) ?assign ?body ?done ?stop
  case assign =>
    rintro ll pre x W K ⟨⟨vv, hv, hrow, -⟩, hH, hB⟩ hK
    gi_wp2
    exact hK _ _ ((KeepsOthers.alloc _ _).from _) ((Below.refl _ W).alloc hB.size _) ⟨⟨vv, hv.alloc _, hrow.alloc _, trivial⟩, (alloc_old _ _ (heap_at hH).2.2).trans hH, hB.alloc hB.size _⟩ ⟨W.heap.size, hv.lt, alloc_top _ _, rfl⟩
  case body =>
    rintro ll pre x a' W hlw ⟨r, hrr⟩ ⟨⟨vv, hv, hrow, -⟩, hH, hB⟩ ⟨Bx, hBx, bX, rfl⟩ hlt
    obtain ⟨y0, y1, -, -⟩ := two_V hH
    obtain ⟨x0, x1, x2⟩ := three_V bX
    have hCt := containsE_any _ lb x W (hRb W hB) hlb
    have hgl := gnP_len lb pre
    have hsn := gnP_snoc lb pre x
    gi_wp2_with fail
    refine ⟨trivial, (CallsIn.inRound ll (callsIn_wide.2 hCt)).mono ?_⟩
    rintro e w2 ⟨rfl, hb2⟩
    have hv2 : Boxed w2 (w.heap.size + 1 + 1) 25 vv := (hb2.block _ hv.lt).trans hv
    have hrow2 := own_belowV hrow hb2
    have hH2 := (hb2.block _ (heap_at hH).2.2).trans hH
    have hB2 : Below w.heap.size w w2 := hB.trans (hb2.mono hB.size)
    have bX2 := (hb2.block _ (heap_at bX).2.2).trans bX
    obtain ⟨z0, z1, z2⟩ := three_V bX2
    have hc := hv2.cell
    by_cases hin : x ∈ lb
    · rw [decide_eq_true hin]
      rw [if_pos hin, List.append_nil] at hsn
      gi_wp2
      exact ⟨KeepsFrom.of_grownBy (below_grown hb2) (fun j e => by cases e), hb2.mono hB.size, ⟨vv, hv2, by rw [hsn]; exact hrow2, trivial⟩, hH2, hB2⟩
    · rw [decide_eq_false hin]
      rw [if_neg hin] at hsn
      gi_wp2_with (gi_at_builtin; refine wpListIn_append_own _ rfl _ _ 25 rfl w.heap.size 3 i0 (.int .i64 0) 1 8 Tryd.underlying25 hi hz0 hz1 hz2 rfl (by decide) _ _ _ rfl (hrow2.alloc _) ⟨w2.heap.size, 0, none⟩ 1 1 [.int .i64 x.nd] rfl rfl (cell_one_new _ _ _) (by simp [Value.oneCell']) (by unfold maxLen; omega) (by omega) (by have := hB2.size; simp; omega) ?_; intro v' w3 hown' hgrow _; obtain ⟨g', cap', rfl⟩ := ownsRow_succ hown'; obtain ⟨hv3, hv4, hr4, hk4, hb4⟩ := hv2.appended (by decide) hrow2 hB2.size (by omega) hown' hgrow; have hc3 := hv3.cell; have hf3 := hv3.frozen; have hH3 := ((hgrow.block _ (by have := (heap_at hH2).2.2; simp; omega) (rowne_Y hrow2 hH2 (by decide)))).trans ((alloc_old _ _ (heap_at hH2).2.2).trans hH2))
      refine ⟨(KeepsFrom.of_grownBy (below_grown hb2) (fun j e => by cases e)).trans (hk4.from _), (hb2.mono hB.size).trans hb4, ⟨_, hv4, ?_, trivial⟩, (Below.heap_setCell _ _ _ _ (by simp)).trans hH3, hB2.trans hb4⟩
      rw [hsn, show iCells (gnP lb pre ++ [x.nd]) = iCells (gnP lb pre) ++ [.int .i64 x.nd] from List.map_append, List.length_append]
      exact hr4
  case done =>
    rintro D ys W hD rfl ⟨⟨vv, hv, hrow, -⟩, hH, hB⟩ hK
    obtain ⟨va, vc, rfl⟩ := (IsRow.own hrow).form
    have hc := hv.cell
    have hf := hv.frozen
    gi_wp2
    have hK' := (KeepsOthers.setCell W ⟨w.heap.size + 1 + 1, 0, none⟩ (.slice va (gnP lb (upM ea la)).length vc)).same D _ hK rfl
    refine ⟨by simp, .inl ⟨_, _, rfl, run_takeDeferred hK', ?_⟩⟩
    have hv2 := hv.set (.slice va (gnP lb (upM ea la)).length vc)
    have hr2 : (W.setCell ⟨w.heap.size + 1 + 1, 0, none⟩ (.slice va (gnP lb (upM ea la)).length vc)).ownsRow w.heap.size 3 1 (.slice va (gnP lb (upM ea la)).length vc) (gnP lb (upM ea la)).length (iCells (gnP lb (upM ea la))) := hrow.kept (grownBy_setCell' W (w.heap.size + 1 + 1) _) (.inr (hv.not_row (by decide) hrow).symm)
    have hr3 := ownsRow_putObj hr2 (.deferred none) hK' rfl
    have hc5 := cell_kept hv2.cell (grownBy_putObj' _ D (.deferred none)) (fun r e => by cases e; exact ⟨_, hK', rfl⟩)
    refine ⟨.slice va (gnP lb (upM ea la)).length vc, ?_, ?_⟩
    rotate_left
    · rw [HE.out]
      exact ⟨_, rfl, IsRow.own hr3, NewB.own hrow, (hB.setCell (p := ⟨w.heap.size + 1 + 1, 0, none⟩) (by show w.heap.size ≤ w.heap.size + 1 + 1; omega) _).trans (belowK_b (w := w) (Nat.le_refl _) _ D _ _ (by simp at hD; omega) hK' rfl rfl)⟩
    · simp [results, Tryd.f30, go_sem, hc5]
  case stop =>
    rintro D c pre W _ _ h _
    exact h.elim
end Go.Proofs.YtpepdcbhimjddaaDoor
