/- slices.Clone of members, view.next: walks. -/
import Derived.Test.YtpepdcbhimjddaaDoorVwD
namespace Go.Proofs.YtpepdcbhimjddaaDoor
open Go.RowKit

theorem wrapI {z : Int} (h1 : -9223372036854775808 ≤ z) (h2 : z ≤ 9223372036854775807) : IntKind.i64.wrap z = z := by
  simp only [IntKind.wrap, IntKind.signed, IntKind.bits]
  simp
  omega
theorem own_openV {w : World} {base : Nat} {e : TypeId} {sz : Nat} {v : Value} {n : Nat} {xs : List Value} (h : w.ownsRow base e sz v n xs) (hn : 0 < n) :
    ∃ g cap cur, v = .slice (some ⟨g, 0, none⟩) n cap ∧ base ≤ g ∧ w.heap[g]? = some (.cells cur e (0, 0)) ∧ n ≤ cap ∧ cap ≤ maxLen ∧ cur.size = cap * sz ∧ cur.toList.take (n * sz) = xs := by
  rcases h.2 with ⟨_, h0⟩ | h
  · omega
  · exact h
theorem enM_one : ∀ (l : List Mb), ∀ u ∈ mCells l, u.oneCell' = true := by
  intro l u hu
  obtain ⟨m, -, hm⟩ := List.mem_flatMap.1 hu
  simp [enM] at hm
  rcases hm with rfl | rfl | rfl <;> rfl
def ClPost (l : List Mb) (w : World) (e : Ending) (w' : World) : Prop := ∃ g cap, e = .returned (.slice (some ⟨g, 0, none⟩) l.length cap) ∧ w'.ownsRow w.heap.size 58 3 (.slice (some ⟨g, 0, none⟩) l.length cap) l.length (mCells l) ∧ Below w.heap.size w w'
set_option maxRecDepth 100000 in
set_option maxHeartbeats 1000000 in
theorem cloneM_any (v : Value) (l : List Mb) (w : World) (hr : IsRow w 3 v l.length (mCells l)) (h0 : 0 < l.length) (hl : l.length ≤ 1000) :
    Calls Tryd.prog 53 #[v] w fun e w' => ClPost l w e w' := by
  obtain ⟨b, off, cap, rfl, hlt, hc1, hc2, hc⟩ := hr.open h0
  obtain ⟨i0, hi0, hz0, hz1, hz2⟩ := info_parts info_mb
  have HW : Hid ((w.alloc (.cells #[] 58)).ownsRow w.heap.size 58 3 (.slice (some ⟨w.heap.size, 0, none⟩) 0 0) 0 []) := ⟨rfl, .inr ⟨w.heap.size, 0, #[], rfl, Nat.le_refl _, alloc_top w _, Nat.le_refl _, Nat.zero_le _, rfl, rfl⟩⟩
  have HC : Hid (∀ j u, (mCells l)[j]? = some u → (w.alloc (.cells #[] 58)).cell? ((⟨b, off, none⟩ : Addr).add j) = some u) := fun j u hu => by
    have : (⟨b, off, none⟩ : Addr).add j = ⟨b, off + j, none⟩ := by unfold Addr.add; split <;> simp_all
    rw [this]
    exact ((al_belowV w _).cell (p := ⟨b, off + j, none⟩) hlt).trans (hc j u hu)
  have HB : Hid (Below w.heap.size w (w.alloc (.cells #[] 58))) := al_belowV w _
  have heq : ∀ w, (binOp BinOp.eql 22 (.slice (some ⟨b, off, none⟩) l.length cap) (.slice none 0 0)).run Tryd.prog w = .ok (.bool false) w := fun w => by kernel_rfl
  clear hr hc
  go_enter Tryd.func53, Tryd.ntmps53
  go_wp2_with (at_builtin; go_loud (refine wpList_append_own (w.alloc (.cells #[] 58)) rfl (.tmp 5) (.tmp 6) 22 rfl w.heap.size 58 i0 _ 3 24 Tryd.underlying22 hi0 hz0 hz1 hz2 rfl (by decide) (.slice (some ⟨w.heap.size, 0, none⟩) 0 0) 0 [] rfl HW.out ⟨b, off, none⟩ l.length cap (mCells l) rfl (mCells_len l) HC.out (enM_one l) (by unfold maxLen; omega) (by omega) (by simp) ?_; intro v4 w4 hown4 hg4 hne4))
  rw [Nat.zero_add, List.nil_append] at hown4
  obtain ⟨g, cap', cur, hv4, hbg, -⟩ := own_openV hown4 h0
  subst hv4
  have HO : Hid (w4.ownsRow w.heap.size 58 3 (.slice (some ⟨g, 0, none⟩) l.length cap') l.length (mCells l)) := hown4
  have HB4 : Hid (Below w.heap.size w w4) := HB.out.grown hg4 HB.out.size (fun k hk => by cases hk; exact Nat.le_refl _)
  clear hown4 hg4 hne4 HC HW
  go_wp2
  go_ret
  exact ⟨g, cap', rfl, HO.out, HB4.out⟩
/-- A member is put into its place. -/
theorem row_set3 {w : World} {base : Nat} {l : List Mb} {g cap : Nat} (h : w.ownsRow base 58 3 (.slice (some ⟨g, 0, none⟩) l.length cap) l.length (mCells l)) (k : Nat) (hk : k < l.length) (m : Mb) :
    IsRow (((w.setCell ⟨g, k * 3, none⟩ (.int .i64 m.nd)).setCell ⟨g, k * 3 + 1, none⟩ (.int .i64 m.lf)).setCell ⟨g, k * 3 + 2, none⟩ (.bool m.up)) 3 (.slice (some ⟨g, 0, none⟩) (l.set k m).length cap) (l.set k m).length (mCells (l.set k m)) := by
  obtain ⟨g', cap', cur, hv, hb, hg, h1, h2, h3, h4⟩ := own_openV h (by omega)
  obtain ⟨hgg, -, rfl⟩ := Value.slice.inj hv
  obtain rfl : g = g' := by simpa using hgg
  have s1 := setCell_atV w (k * 3) hg (.int .i64 m.nd)
  have s2 := setCell_atV _ (k * 3 + 1) s1.1 (.int .i64 m.lf)
  have s3 := setCell_atV _ (k * 3 + 2) s2.1 (.bool m.up)
  have hlt := (heap_at s3.1).2.2
  refine ⟨mCells_len _, .inr ⟨g, 0, cap, rfl, hlt, by simpa using h1, h2, fun j u hu => ?_⟩⟩
  have hj : j < (l.set k m).length * 3 := by
    have := (List.getElem?_eq_some_iff.1 hu).1
    rwa [mCells_len] at this
  rw [Nat.zero_add, (heap_at s3.1).1 j]
  have hdiv : j = j / 3 * 3 + j % 3 := by omega
  have hi : j / 3 < l.length := by simp at hj; omega
  have hgt := mCells_get (l.set k m) (j / 3) (by simpa using hi) (j % 3) (by omega)
  rw [← hdiv, hu] at hgt
  have hold := mCells_get l (j / 3) hi (j % 3) (by omega)
  rw [← hdiv, ← h4, List.getElem?_take] at hold
  rw [if_pos (by omega)] at hold
  have hsz : k * 3 + 2 < cur.size := by rw [h3]; omega
  rw [List.getElem_set] at hgt
  simp only [Array.getElem?_setIfInBounds, Array.size_setIfInBounds]
  by_cases hk2 : k = j / 3
  · rw [if_pos hk2] at hgt
    have hr : j % 3 = 0 ∨ j % 3 = 1 ∨ j % 3 = 2 := by omega
    rcases hr with hr | hr | hr <;> rw [hr] at hgt <;> simp [enM] at hgt
    · rw [if_neg (by omega), if_neg (by omega), if_pos (by omega), if_pos (by omega), hgt]
    · rw [if_neg (by omega), if_pos (by omega), if_pos (by omega), hgt]
    · rw [if_pos (by omega), if_pos (by omega), hgt]
  · rw [if_neg hk2] at hgt
    rw [if_neg (by omega), if_neg (by omega), if_neg (by omega)]
    rw [hgt, ← hold]
    simp
set_option maxRecDepth 100000 in
set_option maxHeartbeats 2000000 in
theorem next_any (ep : Int) (v : Value) (l : List Mb) (k : Nat) (m : Mb) (w : World) (hr : IsRow w 3 v l.length (mCells l)) (hk : k < l.length) (hl : l.length ≤ 1000) (he1 : 1 ≤ ep) (he2 : ep ≤ 1099511627775) :
    Calls Tryd.prog 39 #[vwV ep v, .int .i64 (k : Int), .agg #[.int .i64 m.nd, .int .i64 m.lf, .bool m.up]] w fun e w' => VwPost (if ep = 1099511627775 then 0 else ep + 1) (if ep = 1099511627775 then [] else l.set k m) (if ep = 1099511627775 then 13 else 0) w e w' := by
  obtain ⟨a0, cap0, rfl⟩ := hr.form
  obtain ⟨mn, ml, mu⟩ := m
  dsimp only
  have b1 : Below w.heap.size w (w.alloc (.cells #[.int .i64 ep, .slice a0 l.length cap0] 24)) := al_belowV w _
  have b2 : Below w.heap.size w ((w.alloc (.cells #[.int .i64 ep, .slice a0 l.length cap0] 24)).alloc (.cells #[.int .i64 mn, .int .i64 ml, .bool mu] 58)) := b1.alloc b1.size _
  have HB3 : Hid (Below w.heap.size w (((w.alloc (.cells #[.int .i64 ep, .slice a0 l.length cap0] 24)).alloc (.cells #[.int .i64 mn, .int .i64 ml, .bool mu] 58)).alloc (.cells #[.int .i64 0, .slice none 0 0] 24))) := b2.alloc b2.size _
  by_cases he : ep = 1099511627775
  · rw [if_pos he, if_pos he, if_pos he]
    have nb : (ep == 1099511627775) = true := by simpa using he
    clear hr b1 b2 he he1 he2
    go_enter Tryd.func39, Tryd.ntmps39
    go_wp2
    refine bodyPost_ret (v := .tuple #[vwV 0 (.slice none 0 0), .int .i64 13]) ?_ rfl (VwPost.none 13 HB3.out)
    rw [results_csV rfl]; go_simp
  · rw [if_neg he, if_neg he, if_neg he]
    have nb : (ep == 1099511627775) = false := by simpa using he
    have we : IntKind.i64.wrap (ep + 1) = ep + 1 := wrapI (by omega) (by omega)
    have HX : Hid (∀ W, Below w.heap.size w W → Calls Tryd.prog 53 #[.slice a0 l.length cap0] W fun e w' => ClPost l W e w') := fun W h => cloneM_any _ l W (hr.below h) (by omega) hl
    have i1 : (0 : Int) ≤ (k : Int) := by omega
    have i2 : (k : Int) < (l.length : Int) := by omega
    clear hr b1 b2 he he1 he2
    go_enter Tryd.func39, Tryd.ntmps39
    go_wp2_with fail
    refine (HX.out _ HB3.out).mono ?_
    rintro e w1 ⟨g, cap, rfl, hown, hb1⟩
    have hH0 : w1.heap[w.heap.size]? = some (.cells #[.int .i64 ep, .slice a0 l.length cap0] 24 (0, 0)) := by
      rw [hb1.block _ (by first | (simp; done) | (simp; omega)), alloc_old _ _ (by first | (simp; done) | (simp; omega)), alloc_old _ _ (by simp), alloc_top]
    have hH1 : w1.heap[w.heap.size + 1]? = some (.cells #[.int .i64 mn, .int .i64 ml, .bool mu] 58 (0, 0)) := by
      rw [hb1.block _ (by first | (simp; done) | (simp; omega)), alloc_old _ _ (by first | (simp; done) | (simp; omega))]
      have := alloc_top (w.alloc (.cells #[.int .i64 ep, .slice a0 l.length cap0] 24)) (.cells #[.int .i64 mn, .int .i64 ml, .bool mu] 58)
      simpa using this
    have hH2 : w1.heap[w.heap.size + 1 + 1]? = some (.cells #[.int .i64 0, .slice none 0 0] 24 (0, 0)) := by
      rw [hb1.block _ (by simp)]
      have := alloc_top ((w.alloc (.cells #[.int .i64 ep, .slice a0 l.length cap0] 24)).alloc (.cells #[.int .i64 mn, .int .i64 ml, .bool mu] 58)) (.cells #[.int .i64 0, .slice none 0 0] 24)
      simpa using this
    have hgb : w.heap.size + 3 ≤ g := by
      obtain ⟨g', cap', cur, hv, hb, -⟩ := own_openV hown (by omega)
      obtain ⟨hgg, -, -⟩ := Value.slice.inj hv
      simp at hgg
      subst hgg
      simp at hb
      omega
    have HO : Hid (w1.ownsRow w.heap.size 58 3 (.slice (some ⟨g, 0, none⟩) l.length cap) l.length (mCells l)) := by
      refine ⟨hown.1, ?_⟩
      rcases hown.2 with h | ⟨g', c', cur, h1, h2, h3⟩
      · exact .inl h
      · exact .inr ⟨g', c', cur, h1, by have := HB3.out.size; omega, h3⟩
    have HB1 : Hid (Below w.heap.size w w1) := HB3.out.trans (hb1.mono HB3.out.size)
    obtain ⟨g', cap', cur, hv, hgb', hgc, hlc, hcm, hcs, hct⟩ := own_openV HO.out (by omega)
    obtain ⟨hgg, -, rfl⟩ := Value.slice.inj hv
    simp at hgg
    subst hgg
    have ccs : k * 3 + 2 < cur.size := by rw [hcs]; omega
    have t0 := (heap_at hH0).1 0; have t1 := (heap_at hH1).1 0; have t2 := (heap_at hH1).1 1; have t3 := (heap_at hH1).1 2
    simp only [List.getElem?_toArray, List.getElem?_cons_zero, List.getElem?_cons_succ] at t0 t1 t2 t3
    have gf : ∀ j, w1.frozen? ⟨g, j, none⟩ = false := (heap_at hgc).2.1
    have g0 : w1.cell? ⟨g, k * 3, none⟩ = some (cur[k * 3]'(by omega)) := by rw [(heap_at hgc).1]; exact Array.getElem?_eq_getElem (by omega)
    have g1 : w1.cell? ⟨g, k * 3 + 1, none⟩ = some (cur[k * 3 + 1]'(by omega)) := by rw [(heap_at hgc).1]; exact Array.getElem?_eq_getElem (by omega)
    have g2 : w1.cell? ⟨g, k * 3 + 2, none⟩ = some (cur[k * 3 + 2]'(by omega)) := by rw [(heap_at hgc).1]; exact Array.getElem?_eq_getElem (by omega)
    have HRow : Hid _ := row_set3 HO.out k hk ⟨mn, ml, mu⟩
    have s1 := setCell_atV w1 (k * 3) hgc (.int .i64 mn)
    have s2 := setCell_atV _ (k * 3 + 1) s1.1 (.int .i64 ml)
    have s3 := setCell_atV _ (k * 3 + 2) s2.1 (.bool mu)
    have HH0 : Hid ((((w1.setCell ⟨g, k * 3, none⟩ (.int .i64 mn)).setCell ⟨g, k * 3 + 1, none⟩ (.int .i64 ml)).setCell ⟨g, k * 3 + 2, none⟩ (.bool mu)).heap[w.heap.size]? = _) := (s3.2 _ (by omega)).trans ((s2.2 _ (by omega)).trans ((s1.2 _ (by omega)).trans hH0))
    have HH2 : Hid ((((w1.setCell ⟨g, k * 3, none⟩ (.int .i64 mn)).setCell ⟨g, k * 3 + 1, none⟩ (.int .i64 ml)).setCell ⟨g, k * 3 + 2, none⟩ (.bool mu)).heap[w.heap.size + 1 + 1]? = _) := (s3.2 _ (by omega)).trans ((s2.2 _ (by omega)).trans ((s1.2 _ (by omega)).trans hH2))
    have HB2 : Hid (Below w.heap.size w (((w1.setCell ⟨g, k * 3, none⟩ (.int .i64 mn)).setCell ⟨g, k * 3 + 1, none⟩ (.int .i64 ml)).setCell ⟨g, k * 3 + 2, none⟩ (.bool mu))) := ((HB1.out.setCell (p := ⟨g, k * 3, none⟩) (by omega) _).setCell (p := ⟨g, k * 3 + 1, none⟩) (by omega) _).setCell (p := ⟨g, k * 3 + 2, none⟩) (by omega) _
    clear hb1 s1 s2 s3 hown HO HX hv hct hgc hH0 hH1 hH2 HB1 HB3
    go_upto_region 5 with fail
    generalize ((w1.setCell ⟨g, k * 3, none⟩ (.int .i64 mn)).setCell ⟨g, k * 3 + 1, none⟩ (.int .i64 ml)).setCell ⟨g, k * 3 + 2, none⟩ (.bool mu) = W2 at *
    clear t0 t1 t2 t3 gf g0 g1 g2
    have t0 := (heap_at HH0.out).1 0; have t1 := (heap_at HH2.out).1 0; have t2 := (heap_at HH2.out).1 1; have u0 := (heap_at HH2.out).2.1 0; have u1 := (heap_at HH2.out).2.1 1
    simp only [List.getElem?_toArray, List.getElem?_cons_zero, List.getElem?_cons_succ] at t0 t1 t2
    have HF : Hid (∀ x y, IsRow ((W2.setCell ⟨w.heap.size + 1 + 1, 0, none⟩ x).setCell ⟨w.heap.size + 1 + 1, 1, none⟩ y) 3 (.slice (some ⟨g, 0, none⟩) l.length cap) (l.set k ⟨mn, ml, mu⟩).length (mCells (l.set k ⟨mn, ml, mu⟩)) ∧ Below w.heap.size w ((W2.setCell ⟨w.heap.size + 1 + 1, 0, none⟩ x).setCell ⟨w.heap.size + 1 + 1, 1, none⟩ y)) := fun x y => by
      have s1 := setCell_atV W2 0 HH2.out x
      have s2 := setCell_atV _ 1 s1.1 y
      refine ⟨?_, (HB2.out.setCell (p := ⟨w.heap.size + 1 + 1, 0, none⟩) (by show w.heap.size ≤ w.heap.size + 1 + 1; omega) _).setCell (p := ⟨w.heap.size + 1 + 1, 1, none⟩) (by show w.heap.size ≤ w.heap.size + 1 + 1; omega) _⟩
      have hrow := HRow.out
      rw [show (l.set k ⟨mn, ml, mu⟩).length = l.length by simp] at hrow ⊢
      obtain ⟨b', off', cap', hv', hlt', hc1', hc2', hc'⟩ := IsRow.open hrow (by omega)
      obtain ⟨hgg, -, rfl⟩ := Value.slice.inj hv'
      simp at hgg
      obtain ⟨rfl, rfl⟩ := hgg
      refine ⟨hrow.1, .inr ⟨g, 0, cap, rfl, by simpa using hlt', hc1', hc2', fun j u hu => ?_⟩⟩
      rw [World.cell?_setCell_other _ _ _ _ (by first | (simp; done) | (simp; omega)), World.cell?_setCell_other _ _ _ _ (by first | (simp; done) | (simp; omega))]
      exact hc' j u hu
    have HNw : Hid (NewB w.heap.size (.slice (some ⟨g, 0, none⟩) l.length cap)) := fun a n c hv => by
      obtain ⟨ha, -, -⟩ := Value.slice.inj hv
      simp at ha
      rw [← ha]
      show w.heap.size ≤ g
      omega
    clear HRow
    go_wp2
    refine bodyPost_ret (v := .tuple #[vwV (ep + 1) (.slice (some ⟨g, 0, none⟩) l.length cap), .int .i64 0]) ?_ rfl ⟨_, rfl, (HF.out _ _).1, HNw.out, (HF.out _ _).2⟩
    rw [results_csV rfl]; go_simp
end Go.Proofs.YtpepdcbhimjddaaDoor
