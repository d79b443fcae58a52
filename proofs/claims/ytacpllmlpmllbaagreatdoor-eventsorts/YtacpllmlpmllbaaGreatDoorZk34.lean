/- EventSorts: its walk. -/
import Derived.Test.YtacpllmlpmllbaaGreatDoorZk31
import Derived.Test.YtacpllmlpmllbaaGreatDoorZk32
import Derived.Test.YtacpllmlpmllbaaGreatDoorZk33
import Derived.Test.YtacpllmlpmllbaaGreatDoorZk30
import Derived.Test.YtacpllmlpmllbaaGreatDoorZk29
namespace Go.Proofs.YtacpllmlpmllbaaGreatDoor
open Go.RowKit Go.ChangeMaps

/-- What is answered, of any attributes. -/
def SrtMA (l M : List At) (E : Int) : Prop := (24 < l.length ∧ M = [] ∧ E = 2) ∨ (l.length ≤ 24 ∧ (∃ x ∈ l, mayA x = false) ∧ M = [] ∧ E = 1) ∨ (l.length ≤ 24 ∧ (∀ x ∈ l, mayA x = true) ∧ ((rsrtA [] l = none ∧ M = [] ∧ E = 9) ∨ (rsrtA [] l = some M ∧ E = 0)))
theorem srtMA_uniq {l M M' : List At} {E E' : Int} (h : SrtMA l M E) (h' : SrtMA l M' E') : M' = M ∧ E' = E := by
  rcases h with ⟨a1, rfl, rfl⟩ | ⟨a1, ⟨x, hx, a2⟩, rfl, rfl⟩ | ⟨a1, a2, a3⟩ <;> rcases h' with ⟨b1, rfl, rfl⟩ | ⟨b1, ⟨y, hy, b2⟩, rfl, rfl⟩ | ⟨b1, b2, b3⟩
  · exact ⟨rfl, rfl⟩
  · omega
  · omega
  · omega
  · exact ⟨rfl, rfl⟩
  · rw [b2 x hx] at a2; cases a2
  · omega
  · rw [a2 y hy] at b2; cases b2
  · rcases a3 with ⟨r1, rfl, rfl⟩ | ⟨r1, rfl⟩ <;> rcases b3 with ⟨r2, rfl, rfl⟩ | ⟨r2, rfl⟩
    · exact ⟨rfl, rfl⟩
    · rw [r1] at r2; cases r2
    · rw [r1] at r2; cases r2
    · rw [r1] at r2; exact ⟨(Option.some.inj r2).symm, rfl⟩
def SrAA (_l M : List At) (E : Int) (w : World) (e : Ending) (w' : World) : Prop := ∃ a c, e = .returned (.tuple #[.slice a M.length c, .int .i64 E]) ∧ IsRow w' 4 (.slice a M.length c) M.length (aCells M) ∧ Below w.heap.size w w'
theorem seP_A {l : List At} {w w' : World} {e : Ending} (h : SeP l w e w') : ∃ M E, SrtMA l M E ∧ SrAA l M E w e w' := by
  rcases h.2 with ⟨h1, rfl⟩ | ⟨h1, h2, rfl⟩ | ⟨h1, h2, D, hp, hs, h3⟩
  · exact ⟨[], 2, .inl ⟨h1, rfl, rfl⟩, none, 0, rfl, IsRow.nil _ _, h.1⟩
  · exact ⟨[], 1, .inr (.inl ⟨h1, h2, rfl, rfl⟩), none, 0, rfl, IsRow.nil _ _, h.1⟩
  · have hr := srt_sameA h1 h2 hp hs
    rcases h3 with ⟨hc, rfl⟩ | ⟨hc, a, c, rfl, hrow⟩
    · rw [if_neg (by rw [hc]; decide)] at hr
      exact ⟨[], 9, .inr (.inr ⟨h1, h2, .inl ⟨hr, rfl, rfl⟩⟩), none, 0, rfl, IsRow.nil _ _, h.1⟩
    · rw [if_pos hc] at hr
      exact ⟨D, 0, .inr (.inr ⟨h1, h2, .inr ⟨hr, rfl⟩⟩), a, c, rfl, hrow, h.1⟩
theorem rsPA_A {l : List At} {w w' : World} {e : Ending} (h : RsPA l w e w') : ∃ M E, SrtMA l M E ∧ SrAA l M E w e w' := by
  rcases h.2 with ⟨h1, rfl⟩ | ⟨h1, h2, rfl⟩ | ⟨h1, h2, ⟨h3, rfl⟩ | ⟨R, a, c, h3, rfl, hrow⟩⟩
  · exact ⟨[], 2, .inl ⟨h1, rfl, rfl⟩, none, 0, rfl, IsRow.nil _ _, h.1⟩
  · exact ⟨[], 1, .inr (.inl ⟨h1, h2, rfl, rfl⟩), none, 0, rfl, IsRow.nil _ _, h.1⟩
  · exact ⟨[], 9, .inr (.inr ⟨h1, h2, .inl ⟨h3, rfl, rfl⟩⟩), none, 0, rfl, IsRow.nil _ _, h.1⟩
  · exact ⟨R, 0, .inr (.inr ⟨h1, h2, .inr ⟨h3, rfl⟩⟩), a, c, rfl, hrow, h.1⟩
theorem srtMA_len {l M : List At} {E : Int} (h : SrtMA l M E) : M.length ≤ 24 := by
  rcases h with ⟨a1, rfl, rfl⟩ | ⟨a1, a2, rfl, rfl⟩ | ⟨a1, a2, ⟨r1, rfl, rfl⟩ | ⟨r1, rfl⟩⟩
  · simp
  · simp
  · simp
  · obtain ⟨p, -⟩ := rsrtA_some l [] M List.Pairwise.nil r1
    rw [p.length_eq]
    exact a1
theorem fewA_Q {l : List At} (h : fewA l = true) : l.length ≤ 41 ∧ NmA l ∧ NmQa l ∧ ∀ x ∈ l, x.s.size ≤ 140737488355328 := by
  have h' := of_decide_eq_true h
  have hx : ∀ x ∈ l, x.n.size ≤ 200 ∧ x.s.size ≤ 500 := fun x hx => by
    obtain ⟨k, hk, rfl⟩ := List.getElem_of_mem hx
    exact (h' k hk).2
  exact ⟨(fewA_shortV h).1, (fewA_shortV h).2, fun x hx' => by have := hx x hx'; omega, fun x hx' => by have := hx x hx'; omega⟩
theorem fewF_Q {l : List Fd} (h : fewF l = true) : l.length ≤ 41 ∧ NmF l ∧ NmR l := by
  have h := of_decide_eq_true h
  refine ⟨?_, fun x hx => ?_, fun x hx => ?_⟩
  · by_cases h0 : l.length ≤ 41
    · exact h0
    · have := (h 41 (by omega)).1
      omega
  · obtain ⟨i, hi, rfl⟩ := List.mem_iff_getElem.1 hx
    have := (h i hi).2
    omega
  · obtain ⟨i, hi, rfl⟩ := List.mem_iff_getElem.1 hx
    have := (h i hi).2
    omega
set_option maxRecDepth 100000 in
set_option maxHeartbeats 8000000 in
theorem eventSorts_walk (v : Value) (l : List At) (a b c : Int) (k : ByteArray) (u : Value) (m : List At) (q : Value) (f : List Fd) (w : World) (hr : IsRow w 4 v l.length (aCells l)) (hl : l.length ≤ 140737488355328) (hq : IsRow w 4 u m.length (aCells m)) (hal : m.length ≤ 140737488355328) (hf : IsRow w 3 q f.length (fCells f)) (hfl : f.length ≤ 140737488355328) (hW : W6 w) :
    Calls Tryz.prog 4 #[v, .agg (evA a b c k u), q] w fun e w' => e = .returned (.bool true) ∧ Below w.heap.size w w' := by
  obtain ⟨al, cl, rfl⟩ := hr.form
  obtain ⟨au, cu, rfl⟩ := hq.form
  obtain ⟨af, cf, rfl⟩ := hf.form
  have HAw : Hid (∀ W, Below w.heap.size w W → Calls Tryz.prog 9 #[] W fun e w' => e = .returned (.bool true) ∧ Below W.heap.size W w') := fun W h => awake6_any W (hW.below h)
  have HF1 : Hid (∀ W, Below w.heap.size w W → Calls Tryz.prog 23 #[.slice al l.length cl] W fun e w' => e = .returned (.bool (fewA l)) ∧ w' = W) := fun W h => fewA_any _ l W (hr.below h) hl
  have HF2 : Hid (∀ W, Below w.heap.size w W → Calls Tryz.prog 8 #[.agg (evA a b c k (.slice au m.length cu))] W fun e w' => e = .returned (.bool (fewE k m)) ∧ Below W.heap.size W w') := fun W h => fewE_any a b c k _ m W (hq.below h) hal
  have HF3 : Hid (∀ W, Below w.heap.size w W → Calls Tryz.prog 24 #[.slice af f.length cf] W fun e w' => e = .returned (.bool (fewF f)) ∧ w' = W) := fun W h => fewF_any _ f W (hf.below h) hfl
  have HR : Hid (∀ W, Below w.heap.size w W → IsRow W 4 (.slice al l.length cl) l.length (aCells l) ∧ IsRow W 4 (.slice au m.length cu) m.length (aCells m) ∧ IsRow W 3 (.slice af f.length cf) f.length (fCells f) ∧ W6 W) := fun W h => ⟨hr.below h, hq.below h, hf.below h, hW.below h⟩
  clear hr hq hf hl hal hfl hW
  obtain ⟨w1, hw1⟩ : ∃ w1, w1 = w.alloc (.cells (evA a b c k (.slice au m.length cu)) 26) := ⟨_, rfl⟩
  have B1 : Hid (Below w.heap.size w w1) := by show Below _ _ _; rw [hw1]; exact al_b _ _
  have hn1 : w1.heap[w.heap.size]? = some (.cells (evA a b c k (.slice au m.length cu)) 26 (0, 0)) := by rw [hw1]; exact new_at _ _
  have C1 : Hid (∀ W, Below w1.heap.size w1 W → W.heap[w.heap.size]? = some (.cells (evA a b c k (.slice au m.length cu)) 26 (0, 0))) := fun W h => (h.block _ (Array.getElem?_eq_some_iff.1 hn1).1).trans hn1
  clear hn1
  go_enter Tryz.func4, Tryz.ntmps4
  go_wp2_with fail
  rw [← hw1]
  clear hw1
  refine (HF1.out _ B1.out).mono ?_
  rintro e wz ⟨rfl, he⟩
  obtain rfl := he.symm
  clear HF1
  cases h1 : fewA l
  · clear h1 HF2 HF3 HR
    go_wp2_with fail
    refine (HAw.out _ B1.out).mono ?_
    rintro e w2 ⟨rfl, hb⟩
    have B2 : Hid (Below w1.heap.size w1 w2) := hb
    clear hb 
    have HBz : Hid (Below w.heap.size w w2) := (bT B1.out B2.out)
    go_wp2
    go_ret
    exact ⟨rfl, HBz.out⟩
  have hk := C1.out w1 (Below.refl _ _)
  have c1_0 : w1.cell? ⟨w.heap.size, 0, none⟩ = some (.int .i64 a) := by rw [Lib.cell_of_heap hk]; rfl
  have c1_1 : w1.cell? ⟨w.heap.size, 1, none⟩ = some (.int .i64 b) := by rw [Lib.cell_of_heap hk]; rfl
  have c1_2 : w1.cell? ⟨w.heap.size, 2, none⟩ = some (.int .i64 c) := by rw [Lib.cell_of_heap hk]; rfl
  have c1_3 : w1.cell? ⟨w.heap.size, 3, none⟩ = some (.string k) := by rw [Lib.cell_of_heap hk]; rfl
  have c1_4 : w1.cell? ⟨w.heap.size, 4, none⟩ = some (.slice au m.length cu) := by rw [Lib.cell_of_heap hk]; rfl
  clear hk
  go_wp2_with fail
  clear c1_0 c1_1 c1_2 c1_3 c1_4
  refine (HF2.out _ B1.out).mono ?_
  rintro e w2 ⟨rfl, hb⟩
  have B2 : Hid (Below w1.heap.size w1 w2) := hb
  clear hb 
  clear HF2
  cases h2 : fewE k m
  · clear h1 h2 HF3 HR
    go_wp2_with fail
    refine (HAw.out _ (bT B1.out B2.out)).mono ?_
    rintro e w3 ⟨rfl, hb⟩
    have B3 : Hid (Below w2.heap.size w2 w3) := hb
    clear hb 
    have HBz : Hid (Below w.heap.size w w3) := (bT (bT B1.out B2.out) B3.out)
    go_wp2
    go_ret
    exact ⟨rfl, HBz.out⟩
  go_wp2_with fail
  refine (HF3.out _ (bT B1.out B2.out)).mono ?_
  rintro e wz ⟨rfl, he⟩
  obtain rfl := he.symm
  clear HF3
  cases h3 : fewF f
  · clear h1 h2 h3 HR
    go_wp2_with fail
    refine (HAw.out _ (bT B1.out B2.out)).mono ?_
    rintro e w3 ⟨rfl, hb⟩
    have B3 : Hid (Below w2.heap.size w2 w3) := hb
    clear hb 
    have HBz : Hid (Below w.heap.size w w3) := (bT (bT B1.out B2.out) B3.out)
    go_wp2
    go_ret
    exact ⟨rfl, HBz.out⟩
  unfold fewE at h2
  rw [Bool.and_eq_true, decide_eq_true_eq] at h2
  obtain ⟨k2, h2⟩ := h2
  obtain ⟨n1, n2, n3, n4⟩ := fewA_Q h1
  obtain ⟨m1, m2, m3, m4⟩ := fewA_Q h2
  obtain ⟨p1, p2, p3⟩ := fewF_Q h3
  have HSo : Hid (∀ W, Below w.heap.size w W → Calls Tryz.prog 25 #[.slice al l.length cl] W fun e w' => SeP l W e w') := fun W h => evSort_any _ l W (HR.out W h).1 (by omega) n2 (HR.out W h).2.2.2.t (HR.out W h).2.2.2.m
  have HAt : Hid (∀ W x (L : List At) y, IsRow W 4 (.slice x L.length y) L.length (aCells L) → L.length ≤ 1000000 → Calls Tryz.prog 27 #[.slice x L.length y] W fun e w' => ∃ a c, e = .returned (.slice a L.length c) ∧ IsRow w' 4 (.slice a L.length c) L.length (aCells L) ∧ Below W.heap.size W w') := fun W x L y h hL => (attrsO_any _ L W h hL).mono (by rintro e w' ⟨a, c, rfl, ho, hb⟩; exact ⟨a, c, rfl, IsRow.own ho, hb⟩)
  have HRs : Hid (∀ W x y, IsRow W 4 (.slice x l.length y) l.length (aCells l) → Calls Tryz.prog 26 #[.slice x l.length y] W fun e w' => RsPA l W e w') := fun W x y h => refSortA_any _ l W h (by omega) n3 n4
  have HSA : Hid (∀ W x y x' y' (L : List At), L.length ≤ 1000000 → IsRow W 4 (.slice x L.length y) L.length (aCells L) → IsRow W 4 (.slice x' L.length y') L.length (aCells L) → Calls Tryz.prog 28 #[.slice x L.length y, .slice x' L.length y'] W fun e w' => e = .returned (.bool true) ∧ Below W.heap.size W w') := fun W x y x' y' L hL h1 h2 => sameAt_any _ _ L W h1 h2 hL
  have HKp : Hid (∀ W, Below w.heap.size w W → Calls Tryz.prog 29 #[.agg (evA a b c k (.slice au m.length cu)), .slice af f.length cf] W fun e w' => KpP a b c k (keepL f m) W e w') := fun W h => keep_any a b c k _ _ m f W (HR.out W h).2.1 (HR.out W h).2.2.1 (by omega) (by omega) m2 p2 (HR.out W h).2.2.2.t
  have HRe : Hid (∀ W x (L : List At) y, L.length ≤ 1000000 → IsRow W 4 (.slice x L.length y) L.length (aCells L) → Calls Tryz.prog 10 #[.agg (evA a b c k (.slice x L.length y))] W fun e w' => ReP a b c k L W e w') := fun W x L y hL h => refE_any a b c k _ L W h hL
  have HRf : Hid (∀ W, Below w.heap.size w W → Calls Tryz.prog 31 #[.slice af f.length cf] W fun e w' => ∃ a c, e = .returned (.slice a f.length c) ∧ IsRow w' 3 (.slice a f.length c) f.length (fCells f) ∧ Below W.heap.size W w') := fun W h => (refsO_any _ f W (HR.out W h).2.2.1 (by omega)).mono (by rintro e w' ⟨a, c, rfl, ho, hb⟩; exact ⟨a, c, rfl, IsRow.own ho, hb⟩)
  have HRk : Hid (∀ W x y z t, IsRow W 4 (.slice x m.length y) m.length (aCells m) → IsRow W 3 (.slice z f.length t) f.length (fCells f) → Calls Tryz.prog 30 #[.agg (evA a b c k (.slice x m.length y)), .slice z f.length t] W fun e w' => KpP a b c k (keepL f m) W e w') := fun W x y z t h1 h2 => refKeep_any a b c k _ _ m f W h1 h2 (by omega) (by omega) m3 p3
  have HKl : Hid ((keepL f m).length ≤ 1000000 ∧ m.length ≤ 1000000 ∧ l.length ≤ 1000000) := ⟨by have := keep_len f m; omega, by omega, by omega⟩
  have HSE : Hid (∀ W x y x' y' (L : List At), L.length ≤ 1000000 → IsRow W 4 (.slice x L.length y) L.length (aCells L) → IsRow W 4 (.slice x' L.length y') L.length (aCells L) → Calls Tryz.prog 14 #[.agg (evA a b c k (.slice x L.length y)), .agg (evA a b c k (.slice x' L.length y'))] W fun e w' => e = .returned (.bool true) ∧ Below W.heap.size W w') := fun W x y x' y' L hL h1 h2 => refSameE_any a b c k _ _ L W h1 h2 hL
  have HRl : Hid (∀ W, Below w.heap.size w W → IsRow W 4 (.slice al l.length cl) l.length (aCells l) ∧ IsRow W 4 (.slice au m.length cu) m.length (aCells m)) := fun W h => ⟨(HR.out W h).1, (HR.out W h).2.1⟩
  clear h1 h2 h3 k2 n1 n2 n3 n4 m1 m2 m3 m4 p1 p2 p3 HR
  go_wp2_with fail
  refine (HSo.out _ (bT B1.out B2.out)).mono ?_
  rintro e w3 hse
  obtain ⟨M, E, hM, xa, ya, rfl, hrow, hb⟩ := seP_A hse
  have B3 : Hid (Below w2.heap.size w2 w3) := hb
  have HRM : Hid (∀ W, Below w3.heap.size w3 W → IsRow W 4 (.slice xa M.length ya) M.length (aCells M)) := fun W h => hrow.below h
  have HM : Hid (SrtMA l M E) := hM
  clear hse hM hrow hb HSo
  go_wp2_with fail
  refine (HAt.out _ _ l _ (HRl.out _ (bT (bT B1.out B2.out) B3.out)).1 HKl.out.2.2).mono ?_
  rintro e w4 ⟨xb, yb, rfl, hrow, hb⟩
  have B4 : Hid (Below w3.heap.size w3 w4) := hb
  clear hb 
  have HRb : Hid (IsRow w4 4 (.slice xb l.length yb) l.length (aCells l)) := hrow
  clear hrow
  go_wp2_with fail
  refine (HRs.out _ _ _ HRb.out).mono ?_
  rintro e w5 hse
  obtain ⟨M', E', hM, xc, yc, rfl, hrow, hb⟩ := rsPA_A hse
  obtain ⟨rfl, rfl⟩ := srtMA_uniq HM.out hM
  have B5 : Hid (Below w4.heap.size w4 w5) := hb
  have HRN : Hid (∀ W, Below w5.heap.size w5 W → IsRow W 4 (.slice xc M'.length yc) M'.length (aCells M')) := fun W h => hrow.below h
  have HMl : Hid (M'.length ≤ 1000000) := by have := srtMA_len hM; show _ ≤ _; omega
  clear hse hM hrow hb HRs HRb HM
  have hk := C1.out w5 (bT (bT (bT B2.out B3.out) B4.out) B5.out)
  have c1_0 : w5.cell? ⟨w.heap.size, 0, none⟩ = some (.int .i64 a) := by rw [Lib.cell_of_heap hk]; rfl
  have c1_1 : w5.cell? ⟨w.heap.size, 1, none⟩ = some (.int .i64 b) := by rw [Lib.cell_of_heap hk]; rfl
  have c1_2 : w5.cell? ⟨w.heap.size, 2, none⟩ = some (.int .i64 c) := by rw [Lib.cell_of_heap hk]; rfl
  have c1_3 : w5.cell? ⟨w.heap.size, 3, none⟩ = some (.string k) := by rw [Lib.cell_of_heap hk]; rfl
  have c1_4 : w5.cell? ⟨w.heap.size, 4, none⟩ = some (.slice au m.length cu) := by rw [Lib.cell_of_heap hk]; rfl
  clear hk
  go_wp2_with fail
  clear c1_0 c1_1 c1_2 c1_3 c1_4
  have HS : Hid (∀ W, Below w5.heap.size w5 W → BxV w.heap.size a b c k (.slice au m.length cu) W) := fun W h => BxV.of (C1.out W (bT (bT (bT (bT B2.out B3.out) B4.out) B5.out) h))
  have HBN : Hid (∀ W, Below w5.heap.size w5 W → Below w.heap.size w W) := fun W h => bT (bT (bT (bT (bT B1.out B2.out) B3.out) B4.out) B5.out) h
  have HRM2 : Hid (∀ W, Below w5.heap.size w5 W → IsRow W 4 (.slice xa M'.length ya) M'.length (aCells M')) := fun W h => HRM.out W (bT (bT B4.out B5.out) h)
  have Hd : Hid (Below w5.heap.size w5 w5.drew) := (Below.refl _ _).drew
  have eE : (E' == E') = true := by simp
  refine wp_region_held_drew (S := fun w' => BxV w.heap.size a b c k (.slice au m.length cu) w') (by kernel_rfl) (HS.out _ Hd.out) (fun hHeld => ?_)
  generalize w5.drew = wd at *
  refine wpAnyH_ready (rs := [0]) (by kernel_rfl) (by simp) ?_
  refine AllReadyH.cons rfl (fun K hK => ?_) AllReadyH.nil
  go_simp
  refine (HAw.out _ (HBN.out _ Hd.out)).mono ?_
  rintro e v1 ⟨rfl, hb⟩
  have D1 : Hid (Below w5.heap.size w5 v1) := bT Hd.out hb
  clear hb
  go_simp
  refine hK.out _ _ (HS.out _ D1.out) (fun hHeld => ?_)
  clear hK K
  refine wpAnyH_take (i := 1) (v := ?_) rfl (by kernel_rfl) (by kernel_rfl) (by kernel_rfl) (fun _ _ _ h => h) (Or.inl ⟨by rfl, ?_⟩) hHeld ?_
  rotate_left 1
  · intro w9 hSw; obtain ⟨⟨g0, g1, g2⟩, g3, g4⟩ := hSw; go_simp; try with_reducible rfl
  change wpAnyH _ _ _ _ _ _ _ (Act.put _ (some 37) _) _
  simp only [Act.put, List.setIfInBounds_toArray, List.set_cons_zero, List.set_cons_succ]
  refine wpAnyH_take (i := 2) (v := ?_) rfl (by kernel_rfl) (by kernel_rfl) (by kernel_rfl) (fun _ _ _ h => h) (Or.inl ⟨by rfl, ?_⟩) hHeld ?_
  rotate_left 1
  · intro w9 hSw; obtain ⟨⟨g0, g1, g2⟩, g3, g4⟩ := hSw; go_simp; try with_reducible rfl
  change wpAnyH _ _ _ _ _ _ _ (Act.put _ (some 38) _) _
  simp only [Act.put, List.setIfInBounds_toArray, List.set_cons_zero, List.set_cons_succ]
  refine wpAnyH_take (i := 4) (v := ?_) rfl (by kernel_rfl) (by kernel_rfl) (by kernel_rfl) (fun _ _ _ h => h) (Or.inl ⟨by rfl, ?_⟩) hHeld ?_
  rotate_left 1
  · intro w9 hSw; obtain ⟨⟨g0, g1, g2⟩, g3, g4⟩ := hSw; go_simp; try with_reducible rfl
  change wpAnyH _ _ _ _ _ _ _ (Act.put _ (some 40) _) _
  simp only [Act.put, List.setIfInBounds_toArray, List.set_cons_zero, List.set_cons_succ]
  refine wpAnyH_ready (rs := [3]) (by kernel_rfl) (by simp) ?_
  refine AllReadyH.cons rfl (fun K hK => ?_) AllReadyH.nil
  go_simp
  refine (HAt.out _ _ M' _ (HRM2.out _ D1.out) HMl.out).mono ?_
  rintro e v2 ⟨xd, yd, rfl, hrow, hb⟩
  have D2 : Hid (Below w5.heap.size w5 v2) := bT D1.out hb
  have HRd : Hid (IsRow v2 4 (.slice xd M'.length yd) M'.length (aCells M')) := hrow
  clear hrow
  clear hb
  go_simp
  refine hK.out _ _ (HS.out _ D2.out) (fun hHeld => ?_)
  clear hK K
  refine wpAnyH_ready (rs := [5]) (by kernel_rfl) (by simp) ?_
  refine AllReadyH.cons rfl (fun K hK => ?_) AllReadyH.nil
  go_simp
  refine (HSA.out _ _ _ _ _ M' HMl.out HRd.out (HRN.out _ D2.out)).mono ?_
  rintro e v3 ⟨rfl, hb⟩
  have D3 : Hid (Below w5.heap.size w5 v3) := bT D2.out hb
  clear hb
  go_simp
  refine hK.out _ _ (HS.out _ D3.out) (fun hHeld => ?_)
  clear hK K
  refine wpAnyH_take (i := 6) (v := ?_) rfl (by kernel_rfl) (by kernel_rfl) (by kernel_rfl) (fun _ _ _ h => h) (Or.inl ⟨by rfl, ?_⟩) hHeld ?_
  rotate_left 1
  · intro w9 hSw; obtain ⟨⟨g0, g1, g2⟩, g3, g4⟩ := hSw; go_simp; try with_reducible rfl
  change wpAnyH _ _ _ _ _ _ _ (Act.put _ (some 42) _) _
  simp only [Act.put, List.setIfInBounds_toArray, List.set_cons_zero, List.set_cons_succ]
  refine wpAnyH_take (i := 7) (v := ?_) rfl (by kernel_rfl) (by kernel_rfl) (by kernel_rfl) (fun _ _ _ h => h) (Or.inl ⟨by rfl, ?_⟩) hHeld ?_
  rotate_left 1
  · intro w9 hSw; obtain ⟨⟨g0, g1, g2⟩, g3, g4⟩ := hSw; go_simp; try with_reducible rfl
  change wpAnyH _ _ _ _ _ _ _ (Act.put _ (some 43) _) _
  simp only [Act.put, List.setIfInBounds_toArray, List.set_cons_zero, List.set_cons_succ]
  refine wpAnyH_take (i := 8) (v := ?_) rfl (by kernel_rfl) (by kernel_rfl) (by kernel_rfl) (fun _ _ _ h => h) (Or.inl ⟨by rfl, ?_⟩) hHeld ?_
  rotate_left 1
  · intro w9 hSw; obtain ⟨⟨g0, g1, g2⟩, g3, g4⟩ := hSw; go_simp; try with_reducible rfl
  change wpAnyH _ _ _ _ _ _ _ (Act.put _ (some 44) _) _
  simp only [Act.put, List.setIfInBounds_toArray, List.set_cons_zero, List.set_cons_succ]
  refine wpAnyH_take (i := 9) (v := ?_) rfl (by kernel_rfl) (by kernel_rfl) (by kernel_rfl) (fun _ _ _ h => h) (Or.inl ⟨by rfl, ?_⟩) hHeld ?_
  rotate_left 1
  · intro w9 hSw; obtain ⟨⟨g0, g1, g2⟩, g3, g4⟩ := hSw; go_simp; try with_reducible rfl
  change wpAnyH _ _ _ _ _ _ _ (Act.put _ (some 45) _) _
  simp only [Act.put, List.setIfInBounds_toArray, List.set_cons_zero, List.set_cons_succ]
  refine wpAnyH_take (i := 10) (v := ?_) rfl (by kernel_rfl) (by kernel_rfl) (by kernel_rfl) (fun _ _ _ h => h) (Or.inl ⟨by rfl, ?_⟩) hHeld ?_
  rotate_left 1
  · intro w9 hSw; obtain ⟨⟨g0, g1, g2⟩, g3, g4⟩ := hSw; go_simp; try with_reducible rfl
  change wpAnyH _ _ _ _ _ _ _ (Act.put _ (some 46) _) _
  simp only [Act.put, List.setIfInBounds_toArray, List.set_cons_zero, List.set_cons_succ]
  refine wpAnyH_take (i := 11) (v := ?_) rfl (by kernel_rfl) (by kernel_rfl) (by kernel_rfl) (fun _ _ _ h => h) (Or.inl ⟨by rfl, ?_⟩) hHeld ?_
  rotate_left 1
  · intro w9 hSw; obtain ⟨⟨g0, g1, g2⟩, g3, g4⟩ := hSw; go_simp; try with_reducible rfl
  change wpAnyH _ _ _ _ _ _ _ (Act.put _ (some 47) _) _
  simp only [Act.put, List.setIfInBounds_toArray, List.set_cons_zero, List.set_cons_succ]
  refine wpAnyH_take (i := 12) (v := ?_) rfl (by kernel_rfl) (by kernel_rfl) (by kernel_rfl) (fun _ _ _ h => h) (Or.inl ⟨by rfl, ?_⟩) hHeld ?_
  rotate_left 1
  · intro w9 hSw; obtain ⟨⟨g0, g1, g2⟩, g3, g4⟩ := hSw; go_simp; try with_reducible rfl
  change wpAnyH _ _ _ _ _ _ _ (Act.put _ (some 48) _) _
  simp only [Act.put, List.setIfInBounds_toArray, List.set_cons_zero, List.set_cons_succ]
  refine wpAnyH_take (i := 13) (v := ?_) rfl (by kernel_rfl) (by kernel_rfl) (by kernel_rfl) (fun _ _ _ h => h) (Or.inl ⟨by rfl, ?_⟩) hHeld ?_
  rotate_left 1
  · intro w9 hSw; obtain ⟨⟨g0, g1, g2⟩, g3, g4⟩ := hSw; go_simp; try with_reducible rfl
  change wpAnyH _ _ _ _ _ _ _ (Act.put _ (some 49) _) _
  simp only [Act.put, List.setIfInBounds_toArray, List.set_cons_zero, List.set_cons_succ]
  refine wpAnyH_take (i := 14) (v := ?_) rfl (by kernel_rfl) (by kernel_rfl) (by kernel_rfl) (fun _ _ _ h => h) (Or.inl ⟨by rfl, ?_⟩) hHeld ?_
  rotate_left 1
  · intro w9 hSw; obtain ⟨⟨g0, g1, g2⟩, g3, g4⟩ := hSw; go_simp; try with_reducible rfl
  change wpAnyH _ _ _ _ _ _ _ (Act.put _ (some 50) _) _
  simp only [Act.put, List.setIfInBounds_toArray, List.set_cons_zero, List.set_cons_succ]
  refine wpAnyH_take (i := 17) (v := ?_) rfl (by kernel_rfl) (by kernel_rfl) (by kernel_rfl) (fun _ _ _ h => h) (Or.inl ⟨by rfl, ?_⟩) hHeld ?_
  rotate_left 1
  · intro w9 hSw; obtain ⟨⟨g0, g1, g2⟩, g3, g4⟩ := hSw; go_simp; try with_reducible rfl
  change wpAnyH _ _ _ _ _ _ _ (Act.put _ (some 53) _) _
  simp only [Act.put, List.setIfInBounds_toArray, List.set_cons_zero, List.set_cons_succ]
  refine wpAnyH_take (i := 19) (v := ?_) rfl (by kernel_rfl) (by kernel_rfl) (by kernel_rfl) (fun _ _ _ h => h) (Or.inl ⟨by rfl, ?_⟩) hHeld ?_
  rotate_left 1
  · intro w9 hSw; obtain ⟨⟨g0, g1, g2⟩, g3, g4⟩ := hSw; go_simp; try with_reducible rfl
  change wpAnyH _ _ _ _ _ _ _ (Act.put _ (some 55) _) _
  simp only [Act.put, List.setIfInBounds_toArray, List.set_cons_zero, List.set_cons_succ]
  refine wpAnyH_ready (rs := [15]) (by kernel_rfl) (by simp) ?_
  refine AllReadyH.cons rfl (fun K hK => ?_) AllReadyH.nil
  go_simp
  refine (HKp.out _ (HBN.out _ D3.out)).mono ?_
  rintro e v4 ⟨xe, ye, rfl, hrow, -, hb⟩
  have D4 : Hid (Below w5.heap.size w5 v4) := bT D3.out hb
  have HRe2 : Hid (IsRow v4 4 (.slice xe (keepL f m).length ye) (keepL f m).length (aCells (keepL f m))) := hrow
  clear hrow
  clear hb
  go_simp
  refine hK.out _ _ (HS.out _ D4.out) (fun hHeld => ?_)
  clear hK K
  refine wpAnyH_ready (rs := [16]) (by kernel_rfl) (by simp) ?_
  refine AllReadyH.cons rfl (fun K hK => ?_) AllReadyH.nil
  go_simp
  refine (HRe.out _ _ (keepL f m) _ HKl.out.1 HRe2.out).mono ?_
  rintro e v5 ⟨xg, yg, rfl, hrow, hb⟩
  have D5 : Hid (Below w5.heap.size w5 v5) := bT D4.out hb
  have HRg : Hid (∀ W, Below v5.heap.size v5 W → IsRow W 4 (.slice xg (keepL f m).length yg) (keepL f m).length (aCells (keepL f m))) := fun W h => hrow.below h
  clear hrow
  clear hb
  go_simp
  refine hK.out _ _ (HS.out _ D5.out) (fun hHeld => ?_)
  clear hK K
  refine wpAnyH_ready (rs := [18]) (by kernel_rfl) (by simp) ?_
  refine AllReadyH.cons rfl (fun K hK => ?_) AllReadyH.nil
  go_simp
  refine (HRe.out _ _ m _ HKl.out.2.1 (HRl.out _ (HBN.out _ D5.out)).2).mono ?_
  rintro e v6 ⟨xh, yh, rfl, hrow, hb⟩
  have D6 : Hid (Below w5.heap.size w5 v6) := bT D5.out hb
  have D56 : Hid (Below v5.heap.size v5 v6) := hb
  have HRh : Hid (∀ W, Below v6.heap.size v6 W → IsRow W 4 (.slice xh m.length yh) m.length (aCells m)) := fun W h => hrow.below h
  clear hrow
  clear hb
  go_simp
  refine hK.out _ _ (HS.out _ D6.out) (fun hHeld => ?_)
  clear hK K
  refine wpAnyH_ready (rs := [20]) (by kernel_rfl) (by simp) ?_
  refine AllReadyH.cons rfl (fun K hK => ?_) AllReadyH.nil
  go_simp
  refine (HRf.out _ (HBN.out _ D6.out)).mono ?_
  rintro e v7 ⟨xi, yi, rfl, hrow, hb⟩
  have D7 : Hid (Below w5.heap.size w5 v7) := bT D6.out hb
  have D57 : Hid (Below v5.heap.size v5 v7) := bT D56.out hb
  have HRi : Hid (IsRow v7 3 (.slice xi f.length yi) f.length (fCells f) ∧ IsRow v7 4 (.slice xh m.length yh) m.length (aCells m)) := ⟨hrow, HRh.out _ hb⟩
  clear hrow
  clear hb
  go_simp
  refine hK.out _ _ (HS.out _ D7.out) (fun hHeld => ?_)
  clear hK K
  refine wpAnyH_ready (rs := [21]) (by kernel_rfl) (by simp) ?_
  refine AllReadyH.cons rfl (fun K hK => ?_) AllReadyH.nil
  go_simp
  refine (HRk.out _ _ _ _ _ HRi.out.2 HRi.out.1).mono ?_
  rintro e v8 ⟨xj, yj, rfl, hrow, -, hb⟩
  have D8 : Hid (Below w5.heap.size w5 v8) := bT D7.out hb
  have D58 : Hid (Below v5.heap.size v5 v8) := bT D57.out hb
  have HRj : Hid (IsRow v8 4 (.slice xj (keepL f m).length yj) (keepL f m).length (aCells (keepL f m))) := hrow
  clear hrow
  clear hb
  go_simp
  refine hK.out _ _ (HS.out _ D8.out) (fun hHeld => ?_)
  clear hK K
  refine wpAnyH_ready (rs := [22]) (by kernel_rfl) (by simp) ?_
  refine AllReadyH.cons rfl (fun K hK => ?_) AllReadyH.nil
  go_simp
  refine (HSE.out _ _ _ _ _ (keepL f m) HKl.out.1 (HRg.out _ D58.out) HRj.out).mono ?_
  rintro e v9 ⟨rfl, hb⟩
  have D9 : Hid (Below w5.heap.size w5 v9) := bT D8.out hb
  clear hb
  go_simp
  refine hK.out _ _ (HS.out _ D9.out) (fun hHeld => ?_)
  clear hK K
  refine wpAnyH_take (i := 23) (v := ?_) rfl (by kernel_rfl) (by kernel_rfl) (by kernel_rfl) (fun _ _ _ h => h) (Or.inl ⟨by rfl, ?_⟩) hHeld ?_
  rotate_left 1
  · intro w9 hSw; obtain ⟨⟨g0, g1, g2⟩, g3, g4⟩ := hSw; go_simp; try with_reducible rfl
  change wpAnyH _ _ _ _ _ _ _ (Act.put _ (some 59) _) _
  simp only [Act.put, List.setIfInBounds_toArray, List.set_cons_zero, List.set_cons_succ]
  refine wpAnyH_take (i := 24) (v := ?_) rfl (by kernel_rfl) (by kernel_rfl) (by kernel_rfl) (fun _ _ _ h => h) (Or.inl ⟨by rfl, ?_⟩) hHeld ?_
  rotate_left 1
  · intro w9 hSw; obtain ⟨⟨g0, g1, g2⟩, g3, g4⟩ := hSw; go_simp; try with_reducible rfl
  change wpAnyH _ _ _ _ _ _ _ (Act.put _ (some 6) _) _
  simp only [Act.put, List.setIfInBounds_toArray, List.set_cons_zero, List.set_cons_succ]
  have HBz : Hid (Below w.heap.size w v9) := HBN.out _ D9.out
  refine wpAnyH_done (by kernel_rfl) ?_ _
  clear hHeld
  go_wp2
  go_ret
  exact ⟨rfl, HBz.out⟩
end Go.Proofs.YtacpllmlpmllbaaGreatDoor
