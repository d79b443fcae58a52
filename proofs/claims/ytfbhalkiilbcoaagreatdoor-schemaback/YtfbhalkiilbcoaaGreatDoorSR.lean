/- schema.readField, schema.readAttr: their walks. -/
import Derived.Test.YtfbhalkiilbcoaaGreatDoorSM
import Derived.Test.YtfbhalkiilbcoaaGreatDoorU3
namespace Go.Proofs.YtfbhalkiilbcoaaGreatDoor
open Go.RowKit

theorem heap_atS {w : World} {b : Nat} {C : Array Value} {t : TypeId} (h : w.heap[b]? = some (.cells C t (0, 0))) : (∀ j, w.cell? ⟨b, j, none⟩ = C[j]?) ∧ (∀ j, w.frozen? ⟨b, j, none⟩ = false) ∧ b < w.heap.size :=
  ⟨fun j => by rw [Lib.cell_of_heap h], fun j => by simp [World.frozen?, h], (Array.getElem?_eq_some_iff.1 h).1⟩
theorem alloc_topS (w : World) (o : Obj) : (w.alloc o).heap[w.heap.size]? = some o := by
  show (w.heap.push o)[w.heap.size]? = some o
  simp
theorem alloc_oldS (w : World) (o : Obj) {b : Nat} (h : b < w.heap.size) : (w.alloc o).heap[b]? = w.heap[b]? := Below.heap_alloc w o b h
theorem setCell_atS (w : World) {g : Nat} (c : Nat) {cur : Array Value} {t : TypeId} (hb : w.heap[g]? = some (.cells cur t (0, 0))) (v : Value) :
    (w.setCell ⟨g, c, none⟩ v).heap[g]? = some (.cells (cur.setIfInBounds c v) t (0, 0)) ∧ (∀ k, k ≠ g → (w.setCell ⟨g, c, none⟩ v).heap[k]? = w.heap[k]?) := by
  rw [setCell_eq_setRow w g c cur t (0, 0) v hb]
  exact ⟨setRow_heap w g cur _ t _ hb, fun k hk => setRow_other w g k _ hk⟩
theorem kinds_rowS {w : World} {b n : Nat} {C : List Value} {t : TypeId} (h : w.heap[b]? = some (.cells C.toArray t (0, 0))) (hn : C.length = n) (h0 : n ≤ 100) : IsRow w 1 (.slice (some ⟨b, 0, none⟩) n n) n C := by
  refine ⟨by omega, .inr ⟨b, 0, n, rfl, (heap_atS h).2.2, Nat.le_refl _, by unfold maxLen; omega, fun j u hu => ?_⟩⟩
  rw [Nat.zero_add, (heap_atS h).1 j]
  simpa using hu
theorem threeS {w : World} {b : Nat} {x y z : Value} {t : TypeId} (h : w.heap[b]? = some (.cells #[x, y, z] t (0, 0))) : (w.cell? ⟨b, 0, none⟩ = some x ∧ w.cell? ⟨b, 1, none⟩ = some y ∧ w.cell? ⟨b, 2, none⟩ = some z) ∧ w.frozen? ⟨b, 0, none⟩ = false ∧ w.frozen? ⟨b, 1, none⟩ = false ∧ w.frozen? ⟨b, 2, none⟩ = false := ⟨⟨(heap_atS h).1 0, (heap_atS h).1 1, (heap_atS h).1 2⟩, (heap_atS h).2.1 0, (heap_atS h).2.1 1, (heap_atS h).2.1 2⟩
theorem fourS {w : World} {b : Nat} {x y z u : Value} {t : TypeId} (h : w.heap[b]? = some (.cells #[x, y, z, u] t (0, 0))) : (w.cell? ⟨b, 0, none⟩ = some x ∧ w.cell? ⟨b, 1, none⟩ = some y ∧ w.cell? ⟨b, 2, none⟩ = some z ∧ w.cell? ⟨b, 3, none⟩ = some u) ∧ w.frozen? ⟨b, 0, none⟩ = false ∧ w.frozen? ⟨b, 1, none⟩ = false ∧ w.frozen? ⟨b, 2, none⟩ = false ∧ w.frozen? ⟨b, 3, none⟩ = false := ⟨⟨(heap_atS h).1 0, (heap_atS h).1 1, (heap_atS h).1 2, (heap_atS h).1 3⟩, (heap_atS h).2.1 0, (heap_atS h).2.1 1, (heap_atS h).2.1 2, (heap_atS h).2.1 3⟩
theorem al2S (w : World) (o1 o2 : Obj) : ((w.alloc o1).alloc o2).heap[w.heap.size + 1]? = some o2 := by
  show ((w.heap.push _).push _)[w.heap.size + 1]? = _
  rw [Array.getElem?_push, if_pos (by simp)]
theorem set3S {w0 w : World} {b : Nat} (h : Below w0.heap.size w0 w) (hb : w0.heap.size ≤ b) (x y z : Value) : Below w0.heap.size w0 (((w.setCell ⟨b, 0, none⟩ x).setCell ⟨b, 1, none⟩ y).setCell ⟨b, 2, none⟩ z) :=
  ((h.setCell (p := ⟨b, 0, none⟩) hb _).setCell (p := ⟨b, 1, none⟩) hb _).setCell (p := ⟨b, 2, none⟩) hb _
theorem set4S {w0 w : World} {b : Nat} (h : Below w0.heap.size w0 w) (hb : w0.heap.size ≤ b) (x y z u : Value) : Below w0.heap.size w0 ((((w.setCell ⟨b, 0, none⟩ x).setCell ⟨b, 1, none⟩ y).setCell ⟨b, 2, none⟩ z).setCell ⟨b, 3, none⟩ u) :=
  (set3S h hb x y z).setCell (p := ⟨b, 3, none⟩) hb _
set_option maxRecDepth 100000 in
set_option maxHeartbeats 1000000 in
theorem readField_any (s : ByteArray) (w : World) (hs : s.size ≤ 140737488355328) :
    Calls Tryz.prog 31 #[.string s] w fun e w' => e = .returned (.tuple #[fV (rfX s), .string (rfR s), .int .i64 (rfE s)]) ∧ Below w.heap.size w w' := by
  have HTk : Hid (Calls Tryz.prog 52 #[.string s, .slice (some ⟨w.heap.size + 1, 0, none⟩) 3 3] ((w.alloc (.cells #[.string ⟨#[]⟩, .int .i64 0, .bool false] 45)).alloc (.cells #[.int .i64 4, .int .i64 1, .int .i64 3] 3)) fun e w' => Q.TakePost (Q.takeR s [4, 1, 3]) ((w.alloc (.cells #[.string ⟨#[]⟩, .int .i64 0, .bool false] 45)).alloc (.cells #[.int .i64 4, .int .i64 1, .int .i64 3] 3)) e w') :=
    Q.take_any s _ [4, 1, 3] _ hs (kinds_rowS (C := Q.intCells [4, 1, 3]) (al2S w _ _) rfl (by decide)) (by decide)
  have HB0 : Hid (Below w.heap.size w ((w.alloc (.cells #[.string ⟨#[]⟩, .int .i64 0, .bool false] 45)).alloc (.cells #[.int .i64 4, .int .i64 1, .int .i64 3] 3))) := (al_b w _).trans ((al_b _ _).mono (by simp))
  have HX : Hid (∀ w', Below ((w.alloc (.cells #[.string ⟨#[]⟩, .int .i64 0, .bool false] 45)).alloc (.cells #[.int .i64 4, .int .i64 1, .int .i64 3] 3)).heap.size ((w.alloc (.cells #[.string ⟨#[]⟩, .int .i64 0, .bool false] 45)).alloc (.cells #[.int .i64 4, .int .i64 1, .int .i64 3] 3)) w' → w'.heap[w.heap.size]? = some (.cells #[.string ⟨#[]⟩, .int .i64 0, .bool false] 45 (0, 0))) := fun w' h => (h.block _ (by simp; omega)).trans ((alloc_oldS _ _ (by simp)).trans (alloc_topS w _))
  by_cases h0 : rfE s = 0
  · have hM : rfX s = ⟨Q.tS s 4, Q.tN (Q.tR s 4) 1, Q.tN (Q.tR (Q.tR s 4) 1) 3 == 1⟩ := if_pos h0
    have hR : rfR s = Q.tR (Q.tR (Q.tR s 4) 1) 3 := if_pos h0
    rw [take3F_ok s h0] at HTk
    rw [hM, hR, h0]
    clear hM hR h0
    generalize Q.tR (Q.tR (Q.tR s 4) 1) 3 = R3 at *
    generalize Q.tN (Q.tR (Q.tR s 4) 1) 3 = N3 at *
    generalize Q.tN (Q.tR s 4) 1 = N2 at *
    generalize Q.tN s 4 = N1 at *
    generalize Q.tS (Q.tR (Q.tR s 4) 1) 3 = S3 at *
    generalize Q.tS (Q.tR s 4) 1 = S2 at *
    generalize Q.tS s 4 = S1 at *
    go_enter Tryz.func31, Tryz.ntmps31
    go_wp2_with fail
    refine HTk.out.mono ?_
    rintro e w1 ⟨v1, rfl, hr1, hb1⟩
    obtain ⟨⟨x0, x1, x2⟩, f0, f1, f2⟩ := threeS (HX.out w1 hb1)
    have HB1 : Hid (Below w.heap.size w w1) := HB0.out.trans (hb1.mono HB0.out.size)
    rcases hr1.2 with ⟨h, -⟩ | ⟨b, off, cap, rfl, hlt, hc1, hc2, hc⟩
    · cases h
    have c0 : w1.cell? ⟨b, off + 2, none⟩ = some (.string S1) := hc 2 _ rfl
    have c1 : w1.cell? ⟨b, off + 3 + 1, none⟩ = some (.int .i64 N2) := hc 4 _ rfl
    have c2 : w1.cell? ⟨b, off + 6 + 1, none⟩ = some (.int .i64 N3) := hc 7 _ rfl
    clear hc hr1 hb1 HTk HX HB0
    go_wp2_with fail
    go_region
    all_goals go_wp2
    all_goals
      refine bodyPost_ret (v := .tuple #[fV ⟨S1, N2, N3 == 1⟩, .string R3, .int .i64 0]) ?_ rfl ⟨rfl, set3S HB1.out.drew (by omega) _ _ _⟩
      rw [V.results_cell3 rfl]; go_simp
  · have hM : rfX s = ⟨e0S, 0, false⟩ := if_neg h0
    have hR : rfR s = e0S := if_neg h0
    rw [take3F_no s h0] at HTk
    rw [hM, hR]
    have nb : (rfE s != 0) = true := by simpa using h0
    clear hM hR h0
    generalize rfE s = E at *
    go_enter Tryz.func31, Tryz.ntmps31
    go_wp2_with fail
    refine HTk.out.mono ?_
    rintro e w1 ⟨v1, rfl, hr1, hb1⟩
    obtain ⟨⟨x0, x1, x2⟩, f0, f1, f2⟩ := threeS (HX.out w1 hb1)
    have HB1 : Hid (Below w.heap.size w w1) := HB0.out.trans (hb1.mono HB0.out.size)
    clear hr1 hb1 HTk HX HB0
    go_wp2
    refine bodyPost_ret (v := .tuple #[fV ⟨e0S, 0, false⟩, .string e0S, .int .i64 E]) ?_ rfl ⟨rfl, set3S HB1.out (by omega) _ _ _⟩
    rw [V.results_cell3 rfl]; go_simp
set_option maxRecDepth 100000 in
set_option maxHeartbeats 1000000 in
theorem readAttr_any (s : ByteArray) (w : World) (hs : s.size ≤ 140737488355328) (hU : UT w) :
    Calls Tryz.prog 40 #[.string s] w fun e w' => e = .returned (.tuple #[aV (raX s), .string (raR s), .int .i64 (raE s)]) ∧ Below w.heap.size w w' := by
  have HTk : Hid (Calls Tryz.prog 52 #[.string s, .slice (some ⟨w.heap.size + 1, 0, none⟩) 1 1] ((w.alloc (.cells #[.string ⟨#[]⟩, .int .i64 0, .int .i64 0, .string ⟨#[]⟩] 49)).alloc (.cells #[.int .i64 4] 3)) fun e w' => Q.TakePost (Q.takeR s [4]) ((w.alloc (.cells #[.string ⟨#[]⟩, .int .i64 0, .int .i64 0, .string ⟨#[]⟩] 49)).alloc (.cells #[.int .i64 4] 3)) e w') :=
    Q.take_any s _ [4] _ hs (kinds_rowS (C := Q.intCells [4]) (al2S w _ _) rfl (by decide)) (by decide)
  have HB0 : Hid (Below w.heap.size w ((w.alloc (.cells #[.string ⟨#[]⟩, .int .i64 0, .int .i64 0, .string ⟨#[]⟩] 49)).alloc (.cells #[.int .i64 4] 3))) := (al_b w _).trans ((al_b _ _).mono (by simp))
  have HX : Hid (∀ w', Below ((w.alloc (.cells #[.string ⟨#[]⟩, .int .i64 0, .int .i64 0, .string ⟨#[]⟩] 49)).alloc (.cells #[.int .i64 4] 3)).heap.size ((w.alloc (.cells #[.string ⟨#[]⟩, .int .i64 0, .int .i64 0, .string ⟨#[]⟩] 49)).alloc (.cells #[.int .i64 4] 3)) w' → w'.heap[w.heap.size]? = some (.cells #[.string ⟨#[]⟩, .int .i64 0, .int .i64 0, .string ⟨#[]⟩] 49 (0, 0))) := fun w' h => (h.block _ (by simp; omega)).trans ((alloc_oldS _ _ (by simp)).trans (alloc_topS w _))
  by_cases h0 : Q.tE s 4 = 0
  · have hX : raX s = ⟨Q.tS s 4, (V.rd (Q.tR s 4)).k, (V.rd (Q.tR s 4)).n, (V.rd (Q.tR s 4)).s⟩ := if_pos h0
    have hR : raR s = (V.rd (Q.tR s 4)).r := if_pos h0
    have hE : raE s = (V.rd (Q.tR s 4)).e := if_pos h0
    have HRd : Hid (∀ w', Below w.heap.size w w' → Calls Tryz.prog 64 #[.string (Q.tR s 4)] w' fun e w'' => V.RdPost (V.rd (Q.tR s 4)) w' e w'') := fun w' hb => V.read_any _ _ (Nat.le_trans (Q.tR_size _ _) hs) (Utf8Tabs_below hU hb)
    rw [V.takeR_ok (by decide) (by decide) h0] at HTk
    rw [hX, hR, hE]
    clear hX hR hE h0 hU
    generalize V.rd (Q.tR s 4) = RD at *
    obtain ⟨dk, dn, ds, dr, de⟩ := RD
    dsimp only at *
    generalize Q.tR s 4 = R3 at *
    generalize Q.tN s 4 = N1 at *
    generalize Q.tS s 4 = S1 at *
    go_enter Tryz.func40, Tryz.ntmps40
    go_wp2_with fail
    refine HTk.out.mono ?_
    rintro e w1 ⟨v1, rfl, hr1, hb1⟩
    obtain ⟨b, off, cap, rfl, hlt, c1, c2⟩ := V.one_of hr1
    dsimp only at c1 c2
    have HB1 : Hid (Below w.heap.size w w1) := HB0.out.trans (hb1.mono HB0.out.size)
    have HX1 : Hid (w1.heap[w.heap.size]? = some (.cells #[.string ⟨#[]⟩, .int .i64 0, .int .i64 0, .string ⟨#[]⟩] 49 (0, 0))) := HX.out w1 hb1
    have HC2 : Hid (∀ w', Below w1.heap.size w1 w' → w'.cell? ⟨b, off + 2, none⟩ = some (.string S1) ∧ w'.heap[w.heap.size]? = some (.cells #[.string ⟨#[]⟩, .int .i64 0, .int .i64 0, .string ⟨#[]⟩] 49 (0, 0))) := fun w' h => ⟨(h.cell (p := ⟨b, off + 2, none⟩) hlt).trans c2, (h.block _ (heap_atS HX1.out).2.2).trans HX1.out⟩
    clear c1 c2 hb1 HTk HX HB0 HX1 hr1
    go_wp2_with fail
    refine (HRd.out _ HB1.out).mono ?_
    rintro e w2 ⟨rfl, hb2⟩
    dsimp only
    have hA := al_b w2 (.cells #[.int .i64 dk, .int .i64 dn, .string ds] 47)
    obtain ⟨c2, h2⟩ := HC2.out _ (hb2.trans (hA.mono hb2.size))
    obtain ⟨⟨x0, x1, x2, x3⟩, f0, f1, f2, f3⟩ := fourS h2
    have HB2 : Hid (Below w.heap.size w (w2.alloc (.cells #[.int .i64 dk, .int .i64 dn, .string ds] 47))) := (HB1.out.trans (hb2.mono HB1.out.size)).alloc (Nat.le_trans HB1.out.size hb2.size) _
    clear hb2 hA HC2 h2 HRd
    go_wp2_with fail
    go_region
    all_goals go_wp2
    all_goals
      refine bodyPost_ret (v := .tuple #[aV ⟨S1, dk, dn, ds⟩, .string dr, .int .i64 de]) ?_ rfl ⟨rfl, set4S HB2.out.drew (by omega) _ _ _ _⟩
      rw [V.results_cell3 rfl]; go_simp
  · have hX : raX s = ⟨e0S, 0, 0, e0S⟩ := if_neg h0
    have hR : raR s = e0S := if_neg h0
    have hE : raE s = Q.tE s 4 := if_neg h0
    rw [V.takeR_no (by decide) (by decide) h0] at HTk
    rw [hX, hR, hE]
    have nb : (Q.tE s 4 != 0) = true := by simpa using h0
    clear hX hR hE h0
    generalize Q.tE s 4 = E at *
    go_enter Tryz.func40, Tryz.ntmps40
    go_wp2_with fail
    refine HTk.out.mono ?_
    rintro e w1 ⟨v1, rfl, hr1, hb1⟩
    obtain ⟨a1, c1, rfl⟩ := hr1.form
    obtain ⟨⟨x0, x1, x2, x3⟩, f0, f1, f2, f3⟩ := fourS (HX.out w1 hb1)
    have HB1 : Hid (Below w.heap.size w w1) := HB0.out.trans (hb1.mono HB0.out.size)
    clear hb1 HTk HX HB0 hr1
    go_wp2
    refine bodyPost_ret (v := .tuple #[aV ⟨e0S, 0, 0, e0S⟩, .string e0S, .int .i64 E]) ?_ rfl ⟨rfl, set4S HB1.out (by omega) _ _ _ _⟩
    rw [V.results_cell3 rfl]; go_simp
end Go.Proofs.YtfbhalkiilbcoaaGreatDoor
