/- store's Stored of a type that is kept, by its maker, when it waits for the node: its walk. -/
import Derived.Test.YthdbnlpbidkojaaGreatDoorZk10
import Derived.Test.YthdbnlpbidkojaaGreatDoorZk9
import Derived.Test.YthdbnlpbidkojaaGreatDoorZk6
namespace Go.Proofs.YthdbnlpbidkojaaGreatDoor
open Go.RowKit Go.ChangeMaps

set_option maxRecDepth 100000 in
set_option maxHeartbeats 4000000 in
theorem stored_yes {base : Nat} {w : World} {s m g : Nat} {E : List (ByteArray × Nat)} {X : Nat → Kp} (h : StV base w s m E X) (n : ByteArray) (hn : n.size ≤ 1000000) (hL : lkS E (fldB n) = some g) (N : Int) (hT : UT w) (hi : isN N = true) (hf : (X g).f N.toNat = true) :
    Calls Tryz.prog 21 #[stP s, .string n, idV (X g).t.nd (X g).t.lf (X g).t.sq, .int .i64 N] w fun e w' => e = .returned (.tuple #[.bool (!anyW (updW (X g).f N.toNat false)), .int .i64 0]) ∧ StV base w' s m E (upX X g ⟨(X g).t, !anyW (updW (X g).f N.toNat false), updW (X g).f N.toNat false⟩) ∧ Stp w (fun k => k = g) (fun k => k = g) w' := by
  have HFi : Hid (∀ W, Below w.heap.size w W → Calls Tryz.prog 35 #[stP s, .string n] W fun e w' => e = .returned (.pointer (some ⟨g, 0, none⟩)) ∧ Below W.heap.size W w') := fun W hb => by
    have := find_any (h.below hb) n hn (Utf8Tabs_below hT hb)
    rw [hL] at this
    exact this
  obtain ⟨hbg, vo, va, vc, h0, ho⟩ := h.kp _ (lkS_memB hL)
  dsimp only at hbg h0 ho
  obtain ⟨t, s0, f0, hX⟩ : ∃ t s0 f0, X g = ⟨t, s0, f0⟩ := ⟨_, _, _, rfl⟩
  have HEnd : Hid (∀ W W' D, Below w.heap.size w W → Onl g W W' → W'.heap[g]? = some (.cells (kpA ⟨(X g).t, D, updW (X g).f N.toNat false⟩ vo va vc) 91 (0, 0)) → StV base W' s m E (upX X g ⟨(X g).t, D, updW (X g).f N.toNat false⟩) ∧ Stp w (fun k => k = g) (fun k => k = g) W') := fun W W' D hb ho' hg' =>
    ⟨(h.below hb).upd rfl (vo := vo) (va := va) (vc := vc) ((hb.block g (Array.getElem?_eq_some_iff.1 h0).1).trans h0) (ho.below hb) hg' fun j hj _ => ho'.block j hj, Onl.stp hb ho'⟩
  obtain ⟨R, hR⟩ : ∃ R : Bool → World → Prop, R = fun D W' => StV base W' s m E (upX X g ⟨(X g).t, D, updW (X g).f N.toNat false⟩) ∧ Stp w (fun k => k = g) (fun k => k = g) W' := ⟨_, rfl⟩
  have HEnd : Hid (∀ W W' D, Below w.heap.size w W → Onl g W W' → W'.heap[g]? = some (.cells (kpA ⟨(X g).t, D, updW (X g).f N.toNat false⟩ vo va vc) 91 (0, 0)) → R D W') := fun W W' D a b c => by rw [hR]; exact HEnd.out W W' D a b c
  have hpost : ∀ (e : Ending) (w' : World), (e = .returned (.tuple #[.bool (!anyW (updW (X g).f N.toNat false)), .int .i64 0]) ∧ R (!anyW (updW (X g).f N.toNat false)) w') → (e = .returned (.tuple #[.bool (!anyW (updW (X g).f N.toNat false)), .int .i64 0]) ∧ StV base w' s m E (upX X g ⟨(X g).t, !anyW (updW (X g).f N.toNat false), updW (X g).f N.toNat false⟩) ∧ Stp w (fun k => k = g) (fun k => k = g) w') := fun e w' he => by rw [hR] at he; exact he
  refine Calls.mono ?_ hpost
  clear hpost hR
  rw [hX] at HEnd
  rw [hX]
  rw [hX] at h0 ho hf
  have HK : Hid (∀ W, Below w.heap.size w W → W.cell? ⟨g, 5, none⟩ = some (.int .i64 t.nd) ∧ W.cell? ⟨g, 6, none⟩ = some (.int .i64 t.lf) ∧ W.cell? ⟨g, 7, none⟩ = some (.int .i64 t.sq)) := fun W hb => by
    have hk := (hb.block _ (Array.getElem?_eq_some_iff.1 h0).1).trans h0
    exact ⟨by rw [Lib.cell_of_heap hk]; rfl, by rw [Lib.cell_of_heap hk]; rfl, by rw [Lib.cell_of_heap hk]; rfl⟩
  have HWf : Hid (∀ W, Below w.heap.size w W → Calls Tryz.prog 55 #[.pointer (some ⟨g, 0, none⟩), .int .i64 N] W fun e w' => e = .returned (.bool true) ∧ Below W.heap.size W w') := fun W hb' => by
    have := waitsFor_any W g ⟨t, s0, f0⟩ vo va vc ((hb'.block _ (Array.getElem?_eq_some_iff.1 h0).1).trans h0) N
    dsimp only at this
    rw [show (isN N && f0 N.toNat) = true by rw [hi, show f0 N.toNat = true from hf]; rfl] at this
    exact this
  have HK0 : Hid (∀ W, Below w.heap.size w W → W.heap[g]? = some (.cells (kpA ⟨t, s0, f0⟩ vo va vc) 91 (0, 0))) := fun W hb => (hb.block _ (Array.getElem?_eq_some_iff.1 h0).1).trans h0
  obtain ⟨j1, j2⟩ := isN_get hi
  obtain ⟨k, rfl⟩ : ∃ k : Nat, N = (k : Int) := ⟨N.toNat, by omega⟩
  rw [Int.toNat_natCast] at HEnd ⊢
  dsimp only at HEnd ⊢
  have HA : Hid (∀ W W', W'.heap[g]? = some (.cells (kpA ⟨t, s0, updW f0 k false⟩ vo va vc) 91 (0, 0)) → W = W' → Calls Tryz.prog 54 #[.pointer (some ⟨g, 0, none⟩)] W fun e w' => e = .returned (.bool (anyW (updW f0 k false))) ∧ w' = W) := fun W W' hg' e => by
    subst e
    have := waitsAll_any W g ⟨t, s0, updW f0 k false⟩ vo va vc hg'
    exact this
  obtain ⟨F, hF⟩ : ∃ F, F = updW f0 k false := ⟨_, rfl⟩
  have HKp : Hid (∀ W : World, W.heap[g]? = some (.cells (kpA ⟨t, s0, f0⟩ vo va vc) 91 (0, 0)) → (W.setCell ⟨g, 9 + k, none⟩ (.bool false)).heap[g]? = some (.cells (kpA ⟨t, s0, F⟩ vo va vc) 91 (0, 0))) := fun W hW => by rw [hF]; exact kp_step hW (by omega) false
  rw [← hF] at HA HEnd ⊢
  generalize anyW F = A at *
  have d1 : decide ((k : Int) < 0) = false := decide_eq_false (by omega)
  have d2 : decide ((k : Int) < 16) = true := decide_eq_true (by omega)
  have d3 : decide ((16 : Int) ≤ (k : Int)) = false := decide_eq_false (by omega)
  clear h hn hL hT hbg h0 ho hf hi hX hF
  obtain ⟨w1, hw1⟩ : ∃ w1, w1 = w.alloc (.cells #[.int .i64 t.nd, .int .i64 t.lf, .int .i64 t.sq] 33) := ⟨_, rfl⟩
  have B1 : Hid (Below w.heap.size w w1) := by show Below _ _ _; rw [hw1]; exact al_b _ _
  have hn1 : w1.heap[w.heap.size]? = some (.cells #[.int .i64 t.nd, .int .i64 t.lf, .int .i64 t.sq] 33 (0, 0)) := by rw [hw1]; exact new_at _ _
  have HI : Hid (∀ W, Below w1.heap.size w1 W → W.cell? ⟨w.heap.size, 0, none⟩ = some (.int .i64 t.nd) ∧ W.cell? ⟨w.heap.size, 1, none⟩ = some (.int .i64 t.lf) ∧ W.cell? ⟨w.heap.size, 2, none⟩ = some (.int .i64 t.sq)) := fun W hb => by
    have hk := (hb.block _ (Array.getElem?_eq_some_iff.1 hn1).1).trans hn1
    exact ⟨by rw [Lib.cell_of_heap hk]; rfl, by rw [Lib.cell_of_heap hk]; rfl, by rw [Lib.cell_of_heap hk]; rfl⟩
  clear hn1
  go_enter Tryz.func21, Tryz.ntmps21
  go_wp2_with fail
  rw [← hw1]
  clear hw1
  refine (HFi.out _ B1.out).mono ?_
  rintro e w2 ⟨rfl, hb⟩
  have B2 : Hid (Below w.heap.size w w2) := B1.out.trans (hb.mono B1.out.size)
  have D2 : Hid (Below w1.heap.size w1 w2) := hb
  clear hb
  go_wp2_with fail
  refine wp_region_quiet (C := fun w' => Below w2.heap.size w2 w') (by kernel_rfl) (by kernel_rfl) ((Below.refl _ _).drew) ?_
  dsimp only
  repeat (first
    | go_big_quiet_skip
    | (go_big_quiet_want
       apply Exists.intro
       refine ⟨fun W' hW' => ?_, ?_⟩
       · have hw : Below w2.heap.size w2 W' := hW'
         obtain ⟨i0, i1, i2⟩ := HI.out W' (D2.out.trans (hw.mono D2.out.size))
         obtain ⟨c5, c6, c7⟩ := HK.out W' (B2.out.trans (hw.mono B2.out.size))
         go_simp
         first
           | done
           | rfl
           | (go_at_call 55; (with_reducible refine Calls.mono (HWf.out W' (B2.out.trans (hw.mono B2.out.size))) ?_); rintro e w'' ⟨rfl, hb⟩; exact ⟨rfl, hw.trans (hb.mono hw.size)⟩)
       go_big_quiet_on
       try simp only [Act.put, List.setIfInBounds_toArray, List.set_cons_zero, List.set_cons_succ]))
  refine wpQuiet_nil ?_
  intro w3 hqw
  have B3 : Hid (Below w.heap.size w w3) := B2.out.trans (hqw.mono B2.out.size)
  clear hqw
  have hk3 := HK0.out w3 B3.out
  have hcg := kp_cell hk3 (k := k) (by omega)
  have fz : ∀ i, w3.frozen? ⟨g, i, none⟩ = false := fun i => Lib.frozen_of_heap hk3 i
  obtain ⟨w4, hw4⟩ : ∃ w4, w4 = w3.setCell ⟨g, 9 + k, none⟩ (.bool false) := ⟨_, rfl⟩
  have O4 : Hid (Onl g w3 w4) := by show Onl _ _ _; rw [hw4]; exact (Onl.refl g w3).set _ _
  have K4 : Hid (w4.heap[g]? = some (.cells (kpA ⟨t, s0, F⟩ vo va vc) 91 (0, 0))) := by show _ = _; rw [hw4]; exact HKp.out w3 hk3
  clear HI HK HWf HFi hk3 HKp HK0
  go_wp2_with fail
  rw [← hw4]
  clear hw4 hcg fz
  refine (HA.out w4 w4 K4.out rfl).mono ?_
  rintro e w5 ⟨rfl, rfl⟩
  have c8 : w5.cell? ⟨g, 8, none⟩ = some (.bool s0) := by rw [Lib.cell_of_heap K4.out]; rfl
  have fz : ∀ i, w5.frozen? ⟨g, i, none⟩ = false := fun i => Lib.frozen_of_heap K4.out i
  have HE : Hid (∀ D', D' = (!A) → R (!A) (w5.setCell ⟨g, 8, none⟩ (.bool D'))) := fun D' e => by
    subst e
    exact HEnd.out w3 _ _ B3.out (O4.out.set 8 _) ((heap_setS K4.out 8 (.bool (!A))).trans rfl)
  clear HA HEnd O4 K4
  go_wp2
  refine bodyPost_ret (results_tmp2 rfl _ _ _) rfl ⟨?_, HE.out _ (by simp)⟩
  go_simp
  try rfl
end Go.Proofs.YthdbnlpbidkojaaGreatDoor
/- law17's awake: its walk. -/
namespace Go.Proofs.YthdbnlpbidkojaaGreatDoor
open Go.RowKit Go.ChangeMaps

def exT : Ty := ⟨⟨#[78, 101, 119, 115]⟩, ⟨#[]⟩, [], [], [⟨#[78, 101, 119, 115]⟩], 1, 1, 1⟩
def exK : ByteArray := fldB ⟨#[78, 101, 119, 115]⟩
theorem exK_low : fldB ⟨#[110, 101, 119, 115]⟩ = exK := by kernel_rfl
theorem exRoot : rootR ⟨#[78, 101, 119, 115]⟩ [] 1 1 1 = (exT, 0) := by kernel_rfl
theorem exChk : chkT exT = true := by kernel_rfl
theorem exNm : NmT exT := ⟨by decide, by decide, fun s hs => by simp [exT] at hs; subst hs; decide, fun x hx => by simp [exT] at hx, fun x hx => by simp [exT] at hx, by decide, by decide, by decide⟩
theorem exP : NodesP [2, 5] := fun k h => by
  have : k = 0 ∨ k = 1 := by simp at h; omega
  rcases this with rfl | rfl
  · exact ⟨by show (1 : Int) ≤ 2; decide, by show (2 : Int) ≤ 15; decide, fun i e => by omega⟩
  · refine ⟨by show (1 : Int) ≤ 5; decide, by show (5 : Int) ≤ 15; decide, fun i e => ?_⟩
    obtain rfl : i = 0 := by omega
    show (2 : Int) < 5
    decide
theorem cell_stp {w w' : World} {g p j : Nat} {v : Value} (h : Stp w (fun k => k = g) (fun k => k = g) w') (hp : p < w.heap.size) (hne : p ≠ g) (hc : w.cell? ⟨p, j, none⟩ = some v) : w'.cell? ⟨p, j, none⟩ = some v := by
  unfold World.cell? at hc ⊢
  dsimp only at hc ⊢
  rw [h.block p hp hne]
  exact hc
set_option maxRecDepth 100000 in
set_option maxHeartbeats 4000000 in
theorem awake17_any (w : World) (hT : UT w) (hM : ML w) :
    Calls Tryz.prog 7 #[] w fun e w' => e = .returned (.bool true) ∧ Below w.heap.size w w' := by
  obtain ⟨w1, hw1⟩ : ∃ w1, w1 = w.alloc (.cells #[.int .i64 1, .int .i64 1, .int .i64 1] 33) := ⟨_, rfl⟩
  have B1 : Hid (Below w.heap.size w w1) := by show Below _ _ _; rw [hw1]; exact al_b _ _
  have hn1 : w1.heap[w.heap.size]? = some (.cells #[.int .i64 1, .int .i64 1, .int .i64 1] 33 (0, 0)) := by rw [hw1]; exact new_at _ _
  have HI : Hid (∀ W, Below w1.heap.size w1 W → W.cell? ⟨w.heap.size, 0, none⟩ = some (.int .i64 1) ∧ W.cell? ⟨w.heap.size, 1, none⟩ = some (.int .i64 1) ∧ W.cell? ⟨w.heap.size, 2, none⟩ = some (.int .i64 1)) := fun W hb => by
    have hk := (hb.block _ (Array.getElem?_eq_some_iff.1 hn1).1).trans hn1
    exact ⟨by rw [Lib.cell_of_heap hk]; rfl, by rw [Lib.cell_of_heap hk]; rfl, by rw [Lib.cell_of_heap hk]; rfl⟩
  have hlt1 : w.heap.size < w1.heap.size := (Array.getElem?_eq_some_iff.1 hn1).1
  have HRo : Hid (∀ W, Below w.heap.size w W → Calls Tryz.prog 25 #[.string ⟨#[78, 101, 119, 115]⟩, .slice none 0 0, idV 1 1 1] W fun e w' => MkP (exT, 0) W e w') := fun W hb => exRoot ▸ root_any ⟨#[78, 101, 119, 115]⟩ (.slice none 0 0) [] 1 1 1 W (by decide) (IsRow.nil _ _) (by decide) (fun x hx => by simp at hx) (Utf8Tabs_below hT hb) (ML_below hM hb)
  have HT : Hid (∀ W, Below w.heap.size w W → UT W ∧ ML W) := fun W hb => ⟨Utf8Tabs_below hT hb, ML_below hM hb⟩
  clear hn1 hT hM
  obtain ⟨i0, i1, i2⟩ := HI.out w1 (Below.refl _ _)
  rw [hw1] at i0 i1 i2
  go_enter Tryz.func7, Tryz.ntmps7
  go_wp2_with fail
  rw [← hw1]
  clear hw1 i0 i1 i2
  refine (HRo.out _ B1.out).mono ?_
  rintro e w2 ⟨⟨t, ao, co, aa, ca, ac, cc⟩, rfl, ht, hty, hnew, hb⟩
  dsimp only at ht hty
  subst ht
  have D2 : Hid (Below w1.heap.size w1 w2) := hb
  have HTy : Hid (∀ W, CKp w2 W → IsTy W exT (.slice ao exT.own.length co) (.slice aa exT.all.length ca) (.slice ac exT.ch.length cc)) := fun W h => h.ty hty
  clear hb hty hnew
  obtain ⟨w3, hw3⟩ : ∃ w3, w3 = w2.alloc (.cells (tyA exT (.slice ao exT.own.length co) (.slice aa exT.all.length ca) (.slice ac exT.ch.length cc)) 35) := ⟨_, rfl⟩
  have D3 : Hid (Below w2.heap.size w2 w3) := by show Below _ _ _; rw [hw3]; exact al_b _ _
  have hn3 : w3.heap[w2.heap.size]? = some (.cells (tyA exT (.slice ao exT.own.length co) (.slice aa exT.all.length ca) (.slice ac exT.ch.length cc)) 35 (0, 0)) := by rw [hw3]; exact new_at _ _
  have B3 : Hid (Below w1.heap.size w1 w3) := D2.out.trans (D3.out.mono D2.out.size)
  go_wp2_with fail
  rw [← hw3]
  clear hw3
  refine (storeNew_any w3 (fun _ => ⟨exT, false, zW⟩)).mono ?_
  rintro e w4 ⟨s, m, rfl, hS, hb⟩
  have D4 : Hid (Below w3.heap.size w3 w4) := hb
  have B4 : Hid (Below w1.heap.size w1 w4) := B3.out.trans (hb.mono B3.out.size)
  have A4 : Hid (Below w.heap.size w w4) := B1.out.trans (B4.out.mono B1.out.size)
  obtain ⟨⟨p0, p1, p2, p3⟩, p4, p5, p6, p7⟩ := BxT.of ((hb.block _ (Array.getElem?_eq_some_iff.1 hn3).1).trans hn3)
  have hPu := put_new hS hb.size exT _ _ _ (HTy.out w4 ((CKp.of D3.out).trans (CKp.of hb))) (by decide) (by decide) (by decide) exNm (HT.out w4 A4.out).1 (HT.out w4 A4.out).2 exChk (fun _ => by decide) (fun g0 h => by cases h)
  have hlm : w3.heap.size ≤ m := hS.lm
  have hsz : w1.heap.size ≤ w3.heap.size := B3.out.size
  have c4 : ∀ W, Below w4.heap.size w4 W → W.cell? ⟨w.heap.size, 0, none⟩ = some (.int .i64 1) ∧ W.cell? ⟨w.heap.size, 1, none⟩ = some (.int .i64 1) ∧ W.cell? ⟨w.heap.size, 2, none⟩ = some (.int .i64 1) := fun W h => HI.out W (B4.out.trans (h.mono B4.out.size))
  have hs4 : w3.heap.size ≤ w4.heap.size := hb.size
  clear hb hn3
  go_wp2_with fail
  clear p0 p1 p2 p3 p4 p5 p6 p7
  refine hPu.mono ?_
  rintro e w5 ⟨g, v1, v2, v3, rfl, hS5, hg5, hs5, ho5⟩
  obtain ⟨x1, y1, rfl⟩ := (IsRow.own ho5.1).form
  obtain ⟨x2, y2, rfl⟩ := (IsRow.own ho5.2.1).form
  obtain ⟨x3, y3, rfl⟩ := (IsRow.own ho5.2.2).form
  have hI5 : w5.cell? ⟨w.heap.size, 0, none⟩ = some (.int .i64 1) ∧ w5.cell? ⟨w.heap.size, 1, none⟩ = some (.int .i64 1) ∧ w5.cell? ⟨w.heap.size, 2, none⟩ = some (.int .i64 1) := by
    obtain ⟨q0, q1, q2⟩ := c4 w4 (Below.refl _ _)
    exact ⟨cell_stp hs5 (by omega) (by omega) q0, cell_stp hs5 (by omega) (by omega) q1, cell_stp hs5 (by omega) (by omega) q2⟩
  have A5 : Hid (Below w.heap.size w w5) := A4.out.trans (hs5.below A4.out.size fun k hk => by omega)
  have hs45 := hs5.size
  obtain ⟨w6, hw6⟩ : ∃ w6, w6 = w5.alloc (.cells (tyA exT (.slice x1 exT.own.length y1) (.slice x2 exT.all.length y2) (.slice x3 exT.ch.length y3)) 35) := ⟨_, rfl⟩
  have D6 : Hid (Below w5.heap.size w5 w6) := by show Below _ _ _; rw [hw6]; exact al_b _ _
  have hz6 : w6.heap.size = w5.heap.size + 1 := by rw [hw6]; simp
  obtain ⟨w7, hw7⟩ : ∃ w7, w7 = w6.alloc (.cells #[.int .i64 2, .int .i64 5] 3) := ⟨_, rfl⟩
  have D7 : Hid (Below w6.heap.size w6 w7) := by show Below _ _ _; rw [hw7]; exact al_b _ _
  have hn7 : w7.heap[w5.heap.size + 1]? = some (.cells #[.int .i64 2, .int .i64 5] 3 (0, 0)) := by rw [hw7, ← hz6]; exact new_at _ _
  have D57 : Hid (Below w5.heap.size w5 w7) := D6.out.trans (D7.out.mono D6.out.size)
  have A7 : Hid (Below w.heap.size w w7) := A5.out.trans (D57.out.mono A5.out.size)
  have hgl : g < w5.heap.size := (hS5.lt (.inr (by simp [stS, lkS]))).2
  have hS7 := hS5.below D57.out
  have hI7 : w7.cell? ⟨w.heap.size, 0, none⟩ = some (.int .i64 1) ∧ w7.cell? ⟨w.heap.size, 1, none⟩ = some (.int .i64 1) ∧ w7.cell? ⟨w.heap.size, 2, none⟩ = some (.int .i64 1) := ⟨(D57.out.cell (p := ⟨w.heap.size, 0, none⟩) (by show w.heap.size < _; omega)).trans hI5.1, (D57.out.cell (p := ⟨w.heap.size, 1, none⟩) (by show w.heap.size < _; omega)).trans hI5.2.1, (D57.out.cell (p := ⟨w.heap.size, 2, none⟩) (by show w.heap.size < _; omega)).trans hI5.2.2⟩
  have hXg : ∀ X : Nat → Kp, upX X g ⟨exT, false, zW⟩ g = ⟨exT, false, zW⟩ := fun X => if_pos rfl
  have hBe := begin_new hS7 ⟨#[110, 101, 119, 115]⟩ (by decide) (g := g) (by rw [exK_low]; show lkS (stS [] exK g) exK = some g; simp [stS, lkS]) (.slice (some ⟨w5.heap.size + 1, 0, none⟩) 2 2) [2, 5] ⟨rfl, .inr ⟨_, 0, 2, rfl, (Array.getElem?_eq_some_iff.1 hn7).1, Nat.le_refl _, by decide, fun j u hu => by
    rw [Lib.cell_of_heap hn7, Nat.zero_add, List.getElem?_toArray]
    exact hu⟩⟩ (by decide) exP (fun _ p a c h => by cases h; show w5.heap.size + 1 ≠ g; omega) (HT.out w7 A7.out).1
  go_wp2_with fail
  rw [← hw6, ← hw7]
  clear hw6 hw7 hn7 hS5 ho5 hS hPu c4 HRo HI HTy
  refine hBe.mono ?_
  rintro e w8 ⟨rfl, hS8, hs8⟩
  have hs57 := D57.out.size
  have hs78 := hs8.size
  have hI8 : w8.cell? ⟨w.heap.size, 0, none⟩ = some (.int .i64 1) ∧ w8.cell? ⟨w.heap.size, 1, none⟩ = some (.int .i64 1) ∧ w8.cell? ⟨w.heap.size, 2, none⟩ = some (.int .i64 1) := ⟨cell_stp hs8 (by omega) (by omega) hI7.1, cell_stp hs8 (by omega) (by omega) hI7.2.1, cell_stp hs8 (by omega) (by omega) hI7.2.2⟩
  have A8 : Hid (Below w.heap.size w w8) := A7.out.trans (hs8.below A7.out.size fun k hk => by omega)
  obtain ⟨X8, hX8e⟩ : ∃ X8, X8 = upX (upX (fun _ => ⟨exT, false, zW⟩) g ⟨exT, false, zW⟩) g ⟨(upX (fun _ => ⟨exT, false, zW⟩) g ⟨exT, false, zW⟩ g).t, decide (([2, 5] : List Int) = []), inW [2, 5]⟩ := ⟨_, rfl⟩
  rw [← hX8e] at hS8
  have hX8 : X8 g = ⟨exT, false, inW [2, 5]⟩ := by rw [hX8e]; simp [upX]
  have hY8 := stored_yes hS8 ⟨#[110, 101, 119, 115]⟩ (by decide) (g := g) (by rw [exK_low]; show lkS (stS [] exK g) exK = some g; simp [stS, lkS]) 5 (HT.out w8 A8.out).1 (by kernel_rfl) (by rw [hX8]; kernel_rfl)
  rw [hX8] at hY8
  clear hX8e hX8 hS7
  obtain ⟨i0, i1, i2⟩ := hI8
  go_wp2_with fail
  have hI8 := And.intro i0 (And.intro i1 i2)
  clear i0 i1 i2
  refine hY8.mono ?_
  rintro e w9 ⟨he, hS9, hs9⟩
  have he' : e = .returned (.tuple #[.bool false, .int .i64 0]) := he.trans (by kernel_rfl)
  subst he'
  clear he hY8
  have hs89 := hs9.size
  have hI9 : w9.cell? ⟨w.heap.size, 0, none⟩ = some (.int .i64 1) ∧ w9.cell? ⟨w.heap.size, 1, none⟩ = some (.int .i64 1) ∧ w9.cell? ⟨w.heap.size, 2, none⟩ = some (.int .i64 1) := ⟨cell_stp hs9 (by omega) (by omega) hI8.1, cell_stp hs9 (by omega) (by omega) hI8.2.1, cell_stp hs9 (by omega) (by omega) hI8.2.2⟩
  have A9 : Hid (Below w.heap.size w w9) := A8.out.trans (hs9.below A8.out.size fun k hk => by omega)
  obtain ⟨X9, hX9⟩ : ∃ X9, X9 g = ⟨exT, false, updW (inW [2, 5]) 5 false⟩ ∧ StV w3.heap.size w9 s m (stS [] (fldB exT.n) g) X9 := ⟨_, (if_pos rfl).trans (by kernel_rfl), hS9⟩
  clear hS9
  have hY9 := stored_no hX9.2 ⟨#[110, 101, 119, 115]⟩ (by decide) (g := g) (by rw [exK_low]; show lkS (stS [] exK g) exK = some g; simp [stS, lkS]) 5 (HT.out w9 A9.out).1 (by rw [hX9.1]; kernel_rfl)
  rw [hX9.1] at hY9
  obtain ⟨i0, i1, i2⟩ := hI9
  go_wp2_with fail
  have hI9 := And.intro i0 (And.intro i1 i2)
  clear i0 i1 i2
  refine hY9.mono ?_
  rintro e w10 ⟨rfl, hb⟩
  have hI10 : w10.cell? ⟨w.heap.size, 0, none⟩ = some (.int .i64 1) ∧ w10.cell? ⟨w.heap.size, 1, none⟩ = some (.int .i64 1) ∧ w10.cell? ⟨w.heap.size, 2, none⟩ = some (.int .i64 1) := ⟨(hb.cell (p := ⟨w.heap.size, 0, none⟩) (by show w.heap.size < _; omega)).trans hI9.1, (hb.cell (p := ⟨w.heap.size, 1, none⟩) (by show w.heap.size < _; omega)).trans hI9.2.1, (hb.cell (p := ⟨w.heap.size, 2, none⟩) (by show w.heap.size < _; omega)).trans hI9.2.2⟩
  have A10 : Hid (Below w.heap.size w w10) := A9.out.trans (hb.mono A9.out.size)
  have hs910 := hb.size
  have hY10 := stored_yes (hX9.2.below hb) ⟨#[110, 101, 119, 115]⟩ (by decide) (g := g) (by rw [exK_low]; show lkS (stS [] exK g) exK = some g; simp [stS, lkS]) 2 (HT.out w10 A10.out).1 (by kernel_rfl) (by rw [hX9.1]; kernel_rfl)
  rw [hX9.1] at hY10
  clear hb hX9 hY9 HT
  obtain ⟨i0, i1, i2⟩ := hI10
  go_wp2_with fail
  clear i0 i1 i2
  refine hY10.mono ?_
  rintro e w11 ⟨he, -, hs11⟩
  have he' : e = .returned (.tuple #[.bool true, .int .i64 0]) := he.trans (by kernel_rfl)
  subst he'
  have A11 : Hid (Below w.heap.size w w11) := A10.out.trans (hs11.below A10.out.size fun k hk => by omega)
  clear he hY10 hI8 hI9 hs9 hs8 hs11 hI5 hI7
  go_wp2
  go_ret
  exact ⟨rfl, A11.out⟩
end Go.Proofs.YthdbnlpbidkojaaGreatDoor
/- forest.Same: its walk. -/
namespace Go.Proofs.YthdbnlpbidkojaaGreatDoor
open Go.RowKit Go.ChangeMaps

def eqI (t u : Ty) : Bool := decide (t.nd = u.nd ∧ t.lf = u.lf ∧ t.sq = u.sq)
/-- Are two types the same in all? -/
def sameT (t u : Ty) : Bool := decide (t.n = u.n) && (decide (t.p = u.p) && (eqI t u && (sameR t.own u.own && (sameR t.all u.all && sameS t.ch u.ch))))
theorem sameT_iff (t u : Ty) : sameT t u = true ↔ t = u := by
  unfold sameT eqI sameS
  simp only [Bool.and_eq_true, decide_eq_true_eq, sameR_iff]
  obtain ⟨n, p, o, a, c, nd, lf, sq⟩ := t
  obtain ⟨n', p', o', a', c', nd', lf', sq'⟩ := u
  simp only [Ty.mk.injEq]
  constructor
  · rintro ⟨rfl, rfl, ⟨rfl, rfl, rfl⟩, rfl, rfl, rfl⟩
    exact ⟨rfl, rfl, rfl, rfl, rfl, rfl, rfl, rfl⟩
  · rintro ⟨rfl, rfl, rfl, rfl, rfl, rfl, rfl, rfl⟩
    exact ⟨rfl, rfl, ⟨rfl, rfl, rfl⟩, rfl, rfl, rfl⟩
set_option maxRecDepth 100000 in
set_option maxHeartbeats 4000000 in
theorem sameT_any (x o : LT) (w : World) (hx : IsTy w x.t x.vo x.va x.vc) (ho : IsTy w o.t o.vo o.va o.vc) (mx : x.t.own.length ≤ 1000000 ∧ x.t.all.length ≤ 1000000 ∧ x.t.ch.length ≤ 1000000) (mo : o.t.own.length ≤ 1000000 ∧ o.t.all.length ≤ 1000000 ∧ o.t.ch.length ≤ 1000000) :
    Calls Tryz.prog 14 #[ltV x, ltV o] w fun e w' => e = .returned (.bool (sameT x.t o.t)) ∧ Below w.heap.size w w' := by
  obtain ⟨W0, hW0⟩ : ∃ W0, W0 = (w.alloc (.cells (tyA x.t x.vo x.va x.vc) 35)).alloc (.cells (tyA o.t o.vo o.va o.vc) 35) := ⟨_, rfl⟩
  have hA : Below w.heap.size w W0 := by rw [hW0]; exact (al_b w _).trans ((al_b _ _).mono (by simp))
  have hz : W0.heap.size = w.heap.size + 2 := by rw [hW0]; simp
  have hn0 : W0.heap[w.heap.size]? = some (.cells (tyA x.t x.vo x.va x.vc) 35 (0, 0)) := by
    rw [hW0]
    show ((w.heap.push _).push _)[w.heap.size]? = _
    rw [Array.getElem?_push, if_neg (by simp), Array.getElem?_push, if_pos rfl]
  have hn1 : W0.heap[w.heap.size + 1]? = some (.cells (tyA o.t o.vo o.va o.vc) 35 (0, 0)) := by
    rw [hW0]
    show ((w.heap.push _).push _)[w.heap.size + 1]? = _
    rw [Array.getElem?_push, if_pos (by simp)]
  have HX : Hid (∀ W, Below W0.heap.size W0 W → BxT w.heap.size x.t x.vo x.va x.vc W) := fun W h => BxT.of ((h.block _ (by omega)).trans hn0)
  have HY : Hid (∀ W, Below W0.heap.size W0 W → BxT (w.heap.size + 1) o.t o.vo o.va o.vc W) := fun W h => BxT.of ((h.block _ (by omega)).trans hn1)
  have HBw : Hid (∀ W, Below W0.heap.size W0 W → Below w.heap.size w W) := fun W h => hA.trans (h.mono hA.size)
  have HE1 : Hid (∀ W, Below W0.heap.size W0 W → Calls Tryz.prog 40 #[x.vo, o.vo] W fun e w' => e = .returned (.bool (sameR x.t.own o.t.own)) ∧ Below W.heap.size W w') := fun W h => equalF_any _ _ x.t.own o.t.own W (hx.1.below (HBw.out W h)) (ho.1.below (HBw.out W h)) mx.1 mo.1
  have HE2 : Hid (∀ W, Below W0.heap.size W0 W → Calls Tryz.prog 40 #[x.va, o.va] W fun e w' => e = .returned (.bool (sameR x.t.all o.t.all)) ∧ Below W.heap.size W w') := fun W h => equalF_any _ _ x.t.all o.t.all W (hx.2.1.below (HBw.out W h)) (ho.2.1.below (HBw.out W h)) mx.2.1 mo.2.1
  have HE3 : Hid (∀ W, Below W0.heap.size W0 W → Calls Tryz.prog 41 #[x.vc, o.vc] W fun e w' => e = .returned (.bool (sameS x.t.ch o.t.ch)) ∧ Below W.heap.size W w') := fun W h => equalS_any _ _ x.t.ch o.t.ch W (hx.2.2.below (HBw.out W h)) (ho.2.2.below (HBw.out W h)) mx.2.2 mo.2.2
  have HD : Hid (sameT x.t o.t = (decide (x.t.n = o.t.n) && (decide (x.t.p = o.t.p) && (eqI x.t o.t && (sameR x.t.own o.t.own && (sameR x.t.all o.t.all && sameS x.t.ch o.t.ch)))))) := rfl
  have eN := strEqB x.t.n o.t.n
  have eP := strEqB x.t.p o.t.p
  clear hx ho mx mo hA hn0 hn1
  generalize sameT x.t o.t = BB at *
  generalize sameR x.t.own o.t.own = B1 at *
  generalize sameR x.t.all o.t.all = B2 at *
  generalize sameS x.t.ch o.t.ch = B3 at *
  have HB0 : Hid (Below w.heap.size w W0) := HBw.out _ (Below.refl _ _)
  obtain ⟨⟨a0, a1, a2, a3⟩, a4, a5, a6, a7⟩ := HX.out W0 (Below.refl _ _)
  obtain ⟨⟨b0, b1, b2, b3⟩, b4, b5, b6, b7⟩ := HY.out W0 (Below.refl _ _)
  by_cases h1 : x.t.n = o.t.n
  rotate_left
  · have hB : BB = false := by rw [HD.out, decide_eq_false h1, Bool.false_and]
    subst hB
    rw [decide_eq_false h1] at eN
    clear HD h1 HE1 HE2 HE3
    go_enter Tryz.func14, Tryz.ntmps14
    go_wp2_with fail
    rw [← hW0]
    clear hW0
    go_wp2
    go_ret
    exact ⟨rfl, HB0.out⟩
  rw [decide_eq_true h1] at eN
  by_cases h2 : x.t.p = o.t.p
  rotate_left
  · have hB : BB = false := by rw [HD.out, decide_eq_false h2, Bool.false_and, Bool.and_false]
    subst hB
    rw [decide_eq_false h2] at eP
    clear HD h1 h2 HE1 HE2 HE3
    go_enter Tryz.func14, Tryz.ntmps14
    go_wp2_with fail
    rw [← hW0]
    clear hW0
    go_wp2
    go_ret
    exact ⟨rfl, HB0.out⟩
  rw [decide_eq_true h2] at eP
  by_cases h3 : x.t.nd = o.t.nd ∧ x.t.lf = o.t.lf ∧ x.t.sq = o.t.sq
  rotate_left
  · have hB : BB = false := by rw [HD.out]; unfold eqI; rw [decide_eq_false h3, Bool.false_and, Bool.and_false, Bool.and_false]
    subst hB
    clear HD h1 h2 HE1 HE2 HE3
    by_cases e1 : x.t.nd = o.t.nd
    rotate_left
    · clear h3
      go_enter Tryz.func14, Tryz.ntmps14
      go_wp2_with fail
      rw [← hW0]
      clear hW0
      go_wp2
      go_ret
      exact ⟨rfl, HB0.out⟩
    by_cases e2 : x.t.lf = o.t.lf
    rotate_left
    · clear h3
      go_enter Tryz.func14, Tryz.ntmps14
      go_wp2_with fail
      rw [← hW0]
      clear hW0
      go_wp2
      go_ret
      exact ⟨rfl, HB0.out⟩
    have e3 : ¬ x.t.sq = o.t.sq := fun e3 => h3 ⟨e1, e2, e3⟩
    clear h3
    go_enter Tryz.func14, Tryz.ntmps14
    go_wp2_with fail
    rw [← hW0]
    clear hW0
    go_wp2
    go_ret
    exact ⟨rfl, HB0.out⟩
  have hI : eqI x.t o.t = true := by unfold eqI; exact decide_eq_true h3
  obtain ⟨j1, j2, j3⟩ := h3
  have HD2 : Hid (BB = (B1 && (B2 && B3))) := by show _ = _; rw [HD.out, decide_eq_true h1, decide_eq_true h2, hI, Bool.true_and, Bool.true_and, Bool.true_and]
  clear HD h1 h2 hI
  go_enter Tryz.func14, Tryz.ntmps14
  go_wp2_with fail
  rw [← hW0]
  clear hW0
  go_wp2_with fail
  refine (HE1.out W0 (Below.refl _ _)).mono ?_
  rintro e w1 ⟨rfl, hbw1⟩
  have Hw1 : Hid (Below W0.heap.size W0 w1) := hbw1
  have HBw1 : Hid (Below w.heap.size w w1) := HBw.out _ Hw1.out
  clear hbw1 a0 a1 a2 a3 a4 a5 a6 a7 b0 b1 b2 b3 b4 b5 b6 b7
  obtain ⟨⟨a0, a1, a2, a3⟩, a4, a5, a6, a7⟩ := HX.out w1 Hw1.out
  obtain ⟨⟨b0, b1, b2, b3⟩, b4, b5, b6, b7⟩ := HY.out w1 Hw1.out
  cases B1
  · have hB : BB = false := by rw [HD2.out, Bool.false_and]
    subst hB
    go_wp2
    go_ret
    exact ⟨rfl, HBw1.out⟩
  go_wp2_with fail
  refine (HE2.out w1 Hw1.out).mono ?_
  rintro e w2 ⟨rfl, hbw2⟩
  have Hw2 : Hid (Below W0.heap.size W0 w2) := Hw1.out.trans (hbw2.mono Hw1.out.size)
  have HBw2 : Hid (Below w.heap.size w w2) := HBw.out _ Hw2.out
  clear hbw2 a0 a1 a2 a3 a4 a5 a6 a7 b0 b1 b2 b3 b4 b5 b6 b7
  obtain ⟨⟨a0, a1, a2, a3⟩, a4, a5, a6, a7⟩ := HX.out w2 Hw2.out
  obtain ⟨⟨b0, b1, b2, b3⟩, b4, b5, b6, b7⟩ := HY.out w2 Hw2.out
  cases B2
  · have hB : BB = false := by rw [HD2.out, Bool.false_and, Bool.and_false]
    subst hB
    go_wp2
    go_ret
    exact ⟨rfl, HBw2.out⟩
  go_wp2_with fail
  refine (HE3.out w2 Hw2.out).mono ?_
  rintro e w3 ⟨rfl, hbw3⟩
  have Hw3 : Hid (Below W0.heap.size W0 w3) := Hw2.out.trans (hbw3.mono Hw2.out.size)
  have HBw3 : Hid (Below w.heap.size w w3) := HBw.out _ Hw3.out
  clear hbw3 a0 a1 a2 a3 a4 a5 a6 a7 b0 b1 b2 b3 b4 b5 b6 b7
  obtain ⟨⟨a0, a1, a2, a3⟩, a4, a5, a6, a7⟩ := HX.out w3 Hw3.out
  obtain ⟨⟨b0, b1, b2, b3⟩, b4, b5, b6, b7⟩ := HY.out w3 Hw3.out
  have hB : BB = B3 := by rw [HD2.out, Bool.true_and, Bool.true_and]
  subst hB
  go_wp2
  go_ret
  exact ⟨rfl, HBw3.out⟩
end Go.Proofs.YthdbnlpbidkojaaGreatDoor
