/- law17's awake: its walk. -/
import Derived.Test.YthdbnlpbidkojaaGreatDoorZk16
import Derived.Test.YthdbnlpbidkojaaGreatDoorZk14
import Derived.Test.YthdbnlpbidkojaaGreatDoorZk9
import Derived.Test.YthdbnlpbidkojaaGreatDoorZk11
import Derived.Test.YthdbnlpbidkojaaGreatDoorZk5
import Derived.Shelf.GgSortFunc.SW
namespace Go.Proofs.YthdbnlpbidkojaaGreatDoor
open Go.RowKit Go.ChangeMaps

def exT : Ty := ⟨⟨#[78, 101, 119, 115]⟩, ⟨#[]⟩, [], [], [⟨#[78, 101, 119, 115]⟩], 1, 1, 1⟩
def exK : ByteArray := fldB ⟨#[78, 101, 119, 115]⟩
theorem exK_low : fldB ⟨#[110, 101, 119, 115]⟩ = exK := by kernel_rfl
theorem exRoot : rootR ⟨#[78, 101, 119, 115]⟩ [] 1 1 1 = (exT, 0) := by kernel_rfl
theorem exChk : chkT exT = true := by kernel_rfl
theorem exNm : NmT exT := ⟨by decide, by decide, fun s hs => by simp [exT] at hs; subst hs; decide, fun x hx => by simp [exT] at hx, fun x hx => by simp [exT] at hx, by decide, by decide, by decide⟩
theorem exP : NodesP [2, 5] := fun k h => by
  have : k = 0 ∨ k = 1 := by simp at h; omega
  rcases this with rfl | rfl
  · exact ⟨by show (1 : Int) ≤ 2; decide, by show (2 : Int) ≤ 15; decide, fun i e => by omega⟩
  · refine ⟨by show (1 : Int) ≤ 5; decide, by show (5 : Int) ≤ 15; decide, fun i e => ?_⟩
    obtain rfl : i = 0 := by omega
    show (2 : Int) < 5
    decide
theorem cell_stp {w w' : World} {g p j : Nat} {v : Value} (h : Stp w (fun k => k = g) (fun k => k = g) w') (hp : p < w.heap.size) (hne : p ≠ g) (hc : w.cell? ⟨p, j, none⟩ = some v) : w'.cell? ⟨p, j, none⟩ = some v := by
  unfold World.cell? at hc ⊢
  dsimp only at hc ⊢
  rw [h.block p hp hne]
  exact hc
set_option maxRecDepth 100000 in
set_option maxHeartbeats 4000000 in
theorem awake17_any (w : World) (hT : UT w) (hM : ML w) :
    Calls Tryz.prog 7 #[] w fun e w' => e = .returned (.bool true) ∧ Below w.heap.size w w' := by
  obtain ⟨w1, hw1⟩ : ∃ w1, w1 = w.alloc (.cells #[.int .i64 1, .int .i64 1, .int .i64 1] 33) := ⟨_, rfl⟩
  have B1 : Hid (Below w.heap.size w w1) := by show Below _ _ _; rw [hw1]; exact al_b _ _
  have hn1 : w1.heap[w.heap.size]? = some (.cells #[.int .i64 1, .int .i64 1, .int .i64 1] 33 (0, 0)) := by rw [hw1]; exact new_at _ _
  have HI : Hid (∀ W, Below w1.heap.size w1 W → W.cell? ⟨w.heap.size, 0, none⟩ = some (.int .i64 1) ∧ W.cell? ⟨w.heap.size, 1, none⟩ = some (.int .i64 1) ∧ W.cell? ⟨w.heap.size, 2, none⟩ = some (.int .i64 1)) := fun W hb => by
    have hk := (hb.block _ (Array.getElem?_eq_some_iff.1 hn1).1).trans hn1
    exact ⟨by rw [Lib.cell_of_heap hk]; rfl, by rw [Lib.cell_of_heap hk]; rfl, by rw [Lib.cell_of_heap hk]; rfl⟩
  have hlt1 : w.heap.size < w1.heap.size := (Array.getElem?_eq_some_iff.1 hn1).1
  have HRo : Hid (∀ W, Below w.heap.size w W → Calls Tryz.prog 25 #[.string ⟨#[78, 101, 119, 115]⟩, .slice none 0 0, idV 1 1 1] W fun e w' => MkP (exT, 0) W e w') := fun W hb => exRoot ▸ root_any ⟨#[78, 101, 119, 115]⟩ (.slice none 0 0) [] 1 1 1 W (by decide) (IsRow.nil _ _) (by decide) (fun x hx => by simp at hx) (Utf8Tabs_below hT hb) (ML_below hM hb)
  have HT : Hid (∀ W, Below w.heap.size w W → UT W ∧ ML W) := fun W hb => ⟨Utf8Tabs_below hT hb, ML_below hM hb⟩
  clear hn1 hT hM
  obtain ⟨i0, i1, i2⟩ := HI.out w1 (Below.refl _ _)
  rw [hw1] at i0 i1 i2
  go_enter Tryz.func7, Tryz.ntmps7
  go_wp2_with fail
  rw [← hw1]
  clear hw1 i0 i1 i2
  refine (HRo.out _ B1.out).mono ?_
  rintro e w2 ⟨⟨t, ao, co, aa, ca, ac, cc⟩, rfl, ht, hty, hnew, hb⟩
  dsimp only at ht hty
  subst ht
  have D2 : Hid (Below w1.heap.size w1 w2) := hb
  have HTy : Hid (∀ W, CKp w2 W → IsTy W exT (.slice ao exT.own.length co) (.slice aa exT.all.length ca) (.slice ac exT.ch.length cc)) := fun W h => h.ty hty
  clear hb hty hnew
  obtain ⟨w3, hw3⟩ : ∃ w3, w3 = w2.alloc (.cells (tyA exT (.slice ao exT.own.length co) (.slice aa exT.all.length ca) (.slice ac exT.ch.length cc)) 35) := ⟨_, rfl⟩
  have D3 : Hid (Below w2.heap.size w2 w3) := by show Below _ _ _; rw [hw3]; exact al_b _ _
  have hn3 : w3.heap[w2.heap.size]? = some (.cells (tyA exT (.slice ao exT.own.length co) (.slice aa exT.all.length ca) (.slice ac exT.ch.length cc)) 35 (0, 0)) := by rw [hw3]; exact new_at _ _
  have B3 : Hid (Below w1.heap.size w1 w3) := D2.out.trans (D3.out.mono D2.out.size)
  go_wp2_with fail
  rw [← hw3]
  clear hw3
  refine (storeNew_any w3 (fun _ => ⟨exT, false, zW⟩)).mono ?_
  rintro e w4 ⟨s, m, rfl, hS, hb⟩
  have D4 : Hid (Below w3.heap.size w3 w4) := hb
  have B4 : Hid (Below w1.heap.size w1 w4) := B3.out.trans (hb.mono B3.out.size)
  have A4 : Hid (Below w.heap.size w w4) := B1.out.trans (B4.out.mono B1.out.size)
  obtain ⟨⟨p0, p1, p2, p3⟩, p4, p5, p6, p7⟩ := BxT.of ((hb.block _ (Array.getElem?_eq_some_iff.1 hn3).1).trans hn3)
  have hPu := put_new hS hb.size exT _ _ _ (HTy.out w4 ((CKp.of D3.out).trans (CKp.of hb))) (by decide) (by decide) (by decide) exNm (HT.out w4 A4.out).1 (HT.out w4 A4.out).2 exChk (fun _ => by decide) (fun g0 h => by cases h)
  have hlm : w3.heap.size ≤ m := hS.lm
  have hsz : w1.heap.size ≤ w3.heap.size := B3.out.size
  have c4 : ∀ W, Below w4.heap.size w4 W → W.cell? ⟨w.heap.size, 0, none⟩ = some (.int .i64 1) ∧ W.cell? ⟨w.heap.size, 1, none⟩ = some (.int .i64 1) ∧ W.cell? ⟨w.heap.size, 2, none⟩ = some (.int .i64 1) := fun W h => HI.out W (B4.out.trans (h.mono B4.out.size))
  have hs4 : w3.heap.size ≤ w4.heap.size := hb.size
  clear hb hn3
  go_wp2_with fail
  clear p0 p1 p2 p3 p4 p5 p6 p7
  refine hPu.mono ?_
  rintro e w5 ⟨g, v1, v2, v3, rfl, hS5, hg5, hs5, ho5⟩
  obtain ⟨x1, y1, rfl⟩ := (IsRow.own ho5.1).form
  obtain ⟨x2, y2, rfl⟩ := (IsRow.own ho5.2.1).form
  obtain ⟨x3, y3, rfl⟩ := (IsRow.own ho5.2.2).form
  have hI5 : w5.cell? ⟨w.heap.size, 0, none⟩ = some (.int .i64 1) ∧ w5.cell? ⟨w.heap.size, 1, none⟩ = some (.int .i64 1) ∧ w5.cell? ⟨w.heap.size, 2, none⟩ = some (.int .i64 1) := by
    obtain ⟨q0, q1, q2⟩ := c4 w4 (Below.refl _ _)
    exact ⟨cell_stp hs5 (by omega) (by omega) q0, cell_stp hs5 (by omega) (by omega) q1, cell_stp hs5 (by omega) (by omega) q2⟩
  have A5 : Hid (Below w.heap.size w w5) := A4.out.trans (hs5.below A4.out.size fun k hk => by omega)
  have hs45 := hs5.size
  obtain ⟨w6, hw6⟩ : ∃ w6, w6 = w5.alloc (.cells (tyA exT (.slice x1 exT.own.length y1) (.slice x2 exT.all.length y2) (.slice x3 exT.ch.length y3)) 35) := ⟨_, rfl⟩
  have D6 : Hid (Below w5.heap.size w5 w6) := by show Below _ _ _; rw [hw6]; exact al_b _ _
  have hz6 : w6.heap.size = w5.heap.size + 1 := by rw [hw6]; simp
  obtain ⟨w7, hw7⟩ : ∃ w7, w7 = w6.alloc (.cells #[.int .i64 2, .int .i64 5] 3) := ⟨_, rfl⟩
  have D7 : Hid (Below w6.heap.size w6 w7) := by show Below _ _ _; rw [hw7]; exact al_b _ _
  have hn7 : w7.heap[w5.heap.size + 1]? = some (.cells #[.int .i64 2, .int .i64 5] 3 (0, 0)) := by rw [hw7, ← hz6]; exact new_at _ _
  have D57 : Hid (Below w5.heap.size w5 w7) := D6.out.trans (D7.out.mono D6.out.size)
  have A7 : Hid (Below w.heap.size w w7) := A5.out.trans (D57.out.mono A5.out.size)
  have hgl : g < w5.heap.size := (hS5.lt (.inr (by simp [stS, lkS]))).2
  have hS7 := hS5.below D57.out
  have hI7 : w7.cell? ⟨w.heap.size, 0, none⟩ = some (.int .i64 1) ∧ w7.cell? ⟨w.heap.size, 1, none⟩ = some (.int .i64 1) ∧ w7.cell? ⟨w.heap.size, 2, none⟩ = some (.int .i64 1) := ⟨(D57.out.cell (p := ⟨w.heap.size, 0, none⟩) (by show w.heap.size < _; omega)).trans hI5.1, (D57.out.cell (p := ⟨w.heap.size, 1, none⟩) (by show w.heap.size < _; omega)).trans hI5.2.1, (D57.out.cell (p := ⟨w.heap.size, 2, none⟩) (by show w.heap.size < _; omega)).trans hI5.2.2⟩
  have hXg : ∀ X : Nat → Kp, upX X g ⟨exT, false, zW⟩ g = ⟨exT, false, zW⟩ := fun X => if_pos rfl
  have hBe := begin_new hS7 ⟨#[110, 101, 119, 115]⟩ (by decide) (g := g) (by rw [exK_low]; show lkS (stS [] exK g) exK = some g; simp [stS, lkS]) (.slice (some ⟨w5.heap.size + 1, 0, none⟩) 2 2) [2, 5] ⟨rfl, .inr ⟨_, 0, 2, rfl, (Array.getElem?_eq_some_iff.1 hn7).1, Nat.le_refl _, by decide, fun j u hu => by
    rw [Lib.cell_of_heap hn7, Nat.zero_add, List.getElem?_toArray]
    exact hu⟩⟩ (by decide) exP (fun _ p a c h => by cases h; show w5.heap.size + 1 ≠ g; omega) (HT.out w7 A7.out).1
  go_wp2_with fail
  rw [← hw6, ← hw7]
  clear hw6 hw7 hn7 hS5 ho5 hS hPu c4 HRo HI HTy
  refine hBe.mono ?_
  rintro e w8 ⟨rfl, hS8, hs8⟩
  have hs57 := D57.out.size
  have hs78 := hs8.size
  have hI8 : w8.cell? ⟨w.heap.size, 0, none⟩ = some (.int .i64 1) ∧ w8.cell? ⟨w.heap.size, 1, none⟩ = some (.int .i64 1) ∧ w8.cell? ⟨w.heap.size, 2, none⟩ = some (.int .i64 1) := ⟨cell_stp hs8 (by omega) (by omega) hI7.1, cell_stp hs8 (by omega) (by omega) hI7.2.1, cell_stp hs8 (by omega) (by omega) hI7.2.2⟩
  have A8 : Hid (Below w.heap.size w w8) := A7.out.trans (hs8.below A7.out.size fun k hk => by omega)
  obtain ⟨X8, hX8e⟩ : ∃ X8, X8 = upX (upX (fun _ => ⟨exT, false, zW⟩) g ⟨exT, false, zW⟩) g ⟨(upX (fun _ => ⟨exT, false, zW⟩) g ⟨exT, false, zW⟩ g).t, decide (([2, 5] : List Int) = []), inW [2, 5]⟩ := ⟨_, rfl⟩
  rw [← hX8e] at hS8
  have hX8 : X8 g = ⟨exT, false, inW [2, 5]⟩ := by rw [hX8e]; simp [upX]
  have hY8 := stored_yes hS8 ⟨#[110, 101, 119, 115]⟩ (by decide) (g := g) (by rw [exK_low]; show lkS (stS [] exK g) exK = some g; simp [stS, lkS]) 5 (HT.out w8 A8.out).1 (by kernel_rfl) (by rw [hX8]; kernel_rfl)
  rw [hX8] at hY8
  clear hX8e hX8 hS7
  obtain ⟨i0, i1, i2⟩ := hI8
  go_wp2_with fail
  have hI8 := And.intro i0 (And.intro i1 i2)
  clear i0 i1 i2
  refine hY8.mono ?_
  rintro e w9 ⟨he, hS9, hs9⟩
  have he' : e = .returned (.tuple #[.bool false, .int .i64 0]) := he.trans (by kernel_rfl)
  subst he'
  clear he hY8
  have hs89 := hs9.size
  have hI9 : w9.cell? ⟨w.heap.size, 0, none⟩ = some (.int .i64 1) ∧ w9.cell? ⟨w.heap.size, 1, none⟩ = some (.int .i64 1) ∧ w9.cell? ⟨w.heap.size, 2, none⟩ = some (.int .i64 1) := ⟨cell_stp hs9 (by omega) (by omega) hI8.1, cell_stp hs9 (by omega) (by omega) hI8.2.1, cell_stp hs9 (by omega) (by omega) hI8.2.2⟩
  have A9 : Hid (Below w.heap.size w w9) := A8.out.trans (hs9.below A8.out.size fun k hk => by omega)
  obtain ⟨X9, hX9⟩ : ∃ X9, X9 g = ⟨exT, false, updW (inW [2, 5]) 5 false⟩ ∧ StV w3.heap.size w9 s m (stS [] (fldB exT.n) g) X9 := ⟨_, (if_pos rfl).trans (by kernel_rfl), hS9⟩
  clear hS9
  have hY9 := stored_no hX9.2 ⟨#[110, 101, 119, 115]⟩ (by decide) (g := g) (by rw [exK_low]; show lkS (stS [] exK g) exK = some g; simp [stS, lkS]) 5 (HT.out w9 A9.out).1 (by rw [hX9.1]; kernel_rfl)
  rw [hX9.1] at hY9
  obtain ⟨i0, i1, i2⟩ := hI9
  go_wp2_with fail
  have hI9 := And.intro i0 (And.intro i1 i2)
  clear i0 i1 i2
  refine hY9.mono ?_
  rintro e w10 ⟨rfl, hb⟩
  have hI10 : w10.cell? ⟨w.heap.size, 0, none⟩ = some (.int .i64 1) ∧ w10.cell? ⟨w.heap.size, 1, none⟩ = some (.int .i64 1) ∧ w10.cell? ⟨w.heap.size, 2, none⟩ = some (.int .i64 1) := ⟨(hb.cell (p := ⟨w.heap.size, 0, none⟩) (by show w.heap.size < _; omega)).trans hI9.1, (hb.cell (p := ⟨w.heap.size, 1, none⟩) (by show w.heap.size < _; omega)).trans hI9.2.1, (hb.cell (p := ⟨w.heap.size, 2, none⟩) (by show w.heap.size < _; omega)).trans hI9.2.2⟩
  have A10 : Hid (Below w.heap.size w w10) := A9.out.trans (hb.mono A9.out.size)
  have hs910 := hb.size
  have hY10 := stored_yes (hX9.2.below hb) ⟨#[110, 101, 119, 115]⟩ (by decide) (g := g) (by rw [exK_low]; show lkS (stS [] exK g) exK = some g; simp [stS, lkS]) 2 (HT.out w10 A10.out).1 (by kernel_rfl) (by rw [hX9.1]; kernel_rfl)
  rw [hX9.1] at hY10
  clear hb hX9 hY9 HT
  obtain ⟨i0, i1, i2⟩ := hI10
  go_wp2_with fail
  clear i0 i1 i2
  refine hY10.mono ?_
  rintro e w11 ⟨he, -, hs11⟩
  have he' : e = .returned (.tuple #[.bool true, .int .i64 0]) := he.trans (by kernel_rfl)
  subst he'
  have A11 : Hid (Below w.heap.size w w11) := A10.out.trans (hs11.below A10.out.size fun k hk => by omega)
  clear he hY10 hI8 hI9 hs9 hs8 hs11 hI5 hI7
  go_wp2
  go_ret
  exact ⟨rfl, A11.out⟩
end Go.Proofs.YthdbnlpbidkojaaGreatDoor
/- forest.Same: its walk. -/
namespace Go.Proofs.YthdbnlpbidkojaaGreatDoor
open Go.RowKit Go.ChangeMaps

def eqI (t u : Ty) : Bool := decide (t.nd = u.nd ∧ t.lf = u.lf ∧ t.sq = u.sq)
/-- Are two types the same in all? -/
def sameT (t u : Ty) : Bool := decide (t.n = u.n) && (decide (t.p = u.p) && (eqI t u && (sameR t.own u.own && (sameR t.all u.all && sameS t.ch u.ch))))
theorem sameT_iff (t u : Ty) : sameT t u = true ↔ t = u := by
  unfold sameT eqI sameS
  simp only [Bool.and_eq_true, decide_eq_true_eq, sameR_iff]
  obtain ⟨n, p, o, a, c, nd, lf, sq⟩ := t
  obtain ⟨n', p', o', a', c', nd', lf', sq'⟩ := u
  simp only [Ty.mk.injEq]
  constructor
  · rintro ⟨rfl, rfl, ⟨rfl, rfl, rfl⟩, rfl, rfl, rfl⟩
    exact ⟨rfl, rfl, rfl, rfl, rfl, rfl, rfl, rfl⟩
  · rintro ⟨rfl, rfl, rfl, rfl, rfl, rfl, rfl, rfl⟩
    exact ⟨rfl, rfl, ⟨rfl, rfl, rfl⟩, rfl, rfl, rfl⟩
set_option maxRecDepth 100000 in
set_option maxHeartbeats 4000000 in
theorem sameT_any (x o : LT) (w : World) (hx : IsTy w x.t x.vo x.va x.vc) (ho : IsTy w o.t o.vo o.va o.vc) (mx : x.t.own.length ≤ 1000000 ∧ x.t.all.length ≤ 1000000 ∧ x.t.ch.length ≤ 1000000) (mo : o.t.own.length ≤ 1000000 ∧ o.t.all.length ≤ 1000000 ∧ o.t.ch.length ≤ 1000000) :
    Calls Tryz.prog 14 #[ltV x, ltV o] w fun e w' => e = .returned (.bool (sameT x.t o.t)) ∧ Below w.heap.size w w' := by
  obtain ⟨W0, hW0⟩ : ∃ W0, W0 = (w.alloc (.cells (tyA x.t x.vo x.va x.vc) 35)).alloc (.cells (tyA o.t o.vo o.va o.vc) 35) := ⟨_, rfl⟩
  have hA : Below w.heap.size w W0 := by rw [hW0]; exact (al_b w _).trans ((al_b _ _).mono (by simp))
  have hz : W0.heap.size = w.heap.size + 2 := by rw [hW0]; simp
  have hn0 : W0.heap[w.heap.size]? = some (.cells (tyA x.t x.vo x.va x.vc) 35 (0, 0)) := by
    rw [hW0]
    show ((w.heap.push _).push _)[w.heap.size]? = _
    rw [Array.getElem?_push, if_neg (by simp), Array.getElem?_push, if_pos rfl]
  have hn1 : W0.heap[w.heap.size + 1]? = some (.cells (tyA o.t o.vo o.va o.vc) 35 (0, 0)) := by
    rw [hW0]
    show ((w.heap.push _).push _)[w.heap.size + 1]? = _
    rw [Array.getElem?_push, if_pos (by simp)]
  have HX : Hid (∀ W, Below W0.heap.size W0 W → BxT w.heap.size x.t x.vo x.va x.vc W) := fun W h => BxT.of ((h.block _ (by omega)).trans hn0)
  have HY : Hid (∀ W, Below W0.heap.size W0 W → BxT (w.heap.size + 1) o.t o.vo o.va o.vc W) := fun W h => BxT.of ((h.block _ (by omega)).trans hn1)
  have HBw : Hid (∀ W, Below W0.heap.size W0 W → Below w.heap.size w W) := fun W h => hA.trans (h.mono hA.size)
  have HE1 : Hid (∀ W, Below W0.heap.size W0 W → Calls Tryz.prog 40 #[x.vo, o.vo] W fun e w' => e = .returned (.bool (sameR x.t.own o.t.own)) ∧ Below W.heap.size W w') := fun W h => equalF_any _ _ x.t.own o.t.own W (hx.1.below (HBw.out W h)) (ho.1.below (HBw.out W h)) mx.1 mo.1
  have HE2 : Hid (∀ W, Below W0.heap.size W0 W → Calls Tryz.prog 40 #[x.va, o.va] W fun e w' => e = .returned (.bool (sameR x.t.all o.t.all)) ∧ Below W.heap.size W w') := fun W h => equalF_any _ _ x.t.all o.t.all W (hx.2.1.below (HBw.out W h)) (ho.2.1.below (HBw.out W h)) mx.2.1 mo.2.1
  have HE3 : Hid (∀ W, Below W0.heap.size W0 W → Calls Tryz.prog 41 #[x.vc, o.vc] W fun e w' => e = .returned (.bool (sameS x.t.ch o.t.ch)) ∧ Below W.heap.size W w') := fun W h => equalS_any _ _ x.t.ch o.t.ch W (hx.2.2.below (HBw.out W h)) (ho.2.2.below (HBw.out W h)) mx.2.2 mo.2.2
  have HD : Hid (sameT x.t o.t = (decide (x.t.n = o.t.n) && (decide (x.t.p = o.t.p) && (eqI x.t o.t && (sameR x.t.own o.t.own && (sameR x.t.all o.t.all && sameS x.t.ch o.t.ch)))))) := rfl
  have eN := strEqB x.t.n o.t.n
  have eP := strEqB x.t.p o.t.p
  clear hx ho mx mo hA hn0 hn1
  generalize sameT x.t o.t = BB at *
  generalize sameR x.t.own o.t.own = B1 at *
  generalize sameR x.t.all o.t.all = B2 at *
  generalize sameS x.t.ch o.t.ch = B3 at *
  have HB0 : Hid (Below w.heap.size w W0) := HBw.out _ (Below.refl _ _)
  obtain ⟨⟨a0, a1, a2, a3⟩, a4, a5, a6, a7⟩ := HX.out W0 (Below.refl _ _)
  obtain ⟨⟨b0, b1, b2, b3⟩, b4, b5, b6, b7⟩ := HY.out W0 (Below.refl _ _)
  by_cases h1 : x.t.n = o.t.n
  rotate_left
  · have hB : BB = false := by rw [HD.out, decide_eq_false h1, Bool.false_and]
    subst hB
    rw [decide_eq_false h1] at eN
    clear HD h1 HE1 HE2 HE3
    go_enter Tryz.func14, Tryz.ntmps14
    go_wp2_with fail
    rw [← hW0]
    clear hW0
    go_wp2
    go_ret
    exact ⟨rfl, HB0.out⟩
  rw [decide_eq_true h1] at eN
  by_cases h2 : x.t.p = o.t.p
  rotate_left
  · have hB : BB = false := by rw [HD.out, decide_eq_false h2, Bool.false_and, Bool.and_false]
    subst hB
    rw [decide_eq_false h2] at eP
    clear HD h1 h2 HE1 HE2 HE3
    go_enter Tryz.func14, Tryz.ntmps14
    go_wp2_with fail
    rw [← hW0]
    clear hW0
    go_wp2
    go_ret
    exact ⟨rfl, HB0.out⟩
  rw [decide_eq_true h2] at eP
  by_cases h3 : x.t.nd = o.t.nd ∧ x.t.lf = o.t.lf ∧ x.t.sq = o.t.sq
  rotate_left
  · have hB : BB = false := by rw [HD.out]; unfold eqI; rw [decide_eq_false h3, Bool.false_and, Bool.and_false, Bool.and_false]
    subst hB
    clear HD h1 h2 HE1 HE2 HE3
    by_cases e1 : x.t.nd = o.t.nd
    rotate_left
    · clear h3
      go_enter Tryz.func14, Tryz.ntmps14
      go_wp2_with fail
      rw [← hW0]
      clear hW0
      go_wp2
      go_ret
      exact ⟨rfl, HB0.out⟩
    by_cases e2 : x.t.lf = o.t.lf
    rotate_left
    · clear h3
      go_enter Tryz.func14, Tryz.ntmps14
      go_wp2_with fail
      rw [← hW0]
      clear hW0
      go_wp2
      go_ret
      exact ⟨rfl, HB0.out⟩
    have e3 : ¬ x.t.sq = o.t.sq := fun e3 => h3 ⟨e1, e2, e3⟩
    clear h3
    go_enter Tryz.func14, Tryz.ntmps14
    go_wp2_with fail
    rw [← hW0]
    clear hW0
    go_wp2
    go_ret
    exact ⟨rfl, HB0.out⟩
  have hI : eqI x.t o.t = true := by unfold eqI; exact decide_eq_true h3
  obtain ⟨j1, j2, j3⟩ := h3
  have HD2 : Hid (BB = (B1 && (B2 && B3))) := by show _ = _; rw [HD.out, decide_eq_true h1, decide_eq_true h2, hI, Bool.true_and, Bool.true_and, Bool.true_and]
  clear HD h1 h2 hI
  go_enter Tryz.func14, Tryz.ntmps14
  go_wp2_with fail
  rw [← hW0]
  clear hW0
  go_wp2_with fail
  refine (HE1.out W0 (Below.refl _ _)).mono ?_
  rintro e w1 ⟨rfl, hbw1⟩
  have Hw1 : Hid (Below W0.heap.size W0 w1) := hbw1
  have HBw1 : Hid (Below w.heap.size w w1) := HBw.out _ Hw1.out
  clear hbw1 a0 a1 a2 a3 a4 a5 a6 a7 b0 b1 b2 b3 b4 b5 b6 b7
  obtain ⟨⟨a0, a1, a2, a3⟩, a4, a5, a6, a7⟩ := HX.out w1 Hw1.out
  obtain ⟨⟨b0, b1, b2, b3⟩, b4, b5, b6, b7⟩ := HY.out w1 Hw1.out
  cases B1
  · have hB : BB = false := by rw [HD2.out, Bool.false_and]
    subst hB
    go_wp2
    go_ret
    exact ⟨rfl, HBw1.out⟩
  go_wp2_with fail
  refine (HE2.out w1 Hw1.out).mono ?_
  rintro e w2 ⟨rfl, hbw2⟩
  have Hw2 : Hid (Below W0.heap.size W0 w2) := Hw1.out.trans (hbw2.mono Hw1.out.size)
  have HBw2 : Hid (Below w.heap.size w w2) := HBw.out _ Hw2.out
  clear hbw2 a0 a1 a2 a3 a4 a5 a6 a7 b0 b1 b2 b3 b4 b5 b6 b7
  obtain ⟨⟨a0, a1, a2, a3⟩, a4, a5, a6, a7⟩ := HX.out w2 Hw2.out
  obtain ⟨⟨b0, b1, b2, b3⟩, b4, b5, b6, b7⟩ := HY.out w2 Hw2.out
  cases B2
  · have hB : BB = false := by rw [HD2.out, Bool.false_and, Bool.and_false]
    subst hB
    go_wp2
    go_ret
    exact ⟨rfl, HBw2.out⟩
  go_wp2_with fail
  refine (HE3.out w2 Hw2.out).mono ?_
  rintro e w3 ⟨rfl, hbw3⟩
  have Hw3 : Hid (Below W0.heap.size W0 w3) := Hw2.out.trans (hbw3.mono Hw2.out.size)
  have HBw3 : Hid (Below w.heap.size w w3) := HBw.out _ Hw3.out
  clear hbw3 a0 a1 a2 a3 a4 a5 a6 a7 b0 b1 b2 b3 b4 b5 b6 b7
  obtain ⟨⟨a0, a1, a2, a3⟩, a4, a5, a6, a7⟩ := HX.out w3 Hw3.out
  obtain ⟨⟨b0, b1, b2, b3⟩, b4, b5, b6, b7⟩ := HY.out w3 Hw3.out
  have hB : BB = B3 := by rw [HD2.out, Bool.true_and, Bool.true_and]
  subst hB
  go_wp2
  go_ret
  exact ⟨rfl, HBw3.out⟩
end Go.Proofs.YthdbnlpbidkojaaGreatDoor
/- law17's few, StoreNil: walks. -/
namespace Go.Proofs.YthdbnlpbidkojaaGreatDoor
open Go.RowKit Go.ChangeMaps

/-- Is an act not more than statements go through? -/
def few17B (x : Ac) : Bool := decide (x.n.size ≤ 200) && (decide (x.l.length ≤ 20) && fewL (tys [x.z]))
theorem OkAc.below {w w' : World} {x : Ac} (h : OkAc w x) (hb : Below w.heap.size w w') : OkAc w' x := ⟨⟨h.1.1.below hb, h.1.2⟩, h.2.1.below hb, h.2.2⟩
theorem isTys_one {W : World} {g : Nat} {z : LT} (h : W.heap[g]? = some (.cells (tyA z.t z.vo z.va z.vc) 35 (0, 0))) (hz : IsTy W z.t z.vo z.va z.vc) : IsTys W (.slice (some ⟨g, 0, none⟩) 1 1) [z] := by
  refine ⟨⟨rfl, .inr ⟨g, 0, 1, rfl, (Array.getElem?_eq_some_iff.1 h).1, Nat.le_refl _, by decide, fun j u hu => ?_⟩⟩, fun x hx => ?_⟩
  · rw [Lib.cell_of_heap h, Nat.zero_add]
    simpa [tCells, enT] using hu
  · rw [List.mem_singleton] at hx
    subst hx
    exact hz
set_option maxRecDepth 100000 in
set_option maxHeartbeats 4000000 in
theorem few17_any (x : Ac) (w : World) (ho : OkAc w x) : Calls Tryz.prog 8 #[acV x] w fun e w' => e = .returned (.bool (few17B x)) ∧ Below w.heap.size w w' := by
  have HF : Hid (∀ W g, Below w.heap.size w W → W.heap[g]? = some (.cells (tyA x.z.t x.z.vo x.z.va x.z.vc) 35 (0, 0)) → Calls Tryz.prog 13 #[.slice (some ⟨g, 0, none⟩) 1 1] W fun e w' => e = .returned (.bool (fewL (tys [x.z]))) ∧ Below W.heap.size W w') := fun W g hb hg => fewT_any _ [x.z] W (isTys_one hg (ho.1.1.below hb)) (by simp) fun y hy => by
    rw [List.mem_singleton] at hy
    subst hy
    exact ho.1.2
  have HD : Hid (few17B x = (decide (x.n.size ≤ 200) && (decide (x.l.length ≤ 20) && fewL (tys [x.z])))) := rfl
  generalize fewL (tys [x.z]) = F at *
  generalize few17B x = R at *
  clear ho
  obtain ⟨kd, ⟨t, ao, co, aa, ca, ac, cc⟩, n, lp, lc, l, a, b, c, i⟩ := x
  dsimp only at *
  obtain ⟨w1, hw1⟩ : ∃ w1, w1 = w.alloc (.cells (acA ⟨kd, ⟨t, ao, co, aa, ca, ac, cc⟩, n, lp, lc, l, a, b, c, i⟩) 38) := ⟨_, rfl⟩
  have B1 : Hid (Below w.heap.size w w1) := by show Below _ _ _; rw [hw1]; exact al_b _ _
  have hn1 : w1.heap[w.heap.size]? = some (.cells (acA ⟨kd, ⟨t, ao, co, aa, ca, ac, cc⟩, n, lp, lc, l, a, b, c, i⟩) 38 (0, 0)) := by rw [hw1]; exact new_at _ _
  have C1 : Hid (∀ W, Below w1.heap.size w1 W → W.heap[w.heap.size]? = some (.cells (acA ⟨kd, ⟨t, ao, co, aa, ca, ac, cc⟩, n, lp, lc, l, a, b, c, i⟩) 38 (0, 0))) := fun W h => (h.block _ (Array.getElem?_eq_some_iff.1 hn1).1).trans hn1
  clear hn1
  have hk := C1.out w1 (Below.refl _ _)
  have c1_0 : w1.cell? ⟨w.heap.size, 0, none⟩ = some (.int .i64 kd) := by rw [Lib.cell_of_heap hk]; rfl
  have c1_1 : w1.cell? ⟨w.heap.size, 1, none⟩ = some (.string t.n) := by rw [Lib.cell_of_heap hk]; rfl
  have c1_2 : w1.cell? ⟨w.heap.size, 2, none⟩ = some (.string t.p) := by rw [Lib.cell_of_heap hk]; rfl
  have c1_3 : w1.cell? ⟨w.heap.size, 3, none⟩ = some (.slice ao t.own.length co) := by rw [Lib.cell_of_heap hk]; rfl
  have c1_4 : w1.cell? ⟨w.heap.size, 4, none⟩ = some (.slice aa t.all.length ca) := by rw [Lib.cell_of_heap hk]; rfl
  have c1_5 : w1.cell? ⟨w.heap.size, 5, none⟩ = some (.slice ac t.ch.length cc) := by rw [Lib.cell_of_heap hk]; rfl
  have c1_6 : w1.cell? ⟨w.heap.size, 6, none⟩ = some (.int .i64 t.nd) := by rw [Lib.cell_of_heap hk]; rfl
  have c1_7 : w1.cell? ⟨w.heap.size, 7, none⟩ = some (.int .i64 t.lf) := by rw [Lib.cell_of_heap hk]; rfl
  have c1_8 : w1.cell? ⟨w.heap.size, 8, none⟩ = some (.int .i64 t.sq) := by rw [Lib.cell_of_heap hk]; rfl
  have c1_9 : w1.cell? ⟨w.heap.size, 9, none⟩ = some (.string n) := by rw [Lib.cell_of_heap hk]; rfl
  have c1_10 : w1.cell? ⟨w.heap.size, 10, none⟩ = some (.slice lp l.length lc) := by rw [Lib.cell_of_heap hk]; rfl
  have c1_11 : w1.cell? ⟨w.heap.size, 11, none⟩ = some (.int .i64 a) := by rw [Lib.cell_of_heap hk]; rfl
  have c1_12 : w1.cell? ⟨w.heap.size, 12, none⟩ = some (.int .i64 b) := by rw [Lib.cell_of_heap hk]; rfl
  have c1_13 : w1.cell? ⟨w.heap.size, 13, none⟩ = some (.int .i64 c) := by rw [Lib.cell_of_heap hk]; rfl
  have c1_14 : w1.cell? ⟨w.heap.size, 14, none⟩ = some (.int .i64 i) := by rw [Lib.cell_of_heap hk]; rfl
  clear hk
  by_cases h1 : n.size ≤ 200
  rotate_left
  · have hR : R = false := by rw [HD.out, decide_eq_false h1, Bool.false_and]
    have d1 : decide ((n.size : Int) ≤ 200) = false := by simp; omega
    subst hR
    clear HD HF h1
    rw [hw1] at c1_0 c1_1 c1_2 c1_3 c1_4 c1_5 c1_6 c1_7 c1_8 c1_9 c1_10 c1_11 c1_12 c1_13 c1_14
    go_enter Tryz.func8, Tryz.ntmps8
    go_wp2
    rw [← hw1]
    go_ret
    exact ⟨rfl, B1.out⟩
  have d1 : decide ((n.size : Int) ≤ 200) = true := by simp; omega
  by_cases h2 : l.length ≤ 20
  rotate_left
  · have hR : R = false := by rw [HD.out, decide_eq_false h2, Bool.false_and, Bool.and_false]
    have d2 : decide ((l.length : Int) ≤ 20) = false := by simp; omega
    subst hR
    clear HD HF h1 h2
    rw [hw1] at c1_0 c1_1 c1_2 c1_3 c1_4 c1_5 c1_6 c1_7 c1_8 c1_9 c1_10 c1_11 c1_12 c1_13 c1_14
    go_enter Tryz.func8, Tryz.ntmps8
    go_wp2
    rw [← hw1]
    go_ret
    exact ⟨rfl, B1.out⟩
  have d2 : decide ((l.length : Int) ≤ 20) = true := by simp; omega
  have hR : R = F := by rw [HD.out, decide_eq_true h1, decide_eq_true h2, Bool.true_and, Bool.true_and]
  subst hR
  clear HD h1 h2
  rw [hw1] at c1_0 c1_1 c1_2 c1_3 c1_4 c1_5 c1_6 c1_7 c1_8 c1_9 c1_10 c1_11 c1_12 c1_13 c1_14
  go_enter Tryz.func8, Tryz.ntmps8
  go_upto_region 1 with fail
  rw [← hw1]
  clear hw1 c1_0 c1_1 c1_2 c1_3 c1_4 c1_5 c1_6 c1_7 c1_8 c1_9 c1_10 c1_11 c1_12 c1_13 c1_14
  obtain ⟨w2, hw2⟩ : ∃ w2, w2 = w1.alloc (.cells (tyA t (.slice ao t.own.length co) (.slice aa t.all.length ca) (.slice ac t.ch.length cc)) 35) := ⟨_, rfl⟩
  have B2 : Hid (Below w1.heap.size w1 w2) := by show Below _ _ _; rw [hw2]; exact al_b _ _
  have hn2 : w2.heap[w1.heap.size]? = some (.cells (tyA t (.slice ao t.own.length co) (.slice aa t.all.length ca) (.slice ac t.ch.length cc)) 35 (0, 0)) := by rw [hw2]; exact new_at _ _
  have C2 : Hid (∀ W, Below w2.heap.size w2 W → W.heap[w1.heap.size]? = some (.cells (tyA t (.slice ao t.own.length co) (.slice aa t.all.length ca) (.slice ac t.ch.length cc)) 35 (0, 0))) := fun W h => (h.block _ (Array.getElem?_eq_some_iff.1 hn2).1).trans hn2
  clear hn2
  have HFk := HF.out _ w1.heap.size (bTS B1.out B2.out) (C2.out _ (Below.refl _ _))
  clear HF
  have hk := C1.out w1 (Below.refl _ _)
  have c1_0 : w1.cell? ⟨w.heap.size, 0, none⟩ = some (.int .i64 kd) := by rw [Lib.cell_of_heap hk]; rfl
  have c1_1 : w1.cell? ⟨w.heap.size, 1, none⟩ = some (.string t.n) := by rw [Lib.cell_of_heap hk]; rfl
  have c1_2 : w1.cell? ⟨w.heap.size, 2, none⟩ = some (.string t.p) := by rw [Lib.cell_of_heap hk]; rfl
  have c1_3 : w1.cell? ⟨w.heap.size, 3, none⟩ = some (.slice ao t.own.length co) := by rw [Lib.cell_of_heap hk]; rfl
  have c1_4 : w1.cell? ⟨w.heap.size, 4, none⟩ = some (.slice aa t.all.length ca) := by rw [Lib.cell_of_heap hk]; rfl
  have c1_5 : w1.cell? ⟨w.heap.size, 5, none⟩ = some (.slice ac t.ch.length cc) := by rw [Lib.cell_of_heap hk]; rfl
  have c1_6 : w1.cell? ⟨w.heap.size, 6, none⟩ = some (.int .i64 t.nd) := by rw [Lib.cell_of_heap hk]; rfl
  have c1_7 : w1.cell? ⟨w.heap.size, 7, none⟩ = some (.int .i64 t.lf) := by rw [Lib.cell_of_heap hk]; rfl
  have c1_8 : w1.cell? ⟨w.heap.size, 8, none⟩ = some (.int .i64 t.sq) := by rw [Lib.cell_of_heap hk]; rfl
  have c1_9 : w1.cell? ⟨w.heap.size, 9, none⟩ = some (.string n) := by rw [Lib.cell_of_heap hk]; rfl
  have c1_10 : w1.cell? ⟨w.heap.size, 10, none⟩ = some (.slice lp l.length lc) := by rw [Lib.cell_of_heap hk]; rfl
  have c1_11 : w1.cell? ⟨w.heap.size, 11, none⟩ = some (.int .i64 a) := by rw [Lib.cell_of_heap hk]; rfl
  have c1_12 : w1.cell? ⟨w.heap.size, 12, none⟩ = some (.int .i64 b) := by rw [Lib.cell_of_heap hk]; rfl
  have c1_13 : w1.cell? ⟨w.heap.size, 13, none⟩ = some (.int .i64 c) := by rw [Lib.cell_of_heap hk]; rfl
  have c1_14 : w1.cell? ⟨w.heap.size, 14, none⟩ = some (.int .i64 i) := by rw [Lib.cell_of_heap hk]; rfl
  clear hk
  go_wp2_with fail
  rw [← hw2]
  clear hw2
  clear c1_0 c1_1 c1_2 c1_3 c1_4 c1_5 c1_6 c1_7 c1_8 c1_9 c1_10 c1_11 c1_12 c1_13 c1_14
  refine (HFk).mono ?_
  rintro e w3 ⟨rfl, hb⟩
  have B3 : Hid (Below w2.heap.size w2 w3) := hb
  clear hb 
  have HBz : Hid (Below w.heap.size w w3) := (bTS (bTS B1.out B2.out) B3.out)
  go_wp2
  go_ret
  exact ⟨rfl, HBz.out⟩
set_option maxRecDepth 100000 in
set_option maxHeartbeats 4000000 in
theorem storeNil_walk (x : Ac) (w : World) (ho : OkAc w x) (hT : UT w) (hM : ML w) : Calls Tryz.prog 5 #[acV x] w fun e w' => e = .returned (.bool true) ∧ Below w.heap.size w w' := by
  have HF : Hid (∀ W, Below w.heap.size w W → Calls Tryz.prog 8 #[acV x] W fun e w' => e = .returned (.bool (few17B x)) ∧ Below W.heap.size W w') := fun W hb => few17_any x W (ho.below hb)
  have HA : Hid (∀ W, Below w.heap.size w W → Calls Tryz.prog 7 #[] W fun e w' => e = .returned (.bool true) ∧ Below W.heap.size W w') := fun W hb => awake17_any W (Utf8Tabs_below hT hb) (ML_below hM hb)
  have HSm : Hid (∀ W, Calls Tryz.prog 14 #[zTyV, zTyV] W fun e w' => e = .returned (.bool true) ∧ Below W.heap.size W w') := fun W => by
    have := sameT_any ⟨zT, none, 0, none, 0, none, 0⟩ ⟨zT, none, 0, none, 0, none, 0⟩ W ⟨IsRow.nil _ _, IsRow.nil _ _, IsRow.nil _ _⟩ ⟨IsRow.nil _ _, IsRow.nil _ _, IsRow.nil _ _⟩ (by decide) (by decide)
    rw [show sameT (LT.t ⟨zT, none, 0, none, 0, none, 0⟩) (LT.t ⟨zT, none, 0, none, 0, none, 0⟩) = true from (sameT_iff _ _).2 rfl] at this
    exact this
  have HPu : Hid (∀ W, Below w.heap.size w W → Calls Tryz.prog 15 #[nilS, ltV x.z] W fun e w' => e = .returned (.tuple #[zTyV, .int .i64 1]) ∧ Below W.heap.size W w') := fun W hb => putS_nil _ _ _ _ W (ho.1.1.below hb)
  have HSe : Hid (∀ W, Calls Tryz.prog 23 #[nilS, ltV x.z] W fun e w' => e = .returned (.int .i64 1) ∧ Below W.heap.size W w') := fun W => setS_nil _ _ _ _ W
  have HFd : Hid (∀ W, Calls Tryz.prog 11 #[nilS, .string x.n] W fun e w' => e = .returned (.tuple #[zKpV, .bool false]) ∧ Below W.heap.size W w') := fun W => findS_nil _ W
  have HBe : Hid (∀ W, Calls Tryz.prog 20 #[nilS, .string x.n, .slice x.lp x.l.length x.lc] W fun e w' => e = .returned (.tuple #[.bool false, .int .i64 1]) ∧ Below W.heap.size W w') := fun W => beginS_nil _ _ W
  have HSt : Hid (∀ W, Calls Tryz.prog 21 #[nilS, .string x.n, idV x.a x.b x.c, .int .i64 x.i] W fun e w' => e = .returned (.tuple #[.bool false, .int .i64 1]) ∧ Below W.heap.size W w') := fun W => storedS_nil _ _ _ _ _ W
  have HLo : Hid (∀ W, Calls Tryz.prog 22 #[nilS] W fun e w' => e = .returned (.tuple #[]) ∧ Below W.heap.size W w') := loosenS_nil
  have HAl : Hid (∀ W, Calls Tryz.prog 16 #[nilS] W fun e w' => e = .returned (.slice none 0 0) ∧ Below W.heap.size W w') := allS_nil
  have HWa : Hid (∀ W, Calls Tryz.prog 24 #[nilS] W fun e w' => e = .returned (.int .i64 0) ∧ Below W.heap.size W w') := waitsS_nil
  clear ho hT hM
  obtain ⟨F, HFe⟩ : ∃ F, Hid (few17B x = F) := ⟨_, rfl⟩
  rw [HFe.out] at HF
  clear HFe
  obtain ⟨kd, ⟨t, ao, co, aa, ca, ac, cc⟩, n, lp, lc, l, a, b, c, i⟩ := x
  dsimp only [LT.vo, LT.va, LT.vc] at *
  obtain ⟨w1, hw1⟩ : ∃ w1, w1 = w.alloc (.cells (acA ⟨kd, ⟨t, ao, co, aa, ca, ac, cc⟩, n, lp, lc, l, a, b, c, i⟩) 38) := ⟨_, rfl⟩
  have B1 : Hid (Below w.heap.size w w1) := by show Below _ _ _; rw [hw1]; exact al_b _ _
  have hn1 : w1.heap[w.heap.size]? = some (.cells (acA ⟨kd, ⟨t, ao, co, aa, ca, ac, cc⟩, n, lp, lc, l, a, b, c, i⟩) 38 (0, 0)) := by rw [hw1]; exact new_at _ _
  have C1 : Hid (∀ W, Below w1.heap.size w1 W → W.heap[w.heap.size]? = some (.cells (acA ⟨kd, ⟨t, ao, co, aa, ca, ac, cc⟩, n, lp, lc, l, a, b, c, i⟩) 38 (0, 0))) := fun W h => (h.block _ (Array.getElem?_eq_some_iff.1 hn1).1).trans hn1
  clear hn1
  have hk := C1.out w1 (Below.refl _ _)
  have c1_0 : w1.cell? ⟨w.heap.size, 0, none⟩ = some (.int .i64 kd) := by rw [Lib.cell_of_heap hk]; rfl
  have c1_1 : w1.cell? ⟨w.heap.size, 1, none⟩ = some (.string t.n) := by rw [Lib.cell_of_heap hk]; rfl
  have c1_2 : w1.cell? ⟨w.heap.size, 2, none⟩ = some (.string t.p) := by rw [Lib.cell_of_heap hk]; rfl
  have c1_3 : w1.cell? ⟨w.heap.size, 3, none⟩ = some (.slice ao t.own.length co) := by rw [Lib.cell_of_heap hk]; rfl
  have c1_4 : w1.cell? ⟨w.heap.size, 4, none⟩ = some (.slice aa t.all.length ca) := by rw [Lib.cell_of_heap hk]; rfl
  have c1_5 : w1.cell? ⟨w.heap.size, 5, none⟩ = some (.slice ac t.ch.length cc) := by rw [Lib.cell_of_heap hk]; rfl
  have c1_6 : w1.cell? ⟨w.heap.size, 6, none⟩ = some (.int .i64 t.nd) := by rw [Lib.cell_of_heap hk]; rfl
  have c1_7 : w1.cell? ⟨w.heap.size, 7, none⟩ = some (.int .i64 t.lf) := by rw [Lib.cell_of_heap hk]; rfl
  have c1_8 : w1.cell? ⟨w.heap.size, 8, none⟩ = some (.int .i64 t.sq) := by rw [Lib.cell_of_heap hk]; rfl
  have c1_9 : w1.cell? ⟨w.heap.size, 9, none⟩ = some (.string n) := by rw [Lib.cell_of_heap hk]; rfl
  have c1_10 : w1.cell? ⟨w.heap.size, 10, none⟩ = some (.slice lp l.length lc) := by rw [Lib.cell_of_heap hk]; rfl
  have c1_11 : w1.cell? ⟨w.heap.size, 11, none⟩ = some (.int .i64 a) := by rw [Lib.cell_of_heap hk]; rfl
  have c1_12 : w1.cell? ⟨w.heap.size, 12, none⟩ = some (.int .i64 b) := by rw [Lib.cell_of_heap hk]; rfl
  have c1_13 : w1.cell? ⟨w.heap.size, 13, none⟩ = some (.int .i64 c) := by rw [Lib.cell_of_heap hk]; rfl
  have c1_14 : w1.cell? ⟨w.heap.size, 14, none⟩ = some (.int .i64 i) := by rw [Lib.cell_of_heap hk]; rfl
  clear hk
  rw [hw1] at c1_0 c1_1 c1_2 c1_3 c1_4 c1_5 c1_6 c1_7 c1_8 c1_9 c1_10 c1_11 c1_12 c1_13 c1_14
  go_enter Tryz.func5, Tryz.ntmps5
  go_wp2_with fail
  rw [← hw1]
  clear hw1
  clear c1_0 c1_1 c1_2 c1_3 c1_4 c1_5 c1_6 c1_7 c1_8 c1_9 c1_10 c1_11 c1_12 c1_13 c1_14
  refine (HF.out _ B1.out).mono ?_
  rintro e w2 ⟨rfl, hb⟩
  have B2 : Hid (Below w1.heap.size w1 w2) := hb
  clear hb HF
  cases F
  · clear HSm HPu HSe HFd HBe HSt HLo HAl HWa
    go_wp2_with fail
    refine (HA.out _ (bTS B1.out B2.out)).mono ?_
    rintro e w3 ⟨rfl, hb⟩
    have B3 : Hid (Below w2.heap.size w2 w3) := hb
    clear hb 
    have HBz : Hid (Below w.heap.size w w3) := (bTS (bTS B1.out B2.out) B3.out)
    go_wp2
    go_ret
    exact ⟨rfl, HBz.out⟩
  have hk := C1.out w2 B2.out
  have c1_1 : w2.cell? ⟨w.heap.size, 1, none⟩ = some (.string t.n) := by rw [Lib.cell_of_heap hk]; rfl
  have c1_2 : w2.cell? ⟨w.heap.size, 2, none⟩ = some (.string t.p) := by rw [Lib.cell_of_heap hk]; rfl
  have c1_3 : w2.cell? ⟨w.heap.size, 3, none⟩ = some (.slice ao t.own.length co) := by rw [Lib.cell_of_heap hk]; rfl
  have c1_4 : w2.cell? ⟨w.heap.size, 4, none⟩ = some (.slice aa t.all.length ca) := by rw [Lib.cell_of_heap hk]; rfl
  have c1_5 : w2.cell? ⟨w.heap.size, 5, none⟩ = some (.slice ac t.ch.length cc) := by rw [Lib.cell_of_heap hk]; rfl
  have c1_6 : w2.cell? ⟨w.heap.size, 6, none⟩ = some (.int .i64 t.nd) := by rw [Lib.cell_of_heap hk]; rfl
  have c1_7 : w2.cell? ⟨w.heap.size, 7, none⟩ = some (.int .i64 t.lf) := by rw [Lib.cell_of_heap hk]; rfl
  have c1_8 : w2.cell? ⟨w.heap.size, 8, none⟩ = some (.int .i64 t.sq) := by rw [Lib.cell_of_heap hk]; rfl
  clear hk
  go_wp2_with fail
  clear c1_1 c1_2 c1_3 c1_4 c1_5 c1_6 c1_7 c1_8
  refine (HPu.out _ (bTS B1.out B2.out)).mono ?_
  rintro e w3 ⟨rfl, hb⟩
  have B3 : Hid (Below w2.heap.size w2 w3) := hb
  clear hb HPu
  obtain ⟨w4, hw4⟩ : ∃ w4, w4 = w3.alloc (.cells zTyA 35) := ⟨_, rfl⟩
  have B4 : Hid (Below w3.heap.size w3 w4) := by show Below _ _ _; rw [hw4]; exact al_b _ _
  have hn4 : w4.heap[w3.heap.size]? = some (.cells zTyA 35 (0, 0)) := by rw [hw4]; exact new_at _ _
  have C4 : Hid (∀ W, Below w4.heap.size w4 W → W.heap[w3.heap.size]? = some (.cells zTyA 35 (0, 0))) := fun W h => (h.block _ (Array.getElem?_eq_some_iff.1 hn4).1).trans hn4
  clear hn4
  go_upto_region 5 with fail
  rw [← hw4]
  clear hw4
  have hk := C1.out w4 (bTS (bTS B2.out B3.out) B4.out)
  have c1_9 : w4.cell? ⟨w.heap.size, 9, none⟩ = some (.string n) := by rw [Lib.cell_of_heap hk]; rfl
  clear hk
  go_wp2_with fail
  clear c1_9
  refine (HFd.out _).mono ?_
  rintro e w5 ⟨rfl, hb⟩
  have B5 : Hid (Below w4.heap.size w4 w5) := hb
  clear hb HFd
  obtain ⟨w6, hw6⟩ : ∃ w6, w6 = w5.alloc (.cells zKpA 43) := ⟨_, rfl⟩
  have B6 : Hid (Below w5.heap.size w5 w6) := by show Below _ _ _; rw [hw6]; exact al_b _ _
  have hn6 : w6.heap[w5.heap.size]? = some (.cells zKpA 43 (0, 0)) := by rw [hw6]; exact new_at _ _
  have C6 : Hid (∀ W, Below w6.heap.size w6 W → W.heap[w5.heap.size]? = some (.cells zKpA 43 (0, 0))) := fun W h => (h.block _ (Array.getElem?_eq_some_iff.1 hn6).1).trans hn6
  clear hn6
  go_upto_region 6 with fail
  rw [← hw6]
  clear hw6
  have hk := C1.out w6 (bTS (bTS (bTS (bTS B2.out B3.out) B4.out) B5.out) B6.out)
  have c1_9 : w6.cell? ⟨w.heap.size, 9, none⟩ = some (.string n) := by rw [Lib.cell_of_heap hk]; rfl
  have c1_10 : w6.cell? ⟨w.heap.size, 10, none⟩ = some (.slice lp l.length lc) := by rw [Lib.cell_of_heap hk]; rfl
  clear hk
  go_wp2_with fail
  clear c1_9 c1_10
  refine (HBe.out _).mono ?_
  rintro e w7 ⟨rfl, hb⟩
  have B7 : Hid (Below w6.heap.size w6 w7) := hb
  clear hb HBe
  have hk := C1.out w7 (bTS (bTS (bTS (bTS (bTS B2.out B3.out) B4.out) B5.out) B6.out) B7.out)
  have c1_9 : w7.cell? ⟨w.heap.size, 9, none⟩ = some (.string n) := by rw [Lib.cell_of_heap hk]; rfl
  have c1_11 : w7.cell? ⟨w.heap.size, 11, none⟩ = some (.int .i64 a) := by rw [Lib.cell_of_heap hk]; rfl
  have c1_12 : w7.cell? ⟨w.heap.size, 12, none⟩ = some (.int .i64 b) := by rw [Lib.cell_of_heap hk]; rfl
  have c1_13 : w7.cell? ⟨w.heap.size, 13, none⟩ = some (.int .i64 c) := by rw [Lib.cell_of_heap hk]; rfl
  have c1_14 : w7.cell? ⟨w.heap.size, 14, none⟩ = some (.int .i64 i) := by rw [Lib.cell_of_heap hk]; rfl
  clear hk
  go_wp2_with fail
  clear c1_9 c1_11 c1_12 c1_13 c1_14
  refine (HSt.out _).mono ?_
  rintro e w8 ⟨rfl, hb⟩
  have B8 : Hid (Below w7.heap.size w7 w8) := hb
  clear hb HSt
  go_wp2_with fail
  refine (HLo.out _).mono ?_
  rintro e w9 ⟨rfl, hb⟩
  have B9 : Hid (Below w8.heap.size w8 w9) := hb
  clear hb HLo
  go_wp2_with fail
  refine (HA.out _ (bTS (bTS (bTS (bTS (bTS (bTS (bTS (bTS B1.out B2.out) B3.out) B4.out) B5.out) B6.out) B7.out) B8.out) B9.out)).mono ?_
  rintro e w10 ⟨rfl, hb⟩
  have B10 : Hid (Below w9.heap.size w9 w10) := hb
  clear hb HA
  have hk := C4.out w10 (bTS (bTS (bTS (bTS (bTS B5.out B6.out) B7.out) B8.out) B9.out) B10.out)
  have c4_0 : w10.cell? ⟨w3.heap.size, 0, none⟩ = some (.string ⟨#[]⟩) := by rw [Lib.cell_of_heap hk]; rfl
  have c4_1 : w10.cell? ⟨w3.heap.size, 1, none⟩ = some (.string ⟨#[]⟩) := by rw [Lib.cell_of_heap hk]; rfl
  have c4_2 : w10.cell? ⟨w3.heap.size, 2, none⟩ = some (.slice none 0 0) := by rw [Lib.cell_of_heap hk]; rfl
  have c4_3 : w10.cell? ⟨w3.heap.size, 3, none⟩ = some (.slice none 0 0) := by rw [Lib.cell_of_heap hk]; rfl
  have c4_4 : w10.cell? ⟨w3.heap.size, 4, none⟩ = some (.slice none 0 0) := by rw [Lib.cell_of_heap hk]; rfl
  have c4_5 : w10.cell? ⟨w3.heap.size, 5, none⟩ = some (.int .i64 0) := by rw [Lib.cell_of_heap hk]; rfl
  have c4_6 : w10.cell? ⟨w3.heap.size, 6, none⟩ = some (.int .i64 0) := by rw [Lib.cell_of_heap hk]; rfl
  have c4_7 : w10.cell? ⟨w3.heap.size, 7, none⟩ = some (.int .i64 0) := by rw [Lib.cell_of_heap hk]; rfl
  clear hk
  go_wp2_with fail
  clear c4_0 c4_1 c4_2 c4_3 c4_4 c4_5 c4_6 c4_7
  refine (HSm.out _).mono ?_
  rintro e w11 ⟨rfl, hb⟩
  have B11 : Hid (Below w10.heap.size w10 w11) := hb
  clear hb HSm
  have hk := C1.out w11 (bTS (bTS (bTS (bTS (bTS (bTS (bTS (bTS (bTS B2.out B3.out) B4.out) B5.out) B6.out) B7.out) B8.out) B9.out) B10.out) B11.out)
  have c1_1 : w11.cell? ⟨w.heap.size, 1, none⟩ = some (.string t.n) := by rw [Lib.cell_of_heap hk]; rfl
  have c1_2 : w11.cell? ⟨w.heap.size, 2, none⟩ = some (.string t.p) := by rw [Lib.cell_of_heap hk]; rfl
  have c1_3 : w11.cell? ⟨w.heap.size, 3, none⟩ = some (.slice ao t.own.length co) := by rw [Lib.cell_of_heap hk]; rfl
  have c1_4 : w11.cell? ⟨w.heap.size, 4, none⟩ = some (.slice aa t.all.length ca) := by rw [Lib.cell_of_heap hk]; rfl
  have c1_5 : w11.cell? ⟨w.heap.size, 5, none⟩ = some (.slice ac t.ch.length cc) := by rw [Lib.cell_of_heap hk]; rfl
  have c1_6 : w11.cell? ⟨w.heap.size, 6, none⟩ = some (.int .i64 t.nd) := by rw [Lib.cell_of_heap hk]; rfl
  have c1_7 : w11.cell? ⟨w.heap.size, 7, none⟩ = some (.int .i64 t.lf) := by rw [Lib.cell_of_heap hk]; rfl
  have c1_8 : w11.cell? ⟨w.heap.size, 8, none⟩ = some (.int .i64 t.sq) := by rw [Lib.cell_of_heap hk]; rfl
  clear hk
  go_wp2_with fail
  clear c1_1 c1_2 c1_3 c1_4 c1_5 c1_6 c1_7 c1_8
  refine (HSe.out _).mono ?_
  rintro e w12 ⟨rfl, hb⟩
  have B12 : Hid (Below w11.heap.size w11 w12) := hb
  clear hb HSe
  have hk := C6.out w12 (bTS (bTS (bTS (bTS (bTS B7.out B8.out) B9.out) B10.out) B11.out) B12.out)
  have c6_8 : w12.cell? ⟨w5.heap.size, 8, none⟩ = some (.bool false) := by rw [Lib.cell_of_heap hk]; rfl
  clear hk
  go_wp2_with fail
  clear c6_8
  refine (HAl.out _).mono ?_
  rintro e w13 ⟨rfl, hb⟩
  have B13 : Hid (Below w12.heap.size w12 w13) := hb
  clear hb HAl
  go_wp2_with fail
  refine (HWa.out _).mono ?_
  rintro e w14 ⟨rfl, hb⟩
  have B14 : Hid (Below w13.heap.size w13 w14) := hb
  clear hb HWa
  have HBz : Hid (Below w.heap.size w w14) := (bTS (bTS (bTS (bTS (bTS (bTS (bTS (bTS (bTS (bTS (bTS (bTS (bTS B1.out B2.out) B3.out) B4.out) B5.out) B6.out) B7.out) B8.out) B9.out) B10.out) B11.out) B12.out) B13.out) B14.out)
  go_wp2
  go_ret
  exact ⟨rfl, HBz.out⟩
end Go.Proofs.YthdbnlpbidkojaaGreatDoor
/- What a call that has but drawn and grown leaves. -/
namespace Go.Proofs.YthdbnlpbidkojaaGreatDoor
open Go.RowKit

/-- What leaves all there was, and has asked the tape no less often, has but drawn and grown. -/
theorem grow_of {w w' : World} (h : Below w.heap.size w w') (hd : w.drawn ≤ w'.drawn) : ∃ q os, w' = Sort.grow (w.drewN q) os := by
  refine ⟨w'.drawn - w.drawn, w'.heap.extract w.heap.size w'.heap.size, ?_⟩
  have h1 := h.os
  have h2 := h.tape
  have h3 := h.output
  have h4 := h.size
  have h5 := h.block
  obtain ⟨hp, tp, dr, os, ou⟩ := w
  obtain ⟨hp', tp', dr', os', ou'⟩ := w'
  dsimp only at *
  subst h1 h2 h3
  have e1 : hp' = hp ++ hp'.extract hp.size hp'.size := by
    apply Array.ext_getElem?
    intro i
    by_cases hi : i < hp.size
    · rw [Array.getElem?_append_left hi, h5 i hi]
    · rw [Array.getElem?_append_right (by omega), Array.getElem?_extract]
      by_cases h2 : i < hp'.size
      · rw [if_pos (by omega)]
        congr 1
        omega
      · rw [if_neg (by omega), Array.getElem?_eq_none (by omega)]
  have e2 : dr' = dr + (dr' - dr) := by omega
  unfold Sort.grow World.drewN
  dsimp only
  congr
end Go.Proofs.YthdbnlpbidkojaaGreatDoor
