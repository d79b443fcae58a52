/- law17's awake: its walk. -/
import Derived.Test.YtlndgepoekllkaaGreatDoorZk16
import Derived.Test.YtlndgepoekllkaaGreatDoorZk14
import Derived.Test.YtlndgepoekllkaaGreatDoorZk8
import Derived.Test.YtlndgepoekllkaaGreatDoorZk9
import Derived.Test.YtlndgepoekllkaaGreatDoorZk0
import Derived.Test.YtlndgepoekllkaaGreatDoorZk1
import Derived.Test.YtlndgepoekllkaaGreatDoorZk2
namespace Go.Proofs.YtlndgepoekllkaaGreatDoor
open Go.RowKit Go.ChangeMaps

def exT : Ty := ⟨⟨#[78, 101, 119, 115]⟩, ⟨#[]⟩, [], [], [⟨#[78, 101, 119, 115]⟩], 1, 1, 1⟩
def exK : ByteArray := fldB ⟨#[78, 101, 119, 115]⟩
theorem exK_low : fldB ⟨#[110, 101, 119, 115]⟩ = exK := by kernel_rfl
theorem exRoot : rootR ⟨#[78, 101, 119, 115]⟩ [] 1 1 1 = (exT, 0) := by kernel_rfl
theorem exChk : chkT exT = true := by kernel_rfl
theorem exNm : NmT exT := ⟨by decide, by decide, fun s hs => by simp [exT] at hs; subst hs; decide, fun x hx => by simp [exT] at hx, fun x hx => by simp [exT] at hx, by decide, by decide, by decide⟩
theorem exP : NodesP [2, 5] := fun k h => by
  have : k = 0 ∨ k = 1 := by simp at h; omega
  rcases this with rfl | rfl
  · exact ⟨by show (1 : Int) ≤ 2; decide, by show (2 : Int) ≤ 15; decide, fun i e => by omega⟩
  · refine ⟨by show (1 : Int) ≤ 5; decide, by show (5 : Int) ≤ 15; decide, fun i e => ?_⟩
    obtain rfl : i = 0 := by omega
    show (2 : Int) < 5
    decide
theorem cell_stp {w w' : World} {g p j : Nat} {v : Value} (h : Stp w (fun k => k = g) (fun k => k = g) w') (hp : p < w.heap.size) (hne : p ≠ g) (hc : w.cell? ⟨p, j, none⟩ = some v) : w'.cell? ⟨p, j, none⟩ = some v := by
  unfold World.cell? at hc ⊢
  dsimp only at hc ⊢
  rw [h.block p hp hne]
  exact hc
set_option maxRecDepth 100000 in
set_option maxHeartbeats 4000000 in
theorem awake17_any (w : World) (hT : UT w) (hM : ML w) :
    Calls Tryz.prog 5 #[] w fun e w' => e = .returned (.bool true) ∧ Below w.heap.size w w' := by
  obtain ⟨w1, hw1⟩ : ∃ w1, w1 = w.alloc (.cells #[.int .i64 1, .int .i64 1, .int .i64 1] 33) := ⟨_, rfl⟩
  have B1 : Hid (Below w.heap.size w w1) := by show Below _ _ _; rw [hw1]; exact al_b _ _
  have hn1 : w1.heap[w.heap.size]? = some (.cells #[.int .i64 1, .int .i64 1, .int .i64 1] 33 (0, 0)) := by rw [hw1]; exact new_at _ _
  have HI : Hid (∀ W, Below w1.heap.size w1 W → W.cell? ⟨w.heap.size, 0, none⟩ = some (.int .i64 1) ∧ W.cell? ⟨w.heap.size, 1, none⟩ = some (.int .i64 1) ∧ W.cell? ⟨w.heap.size, 2, none⟩ = some (.int .i64 1)) := fun W hb => by
    have hk := (hb.block _ (Array.getElem?_eq_some_iff.1 hn1).1).trans hn1
    exact ⟨by rw [Lib.cell_of_heap hk]; rfl, by rw [Lib.cell_of_heap hk]; rfl, by rw [Lib.cell_of_heap hk]; rfl⟩
  have hlt1 : w.heap.size < w1.heap.size := (Array.getElem?_eq_some_iff.1 hn1).1
  have HRo : Hid (∀ W, Below w.heap.size w W → Calls Tryz.prog 11 #[.string ⟨#[78, 101, 119, 115]⟩, .slice none 0 0, idV 1 1 1] W fun e w' => MkP (exT, 0) W e w') := fun W hb => exRoot ▸ root_any ⟨#[78, 101, 119, 115]⟩ (.slice none 0 0) [] 1 1 1 W (by decide) (IsRow.nil _ _) (by decide) (fun x hx => by simp at hx) (Utf8Tabs_below hT hb) (ML_below hM hb)
  have HT : Hid (∀ W, Below w.heap.size w W → UT W ∧ ML W) := fun W hb => ⟨Utf8Tabs_below hT hb, ML_below hM hb⟩
  clear hn1 hT hM
  obtain ⟨i0, i1, i2⟩ := HI.out w1 (Below.refl _ _)
  rw [hw1] at i0 i1 i2
  go_enter Tryz.func5, Tryz.ntmps5
  go_wp2_with fail
  rw [← hw1]
  clear hw1 i0 i1 i2
  refine (HRo.out _ B1.out).mono ?_
  rintro e w2 ⟨⟨t, ao, co, aa, ca, ac, cc⟩, rfl, ht, hty, hnew, hb⟩
  dsimp only at ht hty
  subst ht
  have D2 : Hid (Below w1.heap.size w1 w2) := hb
  have HTy : Hid (∀ W, CKp w2 W → IsTy W exT (.slice ao exT.own.length co) (.slice aa exT.all.length ca) (.slice ac exT.ch.length cc)) := fun W h => h.ty hty
  clear hb hty hnew
  obtain ⟨w3, hw3⟩ : ∃ w3, w3 = w2.alloc (.cells (tyA exT (.slice ao exT.own.length co) (.slice aa exT.all.length ca) (.slice ac exT.ch.length cc)) 35) := ⟨_, rfl⟩
  have D3 : Hid (Below w2.heap.size w2 w3) := by show Below _ _ _; rw [hw3]; exact al_b _ _
  have hn3 : w3.heap[w2.heap.size]? = some (.cells (tyA exT (.slice ao exT.own.length co) (.slice aa exT.all.length ca) (.slice ac exT.ch.length cc)) 35 (0, 0)) := by rw [hw3]; exact new_at _ _
  have B3 : Hid (Below w1.heap.size w1 w3) := D2.out.trans (D3.out.mono D2.out.size)
  go_wp2_with fail
  rw [← hw3]
  clear hw3
  refine (storeNew_any w3 (fun _ => ⟨exT, false, zW⟩)).mono ?_
  rintro e w4 ⟨s, m, rfl, hS, hb⟩
  have D4 : Hid (Below w3.heap.size w3 w4) := hb
  have B4 : Hid (Below w1.heap.size w1 w4) := B3.out.trans (hb.mono B3.out.size)
  have A4 : Hid (Below w.heap.size w w4) := B1.out.trans (B4.out.mono B1.out.size)
  obtain ⟨⟨p0, p1, p2, p3⟩, p4, p5, p6, p7⟩ := BxT.of ((hb.block _ (Array.getElem?_eq_some_iff.1 hn3).1).trans hn3)
  have hPu := put_new hS hb.size exT _ _ _ (HTy.out w4 ((CKp.of D3.out).trans (CKp.of hb))) (by decide) (by decide) (by decide) exNm (HT.out w4 A4.out).1 (HT.out w4 A4.out).2 exChk (fun _ => by decide) (fun g0 h => by cases h)
  have hlm : w3.heap.size ≤ m := hS.lm
  have hsz : w1.heap.size ≤ w3.heap.size := B3.out.size
  have c4 : ∀ W, Below w4.heap.size w4 W → W.cell? ⟨w.heap.size, 0, none⟩ = some (.int .i64 1) ∧ W.cell? ⟨w.heap.size, 1, none⟩ = some (.int .i64 1) ∧ W.cell? ⟨w.heap.size, 2, none⟩ = some (.int .i64 1) := fun W h => HI.out W (B4.out.trans (h.mono B4.out.size))
  have hs4 : w3.heap.size ≤ w4.heap.size := hb.size
  clear hb hn3
  go_wp2_with fail
  clear p0 p1 p2 p3 p4 p5 p6 p7
  refine hPu.mono ?_
  rintro e w5 ⟨g, v1, v2, v3, rfl, hS5, hg5, hs5, ho5⟩
  obtain ⟨x1, y1, rfl⟩ := (IsRow.own ho5.1).form
  obtain ⟨x2, y2, rfl⟩ := (IsRow.own ho5.2.1).form
  obtain ⟨x3, y3, rfl⟩ := (IsRow.own ho5.2.2).form
  have hI5 : w5.cell? ⟨w.heap.size, 0, none⟩ = some (.int .i64 1) ∧ w5.cell? ⟨w.heap.size, 1, none⟩ = some (.int .i64 1) ∧ w5.cell? ⟨w.heap.size, 2, none⟩ = some (.int .i64 1) := by
    obtain ⟨q0, q1, q2⟩ := c4 w4 (Below.refl _ _)
    exact ⟨cell_stp hs5 (by omega) (by omega) q0, cell_stp hs5 (by omega) (by omega) q1, cell_stp hs5 (by omega) (by omega) q2⟩
  have A5 : Hid (Below w.heap.size w w5) := A4.out.trans (hs5.below A4.out.size fun k hk => by omega)
  have hs45 := hs5.size
  obtain ⟨w6, hw6⟩ : ∃ w6, w6 = w5.alloc (.cells (tyA exT (.slice x1 exT.own.length y1) (.slice x2 exT.all.length y2) (.slice x3 exT.ch.length y3)) 35) := ⟨_, rfl⟩
  have D6 : Hid (Below w5.heap.size w5 w6) := by show Below _ _ _; rw [hw6]; exact al_b _ _
  have hz6 : w6.heap.size = w5.heap.size + 1 := by rw [hw6]; simp
  obtain ⟨w7, hw7⟩ : ∃ w7, w7 = w6.alloc (.cells #[.int .i64 2, .int .i64 5] 3) := ⟨_, rfl⟩
  have D7 : Hid (Below w6.heap.size w6 w7) := by show Below _ _ _; rw [hw7]; exact al_b _ _
  have hn7 : w7.heap[w5.heap.size + 1]? = some (.cells #[.int .i64 2, .int .i64 5] 3 (0, 0)) := by rw [hw7, ← hz6]; exact new_at _ _
  have D57 : Hid (Below w5.heap.size w5 w7) := D6.out.trans (D7.out.mono D6.out.size)
  have A7 : Hid (Below w.heap.size w w7) := A5.out.trans (D57.out.mono A5.out.size)
  have hgl : g < w5.heap.size := (hS5.lt (.inr (by simp [stS, lkS]))).2
  have hS7 := hS5.below D57.out
  have hI7 : w7.cell? ⟨w.heap.size, 0, none⟩ = some (.int .i64 1) ∧ w7.cell? ⟨w.heap.size, 1, none⟩ = some (.int .i64 1) ∧ w7.cell? ⟨w.heap.size, 2, none⟩ = some (.int .i64 1) := ⟨(D57.out.cell (p := ⟨w.heap.size, 0, none⟩) (by show w.heap.size < _; omega)).trans hI5.1, (D57.out.cell (p := ⟨w.heap.size, 1, none⟩) (by show w.heap.size < _; omega)).trans hI5.2.1, (D57.out.cell (p := ⟨w.heap.size, 2, none⟩) (by show w.heap.size < _; omega)).trans hI5.2.2⟩
  have hXg : ∀ X : Nat → Kp, upX X g ⟨exT, false, zW⟩ g = ⟨exT, false, zW⟩ := fun X => if_pos rfl
  have hBe := begin_new hS7 ⟨#[110, 101, 119, 115]⟩ (by decide) (g := g) (by rw [exK_low]; show lkS (stS [] exK g) exK = some g; simp [stS, lkS]) (.slice (some ⟨w5.heap.size + 1, 0, none⟩) 2 2) [2, 5] ⟨rfl, .inr ⟨_, 0, 2, rfl, (Array.getElem?_eq_some_iff.1 hn7).1, Nat.le_refl _, by decide, fun j u hu => by
    rw [Lib.cell_of_heap hn7, Nat.zero_add, List.getElem?_toArray]
    exact hu⟩⟩ (by decide) exP (fun _ p a c h => by cases h; show w5.heap.size + 1 ≠ g; omega) (HT.out w7 A7.out).1
  go_wp2_with fail
  rw [← hw6, ← hw7]
  clear hw6 hw7 hn7 hS5 ho5 hS hPu c4 HRo HI HTy
  refine hBe.mono ?_
  rintro e w8 ⟨rfl, hS8, hs8⟩
  have hs57 := D57.out.size
  have hs78 := hs8.size
  have hI8 : w8.cell? ⟨w.heap.size, 0, none⟩ = some (.int .i64 1) ∧ w8.cell? ⟨w.heap.size, 1, none⟩ = some (.int .i64 1) ∧ w8.cell? ⟨w.heap.size, 2, none⟩ = some (.int .i64 1) := ⟨cell_stp hs8 (by omega) (by omega) hI7.1, cell_stp hs8 (by omega) (by omega) hI7.2.1, cell_stp hs8 (by omega) (by omega) hI7.2.2⟩
  have A8 : Hid (Below w.heap.size w w8) := A7.out.trans (hs8.below A7.out.size fun k hk => by omega)
  obtain ⟨X8, hX8e⟩ : ∃ X8, X8 = upX (upX (fun _ => ⟨exT, false, zW⟩) g ⟨exT, false, zW⟩) g ⟨(upX (fun _ => ⟨exT, false, zW⟩) g ⟨exT, false, zW⟩ g).t, decide (([2, 5] : List Int) = []), inW [2, 5]⟩ := ⟨_, rfl⟩
  rw [← hX8e] at hS8
  have hX8 : X8 g = ⟨exT, false, inW [2, 5]⟩ := by rw [hX8e]; simp [upX]
  have hY8 := stored_yes hS8 ⟨#[110, 101, 119, 115]⟩ (by decide) (g := g) (by rw [exK_low]; show lkS (stS [] exK g) exK = some g; simp [stS, lkS]) 5 (HT.out w8 A8.out).1 (by kernel_rfl) (by rw [hX8]; kernel_rfl)
  rw [hX8] at hY8
  clear hX8e hX8 hS7
  obtain ⟨i0, i1, i2⟩ := hI8
  go_wp2_with fail
  have hI8 := And.intro i0 (And.intro i1 i2)
  clear i0 i1 i2
  refine hY8.mono ?_
  rintro e w9 ⟨he, hS9, hs9⟩
  have he' : e = .returned (.tuple #[.bool false, .int .i64 0]) := he.trans (by kernel_rfl)
  subst he'
  clear he hY8
  have hs89 := hs9.size
  have hI9 : w9.cell? ⟨w.heap.size, 0, none⟩ = some (.int .i64 1) ∧ w9.cell? ⟨w.heap.size, 1, none⟩ = some (.int .i64 1) ∧ w9.cell? ⟨w.heap.size, 2, none⟩ = some (.int .i64 1) := ⟨cell_stp hs9 (by omega) (by omega) hI8.1, cell_stp hs9 (by omega) (by omega) hI8.2.1, cell_stp hs9 (by omega) (by omega) hI8.2.2⟩
  have A9 : Hid (Below w.heap.size w w9) := A8.out.trans (hs9.below A8.out.size fun k hk => by omega)
  obtain ⟨X9, hX9⟩ : ∃ X9, X9 g = ⟨exT, false, updW (inW [2, 5]) 5 false⟩ ∧ StV w3.heap.size w9 s m (stS [] (fldB exT.n) g) X9 := ⟨_, (if_pos rfl).trans (by kernel_rfl), hS9⟩
  clear hS9
  have hY9 := stored_no hX9.2 ⟨#[110, 101, 119, 115]⟩ (by decide) (g := g) (by rw [exK_low]; show lkS (stS [] exK g) exK = some g; simp [stS, lkS]) 5 (HT.out w9 A9.out).1 (by rw [hX9.1]; kernel_rfl)
  rw [hX9.1] at hY9
  obtain ⟨i0, i1, i2⟩ := hI9
  go_wp2_with fail
  have hI9 := And.intro i0 (And.intro i1 i2)
  clear i0 i1 i2
  refine hY9.mono ?_
  rintro e w10 ⟨rfl, hb⟩
  have hI10 : w10.cell? ⟨w.heap.size, 0, none⟩ = some (.int .i64 1) ∧ w10.cell? ⟨w.heap.size, 1, none⟩ = some (.int .i64 1) ∧ w10.cell? ⟨w.heap.size, 2, none⟩ = some (.int .i64 1) := ⟨(hb.cell (p := ⟨w.heap.size, 0, none⟩) (by show w.heap.size < _; omega)).trans hI9.1, (hb.cell (p := ⟨w.heap.size, 1, none⟩) (by show w.heap.size < _; omega)).trans hI9.2.1, (hb.cell (p := ⟨w.heap.size, 2, none⟩) (by show w.heap.size < _; omega)).trans hI9.2.2⟩
  have A10 : Hid (Below w.heap.size w w10) := A9.out.trans (hb.mono A9.out.size)
  have hs910 := hb.size
  have hY10 := stored_yes (hX9.2.below hb) ⟨#[110, 101, 119, 115]⟩ (by decide) (g := g) (by rw [exK_low]; show lkS (stS [] exK g) exK = some g; simp [stS, lkS]) 2 (HT.out w10 A10.out).1 (by kernel_rfl) (by rw [hX9.1]; kernel_rfl)
  rw [hX9.1] at hY10
  clear hb hX9 hY9 HT
  obtain ⟨i0, i1, i2⟩ := hI10
  go_wp2_with fail
  clear i0 i1 i2
  refine hY10.mono ?_
  rintro e w11 ⟨he, -, hs11⟩
  have he' : e = .returned (.tuple #[.bool true, .int .i64 0]) := he.trans (by kernel_rfl)
  subst he'
  have A11 : Hid (Below w.heap.size w w11) := A10.out.trans (hs11.below A10.out.size fun k hk => by omega)
  clear he hY10 hI8 hI9 hs9 hs8 hs11 hI5 hI7
  go_wp2
  go_ret
  exact ⟨rfl, A11.out⟩
end Go.Proofs.YtlndgepoekllkaaGreatDoor
/- The reference's Nodes, Same, Has: walks. -/
namespace Go.Proofs.YtlndgepoekllkaaGreatDoor
open Go.RowKit

set_option maxRecDepth 100000 in
theorem same_eq (v1 v2 : Value) (l : List Int) (w : World) (h1 : IsRow w 1 v1 l.length (iCells l)) (h2 : IsRow w 1 v2 l.length (iCells l)) (hl : l.length ≤ 1000000) :
    Calls Tryz.prog 28 #[v1, v2] w fun e w' => e = .returned (.bool true) ∧ Below w.heap.size w w' := by
  obtain ⟨a1, cap1, rfl⟩ := h1.form
  obtain ⟨a2, cap2, rfl⟩ := h2.form
  have H1 : Hid (IsRow w 1 (.slice a1 l.length cap1) l.length (iCells l)) := h1
  have H2 : Hid (IsRow w 1 (.slice a2 l.length cap2) l.length (iCells l)) := h2
  clear h1 h2
  go_enter Tryz.func28, Tryz.ntmps28
  go_wp2_with fail
  go_loopw [5] (fun i wr => ∃ k : Nat, k ≤ l.length ∧ i = .int .i64 (k : Int) ∧ Below w.heap.size w wr) (fun i _ => l.length - (intOf i).toNat)
  case atStart => exact ⟨0, Nat.zero_le _, rfl, Below.refl _ _⟩
  case round =>
    obtain ⟨k, hk, rfl, hB⟩ := hrel
    by_cases hlk : k < l.length
    · have dk : decide ((k : Int) < l.length) = true := by simp; omega
      obtain ⟨b1, off1, rfl, -, hlt1, hcap1, hc1⟩ := iCells_at (H1.out.below hB) (by omega)
      obtain ⟨b2, off2, rfl, -, hlt2, hcap2, hc2⟩ := iCells_at (H2.out.below hB) (by omega)
      have c1 := hc1 k hlk
      have c2 := hc2 k hlk
      generalize l[k]'hlk = x at *
      clear hc1 hc2
      go_wp2_with fail
      go_region
      go_wp2
      go_roundw
      case rel => exact ⟨k + 1, by omega, by simp, hB.drew⟩
      case measure => simp [intOf]; omega
    · have dk : decide ((k : Int) < l.length) = false := by simp; omega
      go_wp2
      go_ret
      exact ⟨rfl, hB⟩
set_option maxRecDepth 100000 in
theorem has_any (v : Value) (l : List Int) (x : Int) (w : World) (hr : IsRow w 1 v l.length (iCells l)) (hl : l.length ≤ 1000000) :
    Calls Tryz.prog 52 #[v, .int .i64 x] w fun e w' => e = .returned (.bool (decide (x ∈ l))) ∧ w' = w := by
  obtain ⟨a0, cap0, rfl⟩ := hr.form
  have HR : Hid (IsRow w 1 (.slice a0 l.length cap0) l.length (iCells l)) := hr
  clear hr
  go_enter Tryz.func52, Tryz.ntmps52
  go_wp2_with fail
  go_loopw [4, 5] (fun r i wr => r = .bool false ∧ ∃ k : Nat, k ≤ l.length ∧ i = .int .i64 (k : Int) ∧ Hid (∀ (j : Nat) (h : j < l.length), j < k → l[j] ≠ x) ∧ w = wr) (fun _ i _ => l.length - (intOf i).toNat)
  case atStart => exact ⟨rfl, 0, Nat.zero_le _, rfl, fun j h hj => absurd hj (Nat.not_lt_zero _), rfl⟩
  case round =>
    obtain ⟨rfl, k, hk, rfl, HO, rfl⟩ := hrel
    by_cases hlk : k < l.length
    · have dk : decide ((k : Int) < l.length) = true := by simp; omega
      obtain ⟨b, off, rfl, -, hlt, hcap, hc⟩ := iCells_at HR.out (by omega)
      have ck := hc k hlk
      by_cases he : l[k] = x
      · have HX : Hid (decide (x ∈ l) = true) := decide_eq_true (by rw [← he]; exact List.getElem_mem hlk)
        rw [he] at ck
        clear hc HO he
        go_wp2
        go_ret
        exact ⟨by rw [HX.out]; rfl, rfl⟩
      · have de : (l[k] == x) = false := by rw [beq_eq_false_iff_ne]; exact he
        have HO2 : Hid (∀ (j : Nat) (h : j < l.length), j < k + 1 → l[j] ≠ x) := fun j h hj => by
          by_cases e : j = k
          · subst e; exact he
          · exact HO.out j h (by omega)
        generalize l[k]'hlk = y at *
        clear hc HO he
        go_wp2
        go_roundw
        case rel => exact ⟨rfl, k + 1, by omega, by simp, HO2, trivial⟩
        case measure => simp [intOf]; omega
    · have dk : decide ((k : Int) < l.length) = false := by simp; omega
      have HX : Hid (decide (x ∈ l) = false) := decide_eq_false fun hm => by
        obtain ⟨j, hj, e⟩ := List.mem_iff_getElem.1 hm
        exact HO.out j hj (by omega) e
      clear HO
      go_wp2
      go_ret
      exact ⟨by rw [HX.out]; rfl, rfl⟩
end Go.Proofs.YtlndgepoekllkaaGreatDoor
/- The reference's Letter, Small, Hash: walks. -/
namespace Go.Proofs.YtlndgepoekllkaaGreatDoor
open Go.RowKit

set_option maxRecDepth 100000 in
set_option maxHeartbeats 2000000 in
theorem refLetter_any (c : Int) (w : World) :
    Calls Tryz.prog 110 #[.int .i64 c] w fun e w' => e = .returned (.bool (letterZ c)) ∧ w' = w := by
  go_enter Tryz.func110, Tryz.ntmps110
  go_wp2
  all_goals go_ret
  all_goals refine ⟨?_, rfl⟩
  all_goals refine congrArg (fun b => Ending.returned (Value.bool b)) ?_
  all_goals (rw [Bool.eq_iff_iff]; try simp only [decide_eq_true_eq, bne_iff_ne, ne_eq] at *)
  all_goals (simp only [letterZ, Bool.false_eq_true, Bool.or_eq_true, Bool.and_eq_true, bne_iff_ne, ne_eq, decide_eq_true_eq, true_iff, false_iff]; omega)

set_option maxRecDepth 100000 in
set_option maxHeartbeats 2000000 in
theorem refSmall_any (c : Int) (w : World) (h1 : -2147483648 ≤ c) (h2 : c ≤ 2147483647) :
    Calls Tryz.prog 105 #[.int .i64 c] w fun e w' => e = .returned (.int .i64 (smallZ c)) ∧ w' = w := by
  go_enter Tryz.func105, Tryz.ntmps105
  go_wp2
  all_goals go_ret
  all_goals refine ⟨?_, rfl⟩
  all_goals refine congrArg (fun b => Ending.returned (Value.int .i64 b)) ?_
  all_goals first | (simp only [smallZ, bigZ, decide_eq_true_eq, ne_eq] at *; split <;> omega) | rfl
end Go.Proofs.YtlndgepoekllkaaGreatDoor
/- The reference's Bytes, Fold: walks. -/
namespace Go.Proofs.YtlndgepoekllkaaGreatDoor
open Go.RowKit

theorem conv1 (w : World) (a : Int) : (convert 169 9 (.slice (some ⟨w.heap.size, 0, none⟩) 1 1)).run Tryz.prog (w.alloc (.cells #[.int .u8 a] 5)) = .ok (.string (strOfNums [a])) (w.alloc (.cells #[.int .u8 a] 5)) :=
  run_convert_bytes_arg (P := Tryz.prog) (w.alloc (.cells #[.int .u8 a] 5)) 169 5 Tryz.underlying169 Tryz.underlying5 w.heap.size 0 1 1 [a] rfl (fun i hi => by
    match i, hi with
    | 0, _ => simp) 9 Tryz.underlying9
theorem conv2 (w : World) (a b : Int) : (convert 169 9 (.slice (some ⟨w.heap.size, 0, none⟩) 2 2)).run Tryz.prog (w.alloc (.cells #[.int .u8 a, .int .u8 b] 5)) = .ok (.string (strOfNums [a, b])) (w.alloc (.cells #[.int .u8 a, .int .u8 b] 5)) :=
  run_convert_bytes_arg (P := Tryz.prog) (w.alloc (.cells #[.int .u8 a, .int .u8 b] 5)) 169 5 Tryz.underlying169 Tryz.underlying5 w.heap.size 0 2 2 [a, b] rfl (fun i hi => by
    match i, hi with
    | 0, _ => simp
    | 1, _ => simp) 9 Tryz.underlying9
theorem conv3 (w : World) (a b c : Int) : (convert 169 9 (.slice (some ⟨w.heap.size, 0, none⟩) 3 3)).run Tryz.prog (w.alloc (.cells #[.int .u8 a, .int .u8 b, .int .u8 c] 5)) = .ok (.string (strOfNums [a, b, c])) (w.alloc (.cells #[.int .u8 a, .int .u8 b, .int .u8 c] 5)) :=
  run_convert_bytes_arg (P := Tryz.prog) (w.alloc (.cells #[.int .u8 a, .int .u8 b, .int .u8 c] 5)) 169 5 Tryz.underlying169 Tryz.underlying5 w.heap.size 0 3 3 [a, b, c] rfl (fun i hi => by
    match i, hi with
    | 0, _ => simp
    | 1, _ => simp
    | 2, _ => simp) 9 Tryz.underlying9
theorem conv4 (w : World) (a b c d : Int) : (convert 169 9 (.slice (some ⟨w.heap.size, 0, none⟩) 4 4)).run Tryz.prog (w.alloc (.cells #[.int .u8 a, .int .u8 b, .int .u8 c, .int .u8 d] 5)) = .ok (.string (strOfNums [a, b, c, d])) (w.alloc (.cells #[.int .u8 a, .int .u8 b, .int .u8 c, .int .u8 d] 5)) :=
  run_convert_bytes_arg (P := Tryz.prog) (w.alloc (.cells #[.int .u8 a, .int .u8 b, .int .u8 c, .int .u8 d] 5)) 169 5 Tryz.underlying169 Tryz.underlying5 w.heap.size 0 4 4 [a, b, c, d] rfl (fun i hi => by
    match i, hi with
    | 0, _ => simp
    | 1, _ => simp
    | 2, _ => simp
    | 3, _ => simp) 9 Tryz.underlying9

theorem str_nums (l : List Nat) (xs : List Int) (h : xs = l.map fun (x : Nat) => (x : Int)) : strOfNums xs = str (l.map UInt8.ofNat) := by
  subst h
  unfold strOfNums str
  congr 2
  rw [List.map_map]
  rfl

set_option maxRecDepth 100000 in
set_option maxHeartbeats 2000000 in
theorem refBytes_any (c : Nat) (w : World) (h : scal c) :
    Calls Tryz.prog 104 #[.int .i64 (c : Int)] w fun e w' => e = .returned (.string (str (enc c))) ∧ Below w.heap.size w w' := by
  have hc : c ≤ 1114111 := by unfold scal at h; omega
  by_cases h1 : c < 128
  · have d1 : (c : Int) < 128 := by omega
    have HE : Hid (strOfNums [(c : Int)] = str (enc c)) := by
      show _ = _
      rw [enc1 h1]
      exact str_nums [c] _ rfl
    go_enter Tryz.func104, Tryz.ntmps104
    go_wp2
    rw [conv1]
    go_wp2
    go_ret
    exact ⟨by rw [← HE.out]; rfl, (Below.refl _ _).alloc (Nat.le_refl _) _⟩
  have d1 : decide ((c : Int) < 128) = false := by simp; omega
  by_cases h2 : c < 2048
  · have d2 : (c : Int) < 2048 := by omega
    have HE : Hid (strOfNums [192 + (c : Int) / 64, 128 + (c : Int) % 64] = str (enc c)) := by
      show _ = _
      rw [enc2 (by omega) h2]
      exact str_nums [192 + c / 64, 128 + c % 64] _ (by simp)
    go_enter Tryz.func104, Tryz.ntmps104
    go_wp2
    rw [conv2]
    go_wp2
    go_ret
    exact ⟨by rw [← HE.out]; rfl, (Below.refl _ _).alloc (Nat.le_refl _) _⟩
  have d2 : decide ((c : Int) < 2048) = false := by simp; omega
  by_cases h3 : c < 65536
  · have d3 : (c : Int) < 65536 := by omega
    have HE : Hid (strOfNums [224 + (c : Int) / 4096, 128 + (c : Int) / 64 % 64, 128 + (c : Int) % 64] = str (enc c)) := by
      show _ = _
      rw [enc3 (by omega) h3 h]
      exact str_nums [224 + c / 4096, 128 + c / 64 % 64, 128 + c % 64] _ (by simp)
    go_enter Tryz.func104, Tryz.ntmps104
    go_wp2
    rw [conv3]
    go_wp2
    go_ret
    exact ⟨by rw [← HE.out]; rfl, (Below.refl _ _).alloc (Nat.le_refl _) _⟩
  · have d3 : decide ((c : Int) < 65536) = false := by simp; omega
    have HE : Hid (strOfNums [240 + (c : Int) / 262144, 128 + (c : Int) / 4096 % 64, 128 + (c : Int) / 64 % 64, 128 + (c : Int) % 64] = str (enc c)) := by
      show _ = _
      rw [enc4 (by omega) h]
      exact str_nums [240 + c / 262144, 128 + c / 4096 % 64, 128 + c / 64 % 64, 128 + c % 64] _ (by simp)
    go_enter Tryz.func104, Tryz.ntmps104
    go_wp2
    rw [conv4]
    go_wp2
    go_ret
    exact ⟨by rw [← HE.out]; rfl, (Below.refl _ _).alloc (Nat.le_refl _) _⟩

theorem str_append (a b : List UInt8) : str a ++ str b = str (a ++ b) := ba_eq (by rw [ba_append, str_data, str_data, str_data])
theorem room {A B : ByteArray} (h1 : A.size ≤ 4000000) (h2 : B.size ≤ 4) : ¬ 9223372036854775807 < A.size + B.size := by omega
theorem ints_row {w : World} {v : Value} {l : List Nat} (h : IsRow w 1 v l.length (icells l)) (i : Nat) (hi : i < l.length) :
    ∃ b off cap, v = .slice (some ⟨b, off, none⟩) l.length cap ∧ b < w.heap.size ∧ w.cell? ⟨b, off + i, none⟩ = some (.int .i64 ((l[i]'hi : Nat) : Int)) := by
  obtain ⟨b, off, cap', hv, hlt, _, _, hc⟩ := h.open (by omega)
  exact ⟨b, off, cap', hv, hlt, hc i _ (by simp [icells, hi])⟩

set_option maxRecDepth 100000 in
set_option maxHeartbeats 2000000 in
theorem refFold_any (s : ByteArray) (w : World) (hs : s.size ≤ 1000000) :
    Calls Tryz.prog 85 #[.string s] w fun e w' => e = .returned (.string (str (foldL s.data.toList))) ∧ Below w.heap.size w w' := by
  by_cases hv : Lib.validD s.data.toList = true
  · have HF : Hid (str (((rns s.data.toList).map smallN).flatMap enc) = str (foldL s.data.toList)) := by show _ = _; rw [foldL, if_pos hv]
    have HL : Hid ((rns s.data.toList).length ≤ 1000000) := by
      have h3 := rns_len_le s.data.toList.length s.data.toList
      have e : s.data.toList.length = s.size := Array.length_toList
      have : (rns s.data.toList).length ≤ s.data.toList.length := h3
      show _ ≤ _
      omega
    have HS : Hid (∀ c ∈ rns s.data.toList, scal c) := rns_scal _
    go_enter Tryz.func85, Tryz.ntmps85
    go_wp2_with fail
    refine (refValid_any s _ (by omega)).mono ?_
    rintro e w1 ⟨rfl, hb1⟩
    rw [hv]
    go_wp2_with fail
    refine (refRunes_any s _ hs hv).mono ?_
    rintro e w2 ⟨v2, rfl, hv2, hb2'⟩
    have hb2 := hb1.trans (hb2'.mono hb1.size)
    clear hb1 hb2'
    generalize rns s.data.toList = l at *
    have hll := HL.out
    obtain ⟨a2, cap2, rfl⟩ := hv2.form
    have hs2 := hb2.size
    go_wp2_with fail
    go_loopw [4, 5] (fun o i wr => ∃ k : Nat, k ≤ l.length ∧ i = .int .i64 k ∧ o = .string (str (((l.take k).map smallN).flatMap enc)) ∧ Below w2.heap.size w2 wr) (fun _ i _ => l.length - (RowKit.intOf i).toNat)
    case atStart => exact ⟨0, Nat.zero_le _, rfl, rfl, Below.refl _ _⟩
    case round =>
      obtain ⟨k, hk, rfl, rfl, hb⟩ := hrel
      have hbs := hb.size
      by_cases hlt : k < l.length
      · obtain ⟨b, off, cap, hvv, hbl, c0⟩ := ints_row (hv2.below hb) k hlt
        simp only [Value.slice.injEq] at hvv
        obtain ⟨rfl, _, rfl⟩ := hvv
        have hi : (k : Int) < l.length := by omega
        have hsc : Hid (scal l[k]) := HS.out _ (List.getElem_mem hlt)
        have hcm : l[k] ≤ 1114111 := by have := hsc.out; unfold scal at this; omega
        have HN : Hid (str (((l.take k).map smallN).flatMap enc) ++ str (enc (smallN l[k])) = str (((l.take (k + 1)).map smallN).flatMap enc)) := by
          show _ = _
          rw [str_append, List.take_succ_eq_append_getElem hlt, List.map_append, List.flatMap_append]
          simp only [List.map_cons, List.map_nil, List.flatMap_cons, List.flatMap_nil, List.append_nil]
        have hz1 : (str (((l.take k).map smallN).flatMap enc)).size ≤ 4000000 := by
          rw [str_size]
          have h1 := flat_len ((l.take k).map smallN)
          rw [List.length_map, List.length_take] at h1
          omega
        have hz2 : (str (enc (smallN l[k]))).size ≤ 4 := by rw [str_size]; exact enc_len4 _
        have hz3 := room hz1 hz2
        clear hz1 hz2
        generalize hA : str (((l.take k).map smallN).flatMap enc) = A at *
        clear hA
        go_wp2_with fail
        refine (refSmall_any _ _ (by omega) (by omega)).mono ?_
        rintro e w' ⟨rfl, rfl⟩
        rw [smallZ_nat]
        go_wp2_with fail
        refine (refBytes_any _ _ (smallN_scal hsc.out)).mono ?_
        rintro e w3 ⟨rfl, hb3'⟩
        have hb3 : Hid (Below w2.heap.size w2 w3) := hb.trans (hb3'.mono hb.size)
        clear hb hb3' c0
        go_wp2
        go_roundw
        case rel => exact ⟨k + 1, by omega, by go_num, by rw [HN.out], hb3.out⟩
        case measure => simp [RowKit.intOf]; omega
      · have hk' : k = l.length := by omega
        subst hk'
        have HN : Hid (str (((l.take l.length).map smallN).flatMap enc) = str (foldL s.data.toList)) := by show _ = _; rw [← HF.out, List.take_of_length_le (Nat.le_refl _)]
        rw [HN.out]
        go_wp2
        go_ret
        exact ⟨rfl, hb2.trans (hb.mono hs2)⟩
  · have hv' : Lib.validD s.data.toList = false := by simpa using hv
    have HF : Hid (s = str (foldL s.data.toList)) := by show _ = _; rw [foldL, if_neg hv, str_of]
    go_enter Tryz.func85, Tryz.ntmps85
    go_wp2_with fail
    refine (refValid_any s _ (by omega)).mono ?_
    rintro e w1 ⟨rfl, hb1⟩
    rw [hv']
    go_wp2
    go_ret
    exact ⟨by rw [← HF.out]; rfl, hb1⟩
end Go.Proofs.YtlndgepoekllkaaGreatDoor
/- What StoreSure calls: nodes at any length, Stored in one word, an append of a row of ints. -/
namespace Go.Proofs.YtlndgepoekllkaaGreatDoor
open Go.RowKit Go.ChangeMaps

set_option maxRecDepth 100000 in
set_option maxHeartbeats 2000000 in
theorem refNodesG_any (v : Value) (l : List Int) (w : World) (hr : IsRow w 1 v l.length (iCells l)) (hl : l.length ≤ 140737488355328) :
    Calls Tryz.prog 51 #[v] w fun e w' => e = .returned (.bool (nodesB l)) ∧ Below w.heap.size w w' := by
  obtain ⟨a0, cap0, rfl⟩ := hr.form
  have HR : Hid (IsRow w 1 (.slice a0 l.length cap0) l.length (iCells l)) := hr
  clear hr
  go_enter Tryz.func51, Tryz.ntmps51
  go_wp2_with fail
  go_loopw [2, 3] (fun r i wr => r = .bool false ∧ ∃ k : Nat, k ≤ l.length ∧ i = .int .i64 (k : Int) ∧ Hid (∀ (j : Nat) (h : j < l.length), j < k → okAt l j h) ∧ Below w.heap.size w wr) (fun _ i _ => l.length - (intOf i).toNat)
  case atStart => exact ⟨rfl, 0, Nat.zero_le _, rfl, fun j h hj => absurd hj (Nat.not_lt_zero _), Below.refl _ _⟩
  case round =>
    obtain ⟨rfl, k, hk, rfl, HO, hB⟩ := hrel
    by_cases hlk : k < l.length
    · have dk : decide ((k : Int) < l.length) = true := by simp; omega
      obtain ⟨b, off, rfl, -, hlt, hcap, hc⟩ := iCells_at (HR.out.below hB) (by omega)
      have ck := hc k hlk
      by_cases hok : okAt l k hlk
      · have HO2 : Hid (∀ (j : Nat) (h : j < l.length), j < k + 1 → okAt l j h) := fun j h hj => by
          by_cases e : j = k
          · subst e; exact hok
          · exact HO.out j h (by omega)
        obtain ⟨o1, o2, o3⟩ := hok
        cases k with
        | zero =>
          simp only [Nat.add_zero] at ck
          generalize l[0]'hlk = x at *
          have d1 : decide (x < 1) = false := by simp; omega
          have d2 : decide (15 < x) = false := by simp; omega
          clear hc HO o3
          go_wp2_with fail
          go_region
          go_wp2
          go_roundw
          case rel => exact ⟨rfl, 0 + 1, by omega, by simp, HO2, hB.drew⟩
          case measure => simp [intOf]; omega
        | succ j =>
          have cj := hc j (by omega)
          have hlt2 := o3 j rfl
          generalize l[j + 1]'hlk = x at *
          generalize l[j]'(by omega) = y at *
          have d1 : decide (x < 1) = false := by simp; omega
          have d2 : decide (15 < x) = false := by simp; omega
          have d3 : decide (x ≤ y) = false := by simp; omega
          clear hc HO o3
          go_wp2_with fail
          go_region
          go_wp2
          go_roundw
          case rel => exact ⟨rfl, j + 1 + 1, by omega, by simp, HO2, hB.drew⟩
          case measure => simp [intOf]; omega
      · have HN : Hid (nodesB l = false) := nodesB_false fun h => hok (h k hlk)
        by_cases h1 : l[k] < 1
        · generalize l[k]'hlk = x at *
          have d1 : decide (x < 1) = true := by simp; omega
          clear hc HO hok
          go_wp2_with fail
          go_region
          go_wp2
          go_ret
          exact ⟨by rw [HN.out]; rfl, hB.drew⟩
        by_cases h2 : 15 < l[k]
        · generalize l[k]'hlk = x at *
          have d1 : decide (x < 1) = false := by simp; omega
          have d2 : decide (15 < x) = true := by simp; omega
          clear hc HO hok
          go_wp2_with fail
          go_region
          go_wp2
          go_ret
          exact ⟨by rw [HN.out]; rfl, hB.drew⟩
        cases k with
        | zero => exact absurd ⟨by omega, by omega, fun j e => absurd e (by omega)⟩ hok
        | succ j =>
          have cj := hc j (by omega)
          have hle : ¬ l[j]'(by omega) < l[j + 1]'hlk := fun hh => hok ⟨by omega, by omega, fun j' e => by
            have : j' = j := by omega
            subst this
            exact hh⟩
          generalize l[j + 1]'hlk = x at *
          generalize l[j]'(by omega) = y at *
          have d1 : decide (x < 1) = false := by simp; omega
          have d2 : decide (15 < x) = false := by simp; omega
          have d3 : decide (x ≤ y) = true := by simp; omega
          clear hok hc HO
          go_wp2_with fail
          go_region
          go_wp2
          go_ret
          exact ⟨by rw [HN.out]; rfl, hB.drew⟩
    · have dk : decide ((k : Int) < l.length) = false := by simp; omega
      have HY : Hid (nodesB l = true) := nodesB_true fun j h => HO.out j h (by omega)
      clear HO
      go_wp2
      go_ret
      exact ⟨by rw [HY.out]; rfl, hB⟩
set_option maxRecDepth 100000 in
theorem alikeU_any (a b : ByteArray) (w : World) (ha : a.size ≤ 1000000) (hb : b.size ≤ 1000000) :
    Calls Tryz.prog 58 #[.string a, .string b] w fun e w' => e = .returned (.bool (sameL a.data.toList b.data.toList)) ∧ Below w.heap.size w w' := by
  have HE : Hid (((str (foldL a.data.toList)).toList == (str (foldL b.data.toList)).toList) = sameL a.data.toList b.data.toList) := strEq _ _
  have HA : Hid (Calls Tryz.prog 85 #[.string a] w fun e w' => e = .returned (.string (str (foldL a.data.toList))) ∧ Below w.heap.size w w') := refFold_any a w ha
  have HB : Hid (∀ w', Calls Tryz.prog 85 #[.string b] w' fun e w'' => e = .returned (.string (str (foldL b.data.toList))) ∧ Below w'.heap.size w' w'') := fun w' => refFold_any b w' hb
  generalize str (foldL a.data.toList) = A at *
  generalize str (foldL b.data.toList) = B at *
  generalize sameL a.data.toList b.data.toList = r at *
  go_enter Tryz.func58, Tryz.ntmps58
  go_wp2_with fail
  refine HA.out.mono ?_
  rintro e w1 ⟨rfl, h1⟩
  have H1 : Hid (Below w.heap.size w w1) := h1
  clear h1
  go_wp2_with fail
  refine (HB.out w1).mono ?_
  rintro e w2 ⟨rfl, h2⟩
  have H2 : Hid (Below w.heap.size w w2) := H1.out.trans (h2.mono H1.out.size)
  clear h2
  go_wp2
  go_ret
  exact ⟨by rw [← HE.out]; rfl, H2.out⟩
theorem fldB_same (a b : ByteArray) : (fldB a = fldB b) ↔ sameL a.data.toList b.data.toList = true := by
  unfold fldB sameL
  rw [decide_eq_true_eq]
  constructor
  · intro h
    have := congrArg (fun s : ByteArray => s.data.toList) h
    simpa only [str_data] using this
  · intro h
    rw [h]
theorem isN_in {L : List Int} (h : NodesP L) {N : Int} : (isN N && inW L N.toNat) = decide (N ∈ L) := by
  by_cases hm : N ∈ L
  · have h1 := nodes_mem h hm
    rw [decide_eq_true hm, isN_of h1.1 h1.2, Bool.true_and]
    unfold inW
    rw [show ((N.toNat : Nat) : Int) = N by omega]
    exact decide_eq_true hm
  · rw [decide_eq_false hm]
    cases hi : isN N
    · rfl
    · have h1 := isN_get hi
      rw [Bool.true_and]
      unfold inW
      rw [show ((N.toNat : Nat) : Int) = N by omega]
      exact decide_eq_false hm
theorem anyW_inW {L : List Int} (h : NodesP L) : (!anyW (inW L)) = decide (L = []) := by rw [anyW_in h, Bool.not_not]
end Go.Proofs.YtlndgepoekllkaaGreatDoor
