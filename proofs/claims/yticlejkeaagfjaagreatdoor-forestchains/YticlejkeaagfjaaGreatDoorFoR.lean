/- forest.Find: its walk. -/
import Derived.Test.YticlejkeaagfjaaGreatDoorFoE
import Derived.Test.YticlejkeaagfjaaGreatDoorZj
namespace Go.Proofs.YticlejkeaagfjaaGreatDoor
open Go.RowKit Go.ChangeMaps

/-- Rows of types are not too long to be copied. -/
def SmT (t : Ty) : Prop := t.own.length ≤ 1000 ∧ t.all.length ≤ 1000 ∧ t.ch.length ≤ 1000
def SmL (L : List LT) : Prop := ∀ x ∈ L, SmT x.t
/-- A copy of a type, where it lies. -/
theorem cp_lt {t : Ty} {w : World} {e : Ending} {w' : World} (h : CpT t w e w') : ∃ y : LT, e = .returned (ltV y) ∧ y.t = t ∧ IsTy w' y.t y.vo y.va y.vc ∧ NewT w.heap.size y ∧ Below w.heap.size w w' := by
  obtain ⟨vo, va, vc, rfl, ho, hb⟩ := h
  obtain ⟨x1, y1, rfl⟩ := ho.is.1.form
  obtain ⟨x2, y2, rfl⟩ := ho.is.2.1.form
  obtain ⟨x3, y3, rfl⟩ := ho.is.2.2.form
  exact ⟨⟨t, x1, y1, x2, y2, x3, y3⟩, rfl, rfl, ho.is, ⟨NewA.own ho.1, NewA.own ho.2.1, NewA.own ho.2.2⟩, hb⟩
def FnP (L : List LT) (s : ByteArray) (w : World) (e : Ending) (w' : World) : Prop := ∃ y : LT, e = .returned (.tuple #[ltV y, .bool (parN (tys L) s).isSome]) ∧ y.t = (parN (tys L) s).getD zT ∧ IsTy w' y.t y.vo y.va y.vc ∧ NewT w.heap.size y ∧ Below w.heap.size w w'
theorem parN_atL {L : List LT} {s : ByteArray} {k : Nat} (hk : k < L.length) (h1 : ∀ (j : Nat) (h : j < L.length), j < k → sameL L[j].t.n.data.toList s.data.toList = false) (h2 : sameL L[k].t.n.data.toList s.data.toList = true) : parN (tys L) s = some L[k].t := by
  unfold parN
  rw [List.find?_eq_some_iff_getElem]
  refine ⟨h2, k, by rw [tys_len]; exact hk, tys_at L k hk, fun j hj => ?_⟩
  rw [tys_at L j (by omega), h1 j (by omega) hj]
  rfl
theorem parN_noL {L : List LT} {s : ByteArray} (h1 : ∀ (j : Nat) (h : j < L.length), sameL L[j].t.n.data.toList s.data.toList = false) : parN (tys L) s = none := by
  unfold parN
  rw [List.find?_eq_none]
  intro x hx
  obtain ⟨j, hj, rfl⟩ := List.mem_iff_getElem.1 hx
  rw [tys_len] at hj
  rw [tys_at L j hj, h1 j hj]
  decide
set_option maxRecDepth 100000 in
set_option maxHeartbeats 4000000 in
theorem findT_any (v : Value) (L : List LT) (s : ByteArray) (w : World) (hr : IsTys w v L) (hl : L.length ≤ 1000000) (hn : ∀ x ∈ L, x.t.n.size ≤ 1000000) (hm : SmL L) (hs : s.size ≤ 1000000) (hU : UT w) :
    Calls Tryz.prog 14 #[v, .string s] w fun e w' => FnP L s w e w' := by
  obtain ⟨a0, cap0, rfl⟩ := hr.1.form
  obtain ⟨W0, hW0⟩ : ∃ W0, W0 = w.alloc (.cells zTyA 32) := ⟨_, rfl⟩
  have hA : Below w.heap.size w W0 := by rw [hW0]; exact al_b w _
  have hn1 : W0.heap[w.heap.size]? = some (.cells zTyA 32 (0, 0)) := by rw [hW0]; exact new_at w _
  have hz : W0.heap.size = w.heap.size + 1 := by rw [hW0]; simp
  have HZ : Hid (∀ W, Below W0.heap.size W0 W → BxT w.heap.size zT (.slice none 0 0) (.slice none 0 0) (.slice none 0 0) W) := fun W h => BxT.of ((h.block _ (by omega)).trans hn1)
  have HF1 : Hid (∀ W, Below W0.heap.size W0 W → ∀ j, W.frozen? ⟨w.heap.size, j, none⟩ = false) := fun W h j => Lib.frozen_of_heap ((h.block _ (by omega)).trans hn1) j
  have HBw : Hid (∀ W, Below W0.heap.size W0 W → Below w.heap.size w W) := fun W h => hA.trans (h.mono hA.size)
  have HR : Hid (∀ W, Below W0.heap.size W0 W → IsRow W 8 (.slice a0 L.length cap0) L.length (tCells L)) := fun W h => hr.1.below (HBw.out W h)
  have HS : Hid (∀ (k : Nat) (hk : k < L.length) W, Below W0.heap.size W0 W → Calls Tryz.prog 53 #[.string L[k].t.n, .string s] W fun e w' => e = .returned (.bool (sameL L[k].t.n.data.toList s.data.toList)) ∧ Below W.heap.size W w') := fun k hk W h => same_any _ _ W (hn _ (List.getElem_mem hk)) hs (Utf8Tabs_below hU (HBw.out W h))
  have HCp : Hid (∀ (k : Nat) (hk : k < L.length) W, Below W0.heap.size W0 W → Calls Tryz.prog 51 #[ltV L[k]] W fun e w' => CpT L[k].t W e w') := fun k hk W h => copied_any _ _ _ _ W ((hr.2 _ (List.getElem_mem hk)).below (HBw.out W h)) (hm _ (List.getElem_mem hk)).1 (hm _ (List.getElem_mem hk)).2.1 (hm _ (List.getElem_mem hk)).2.2
  have HSt : Hid (Below W0.heap.size W0 W0) := Below.refl _ _
  clear hr hn hm hU hA hn1
  go_enter Tryz.func14, Tryz.ntmps14
  go_wp2_with fail
  rw [← hW0]
  clear hW0
  go_loopw [5, 7, 10] (fun b _ i wr => b = .bool false ∧ ∃ k : Nat, k ≤ L.length ∧ i = .int .i64 (k : Int) ∧ Hid (∀ (j : Nat) (h : j < L.length), j < k → sameL L[j].t.n.data.toList s.data.toList = false) ∧ Hid (Below W0.heap.size W0 wr)) (fun _ _ i _ => L.length - (intOf i).toNat)
  case atStart => exact ⟨rfl, 0, Nat.zero_le _, rfl, (fun j h hj => absurd hj (Nat.not_lt_zero _)), HSt⟩
  case round =>
    obtain ⟨rfl, k, hk, rfl, HO, HB⟩ := hrel
    have hsz := HB.out.size
    by_cases hlk : k < L.length
    · have dk : decide ((k : Int) < L.length) = true := by simp; omega
      obtain ⟨b, off, rfl, hbl, -, hcap, hc⟩ := t_at (HR.out _ HB.out) (by omega)
      obtain ⟨⟨y0, y1, y2, y3⟩, y4, y5, y6, y7⟩ := hc k hlk
      have HS1 : Hid (∀ W, Below W0.heap.size W0 W → Calls Tryz.prog 53 #[.string L[k].t.n, .string s] W fun e w' => e = .returned (.bool (sameL L[k].t.n.data.toList s.data.toList)) ∧ Below W.heap.size W w') := fun W h => HS.out k hlk W h
      have HC1 : Hid (∀ W, Below W0.heap.size W0 W → Calls Tryz.prog 51 #[ltV L[k]] W fun e w' => CpT L[k].t W e w') := fun W h => HCp.out k hlk W h
      have HYes : Hid (sameL L[k].t.n.data.toList s.data.toList = true → parN (tys L) s = some L[k].t) := fun h => parN_atL hlk HO.out h
      have HO2 : Hid (sameL L[k].t.n.data.toList s.data.toList = false → ∀ (j : Nat) (h : j < L.length), j < k + 1 → sameL L[j].t.n.data.toList s.data.toList = false) := fun h0 j h hj => by
        by_cases e : j = k
        · subst e; exact h0
        · exact HO.out j h (by omega)
      obtain ⟨W1, hW1⟩ : ∃ W1, W1 = wr.alloc (.cells (tyA L[k].t L[k].vo L[k].va L[k].vc) 32) := ⟨_, rfl⟩
      have hA : Below wr.heap.size wr W1 := by rw [hW1]; exact al_b wr _
      have hnb : W1.heap[wr.heap.size]? = some (.cells (tyA L[k].t L[k].vo L[k].va L[k].vc) 32 (0, 0)) := by rw [hW1]; exact new_at wr _
      have hlt1 : wr.heap.size < W1.heap.size := (Array.getElem?_eq_some_iff.1 hnb).1
      have HX : Hid (∀ W, Below W1.heap.size W1 W → BxT wr.heap.size L[k].t L[k].vo L[k].va L[k].vc W) := fun W h => BxT.of ((h.block _ hlt1).trans hnb)
      have HT : Hid (∀ W, Below W1.heap.size W1 W → Below W0.heap.size W0 W) := fun W h => HB.out.trans ((hA.trans (h.mono hA.size)).mono hsz)
      have HT1 : Hid (Below W0.heap.size W0 W1) := HT.out _ (Below.refl _ _)
      clear hnb hA hc HO HR HS HCp
      generalize L[k]'hlk = x at *
      go_wp2_with fail
      rw [← hW1]
      clear hW1
      refine (HS1.out _ HT1.out).mono ?_
      rintro e w2 ⟨rfl, hb2⟩
      cases hsm : sameL x.t.n.data.toList s.data.toList
      · have HO3 : Hid (∀ (j : Nat) (h : j < L.length), j < k + 1 → sameL L[j].t.n.data.toList s.data.toList = false) := HO2.out hsm
        have HB2 : Hid (Below W0.heap.size W0 w2) := HT.out _ hb2
        clear hb2 HS1 HC1 HYes HO2 HX HT HT1 y0 y1 y2 y3 y4 y5 y6 y7 hsm
        go_wp2
        go_roundw
        case rel => exact ⟨rfl, k + 1, by omega, by simp, HO3, HB2⟩
        case measure => simp [intOf]; omega
      · have hpar := HYes.out hsm
        obtain ⟨⟨g0, g1, g2, g3⟩, g4, g5, g6, g7⟩ := HX.out _ hb2
        have HB2 : Hid (Below W0.heap.size W0 w2) := HT.out _ hb2
        have HCw : Hid (Calls Tryz.prog 51 #[ltV x] w2 fun e w' => CpT x.t w2 e w') := HC1.out _ HB2.out
        clear hb2 HS1 HC1 HYes HO2 HX HT HT1 y0 y1 y2 y3 y4 y5 y6 y7 hsm
        have HPa : Hid (parN (tys L) s = some x.t) := hpar
        clear hpar
        go_wp2_with fail
        refine HCw.out.mono ?_
        intro e w3 hcp
        obtain ⟨y, rfl, hyt, hyI, hyN, hb3⟩ := cp_lt hcp
        have hB3 : Below W0.heap.size W0 w3 := HB2.out.trans (hb3.mono HB2.out.size)
        obtain ⟨⟨e0, e1, e2, e3⟩, e4, e5, e6, e7⟩ := HZ.out _ hB3
        have f0 := HF1.out _ hB3
        have hlo : w.heap.size < w2.heap.size := by have := HB2.out.size; omega
        have HEnd : Hid (∀ u0 u1 u2 u3 u4 u5 u6 u7, FnP L s w (.returned (.tuple #[ltV y, .bool true])) ((((((((w3.setCell ⟨w.heap.size, 0, none⟩ u0).setCell ⟨w.heap.size, 1, none⟩ u1).setCell ⟨w.heap.size, 2, none⟩ u2).setCell ⟨w.heap.size, 3, none⟩ u3).setCell ⟨w.heap.size, 4, none⟩ u4).setCell ⟨w.heap.size, 5, none⟩ u5).setCell ⟨w.heap.size, 6, none⟩ u6).setCell ⟨w.heap.size, 7, none⟩ u7)) := fun u0 u1 u2 u3 u4 u5 u6 u7 => ⟨y, by rw [HPa.out]; rfl, by rw [HPa.out]; exact hyt, ty_far8 hyI hyN hlo _ _ _ _ _ _ _ _, hyN.le (Nat.le_of_lt hlo), below8 (HBw.out _ hB3) (Nat.le_refl _) _ _ _ _ _ _ _ _⟩
        clear hcp hyt hyI hyN hb3 hB3 HCw HB2 g0 g1 g2 g3 g4 g5 g6 g7 HZ HF1 HBw HPa HSt
        go_wp2_with fail
        try simp only [Exit.inBlock, Exit.then]
        refine bodyPost_ret (v := .tuple #[ltV y, .bool true]) ?_ rfl (HEnd.out _ _ _ _ _ _ _ _)
        rw [results_c2 rfl]; go_simp
        first | done | exact ⟨rfl, rfl, rfl, rfl, rfl⟩
    · have dk : decide ((k : Int) < L.length) = false := by simp; omega
      have HPa : Hid (parN (tys L) s = none) := parN_noL fun j h => HO.out j h (by omega)
      obtain ⟨⟨e0, e1, e2, e3⟩, e4, e5, e6, e7⟩ := HZ.out _ HB.out
      have f0 := HF1.out _ HB.out
      have HEnd : Hid (∀ u0 u1 u2 u3 u4 u5 u6 u7, FnP L s w (.returned (.tuple #[tyV zT (.slice none 0 0) (.slice none 0 0) (.slice none 0 0), .bool false])) ((((((((wr.setCell ⟨w.heap.size, 0, none⟩ u0).setCell ⟨w.heap.size, 1, none⟩ u1).setCell ⟨w.heap.size, 2, none⟩ u2).setCell ⟨w.heap.size, 3, none⟩ u3).setCell ⟨w.heap.size, 4, none⟩ u4).setCell ⟨w.heap.size, 5, none⟩ u5).setCell ⟨w.heap.size, 6, none⟩ u6).setCell ⟨w.heap.size, 7, none⟩ u7)) := fun u0 u1 u2 u3 u4 u5 u6 u7 => ⟨zLT, by rw [HPa.out]; rfl, by rw [HPa.out]; rfl, ty_zLT _, new_zLT _, below8 (HBw.out _ HB.out) (Nat.le_refl _) _ _ _ _ _ _ _ _⟩
      clear HO HR HS HCp HZ HF1 HBw HPa HSt
      go_wp2_with fail
      try simp only [Exit.inBlock, Exit.then]
      refine bodyPost_ret (v := .tuple #[tyV zT (.slice none 0 0) (.slice none 0 0) (.slice none 0 0), .bool false]) ?_ rfl (HEnd.out _ _ _ _ _ _ _ _)
      rw [results_c2 rfl]; go_simp
      first | done | exact ⟨rfl, rfl, rfl, rfl, rfl⟩
end Go.Proofs.YticlejkeaagfjaaGreatDoor
