/- The reference's Take of any net: its walk. -/
import Derived.Test.YthbhgblgacoklaaHZi
namespace Go.Proofs.Ythbhgblgacoklaa
open Go.RowKit

abbrev tkB : Obj := .cells #[.slice none 0 0, .slice none 0 0, .int .i64 0, .int .i64 0, .int .i64 0, .int .i64 0, .int .i64 0, .int .i64 0, .string ⟨#[]⟩, .int .i64 0] 73
theorem ten_at {W : World} {b : Nat} {x0 x1 x2 x3 x4 x5 x6 x7 x8 x9 : Value} {t : TypeId} (h : W.heap[b]? = some (.cells #[x0, x1, x2, x3, x4, x5, x6, x7, x8, x9] t)) : W.cell? ⟨b, 0, none⟩ = some x0 ∧ W.cell? ⟨b, 1, none⟩ = some x1 ∧ W.cell? ⟨b, 2, none⟩ = some x2 ∧ W.cell? ⟨b, 3, none⟩ = some x3 ∧ W.cell? ⟨b, 4, none⟩ = some x4 ∧ W.cell? ⟨b, 5, none⟩ = some x5 ∧ W.cell? ⟨b, 6, none⟩ = some x6 ∧ W.cell? ⟨b, 7, none⟩ = some x7 ∧ W.cell? ⟨b, 8, none⟩ = some x8 ∧ W.cell? ⟨b, 9, none⟩ = some x9 ∧ ∀ o, W.frozen? ⟨b, o, none⟩ = false := by
  refine ⟨?_, ?_, ?_, ?_, ?_, ?_, ?_, ?_, ?_, ?_, fun o => by simp [World.frozen?, h]⟩ <;> (rw [Lib.cell_of_heap h]; rfl)
theorem ten_set {W : World} {b : Nat} {y0 y1 y2 y3 y4 y5 y6 y7 y8 y9 : Value} {t : TypeId} (h : W.heap[b]? = some (.cells #[y0, y1, y2, y3, y4, y5, y6, y7, y8, y9] t)) (x0 x1 x2 x3 x4 x5 x6 x7 x8 x9 : Value) : ((((((((((W.setCell ⟨b, 0, none⟩ x0).setCell ⟨b, 1, none⟩ x1).setCell ⟨b, 2, none⟩ x2).setCell ⟨b, 3, none⟩ x3).setCell ⟨b, 4, none⟩ x4).setCell ⟨b, 5, none⟩ x5).setCell ⟨b, 6, none⟩ x6).setCell ⟨b, 7, none⟩ x7).setCell ⟨b, 8, none⟩ x8).setCell ⟨b, 9, none⟩ x9).heap[b]? = some (.cells #[x0, x1, x2, x3, x4, x5, x6, x7, x8, x9] t) := by
  have h0 := (setCell_at W 0 h x0).1
  have h1 := (setCell_at _ 1 h0 x1).1
  have h2 := (setCell_at _ 2 h1 x2).1
  have h3 := (setCell_at _ 3 h2 x3).1
  have h4 := (setCell_at _ 4 h3 x4).1
  have h5 := (setCell_at _ 5 h4 x5).1
  have h6 := (setCell_at _ 6 h5 x6).1
  have h7 := (setCell_at _ 7 h6 x7).1
  have h8 := (setCell_at _ 8 h7 x8).1
  have h9 := (setCell_at _ 9 h8 x9).1
  simpa using h9
theorem SLs_set1 {b : Nat} {v u : Value} {f t : Int} {w0 W : World} (o : Nat) (x : Value) (s : SLs b v u f t w0 W) : SLs b v u f t w0 (W.setCell ⟨b + 1 + 1, o, none⟩ x) := by
  obtain ⟨s1, s2, s3, s4, s5, s6⟩ := s
  have hh : ∀ (c o' : Nat), c ≠ b + 1 + 1 → (W.setCell ⟨b + 1 + 1, o, none⟩ x).cell? ⟨c, o', none⟩ = W.cell? ⟨c, o', none⟩ := fun c o' hc => by
    rw [World.cell?_setCell_other _ _ _ _ (fun e => hc (by injection e; simp_all))]
  exact ⟨(hh b 0 (by omega)).trans s1, (hh b 1 (by omega)).trans s2, (hh (b + 1) 0 (by omega)).trans s3, (hh (b + 1) 1 (by omega)).trans s4, by simpa using s5, s6.setCell (p := ⟨b + 1 + 1, o, none⟩) (Nat.le_add_right _ 2) x⟩
theorem SLs_set10 {b : Nat} {v u : Value} {f t : Int} {w0 W : World} (x0 x1 x2 x3 x4 x5 x6 x7 x8 x9 : Value) (s : SLs b v u f t w0 W) : SLs b v u f t w0 ((((((((((W.setCell ⟨b + 1 + 1, 0, none⟩ x0).setCell ⟨b + 1 + 1, 1, none⟩ x1).setCell ⟨b + 1 + 1, 2, none⟩ x2).setCell ⟨b + 1 + 1, 3, none⟩ x3).setCell ⟨b + 1 + 1, 4, none⟩ x4).setCell ⟨b + 1 + 1, 5, none⟩ x5).setCell ⟨b + 1 + 1, 6, none⟩ x6).setCell ⟨b + 1 + 1, 7, none⟩ x7).setCell ⟨b + 1 + 1, 8, none⟩ x8).setCell ⟨b + 1 + 1, 9, none⟩ x9) :=
  SLs_set1 9 _ (SLs_set1 8 _ (SLs_set1 7 _ (SLs_set1 6 _ (SLs_set1 5 _ (SLs_set1 4 _ (SLs_set1 3 _ (SLs_set1 2 _ (SLs_set1 1 _ (SLs_set1 0 _ (s))))))))))
theorem IsRow.set10 {w : World} {sz : Nat} {v : Value} {n : Nat} {cs : List Value} (h : IsRow w sz v n cs) {k : Nat} (hk : ∀ j, v.ownBlock = some j → j ≠ k) (x0 x1 x2 x3 x4 x5 x6 x7 x8 x9 : Value) : IsRow ((((((((((w.setCell ⟨k, 0, none⟩ x0).setCell ⟨k, 1, none⟩ x1).setCell ⟨k, 2, none⟩ x2).setCell ⟨k, 3, none⟩ x3).setCell ⟨k, 4, none⟩ x4).setCell ⟨k, 5, none⟩ x5).setCell ⟨k, 6, none⟩ x6).setCell ⟨k, 7, none⟩ x7).setCell ⟨k, 8, none⟩ x8).setCell ⟨k, 9, none⟩ x9) sz v n cs :=
  ((((((((((h.setO hk 0 _).setO hk 1 _).setO hk 2 _).setO hk 3 _).setO hk 4 _).setO hk 5 _).setO hk 6 _).setO hk 7 _).setO hk 8 _).setO hk 9 _)
abbrev bxT (w : World) (v u : Value) (f t : Int) : World := ((w.alloc (nB v u)).alloc (hB f t)).alloc tkB
theorem bxT_facts {w : World} {v u : Value} {f t : Int} : Below w.heap.size w (bxT w v u f t) ∧ ∀ W, Below (bxT w v u f t).heap.size (bxT w v u f t) W → W.heap[w.heap.size + 1 + 1]? = some tkB ∧ SLs w.heap.size v u f t w W := by
  have b1 : Below w.heap.size w ((w.alloc (nB v u)).alloc (hB f t)) := (al_b w _).trans ((al_b _ _).mono (al_b w _).size)
  have b2 : Below w.heap.size w (bxT w v u f t) := b1.trans ((al_b _ _).mono b1.size)
  have k0 : (bxT w v u f t).heap[w.heap.size]? = some (nB v u) := by
    show (((w.heap.push _).push _).push _)[w.heap.size]? = _
    rw [Array.getElem?_push, if_neg (by simp; omega), Array.getElem?_push, if_neg (by simp), Array.getElem?_push, if_pos rfl]
  have k1 : (bxT w v u f t).heap[w.heap.size + 1]? = some (hB f t) := by
    show (((w.heap.push _).push _).push _)[w.heap.size + 1]? = _
    rw [Array.getElem?_push, if_neg (by simp), Array.getElem?_push, if_pos (by simp)]
  have k2 : (bxT w v u f t).heap[w.heap.size + 1 + 1]? = some tkB := by
    show (((w.heap.push _).push _).push _)[w.heap.size + 1 + 1]? = _
    rw [Array.getElem?_push, if_pos (by simp)]
  refine ⟨b2, fun W h => ?_⟩
  have g0 := (h.block _ (Array.getElem?_eq_some_iff.1 k0).1).trans k0
  have g1 := (h.block _ (Array.getElem?_eq_some_iff.1 k1).1).trans k1
  have g2 := (h.block _ (Array.getElem?_eq_some_iff.1 k2).1).trans k2
  obtain ⟨c0, c1, -, -⟩ := two_at g0
  obtain ⟨d0, d1, -, -⟩ := two_at g1
  have bb := b2.trans (h.mono b2.size)
  exact ⟨g2, c0, c1, d0, d1, (Array.getElem?_eq_some_iff.1 g1).1, bb⟩
/-- What the reference's Take answers. -/
def TkPost (L2 : List Pk) (p : Pk) (E : Int) (v0 u : Value) (w : World) (e : Ending) (w' : World) : Prop := ∃ v, e = .returned (.agg #[v, u, .int .i64 p.f, .int .i64 p.t, .int .i64 p.fl, .int .i64 p.tl, .int .i64 p.sq, .int .i64 p.ak, .string p.x, .int .i64 E]) ∧ IsRow w' 7 v L2.length (pCells L2) ∧ Below w.heap.size w w' ∧ FrB w v v0
set_option maxRecDepth 100000 in
set_option maxHeartbeats 4000000 in
theorem refTake_any (v : Value) (au : Option Addr) (cu : Nat) (L : List Pk) (B : List (Int × Int)) (f t i : Int) (w : World) (hr : IsRow w 7 v L.length (pCells L)) (hl : L.length ≤ 100000) (hu : IsRow w 2 (.slice au B.length cu) B.length (h2V B)) (hul : B.length ≤ 100000) :
    Calls Try.prog 28 #[.agg #[v, .slice au B.length cu], hV f t, .int .i64 i] w fun e w' => TkPost (tkL L B f t i) (tkP L B f t i) (tkE L B f t i) v (.slice au B.length cu) w e w' := by
  obtain ⟨a0, cap0, rfl⟩ := hr.form
  have HCu : Hid (∀ w', Below w.heap.size w w' → Calls Try.prog 17 #[.agg #[(.slice a0 L.length cap0), .slice au B.length cu], hV f t] w' fun e w'' => e = .returned (.bool (cutA B f t)) ∧ Below w'.heap.size w' w'') := fun w' h => refCut_any _ _ B f t w' (hu.below h) hul
  have hE : tkE L B f t i = if thI L f t i = 0 then (if cutA B f t = true then 12 else 0) else thI L f t i := rfl
  have hP : tkP L B f t i = if tkE L B f t i = 0 then L.getD (atI L f t i) zP else zP := rfl
  have hL : tkL L B f t i = if tkE L B f t i = 0 then flt L (fun j => !((j : Int) == (atI L f t i : Int))) L.length else L := rfl
  clear hu hul
  generalize hnu : B.length = nu at *
  clear hnu
  obtain ⟨hB0, hK0⟩ := bxT_facts (w := w) (v := (.slice a0 L.length cap0)) (u := (.slice au nu cu)) (f := f) (t := t)
  have HK : Hid (∀ W, Below (bxT w (.slice a0 L.length cap0) (.slice au nu cu) f t).heap.size (bxT w (.slice a0 L.length cap0) (.slice au nu cu) f t) W → W.heap[w.heap.size + 1 + 1]? = some tkB ∧ SLs w.heap.size (.slice a0 L.length cap0) (.slice au nu cu) f t w W) := hK0
  have HT : Hid (Calls Try.prog 42 #[.agg #[(.slice a0 L.length cap0), (.slice au nu cu)], hV f t, .int .i64 i] (bxT w (.slice a0 L.length cap0) (.slice au nu cu) f t) fun e w' => e = .returned (.int .i64 (thI L f t i)) ∧ Below (bxT w (.slice a0 L.length cap0) (.slice au nu cu) f t).heap.size (bxT w (.slice a0 L.length cap0) (.slice au nu cu) f t) w') := there_any _ au nu cu L f t i _ (hr.below hB0) hl
  have HPl : Hid (∀ w', Below w.heap.size w w' → Calls Try.prog 12 #[.agg #[(.slice a0 L.length cap0), (.slice au nu cu)], hV f t] w' fun e w'' => PlPost (plc L f t L.length) w' e w'') := fun w' h => places_any _ _ L f t w' (hr.below h) hl
  have HWo : Hid (∀ (a : Nat) w', Below w.heap.size w w' → Calls Try.prog 43 #[.agg #[(.slice a0 L.length cap0), (.slice au nu cu)], .int .i64 (a : Int)] w' fun e w'' => NtPost (flt L (fun j => !((j : Int) == (a : Int))) L.length) (.slice au nu cu) w' e w'') := fun a w' h => without_any _ au nu cu L a w' (hr.below h) hl
  have HR : Hid (∀ W, Below w.heap.size w W → IsRow W 7 (.slice a0 L.length cap0) L.length (pCells L)) := fun W h => hr.below h
  clear hB0 hK0
  by_cases hth : thI L f t i = 0
  · rw [if_pos hth] at hE
    cases hcu : cutA B f t with
    | true =>
      rw [hcu, if_pos rfl] at hE
      rw [hE, if_neg (by decide)] at hP hL
      rw [hcu] at HCu
      rw [hth] at HT
      rw [hE, hP, hL]
      clear hE hP hL hth hcu HPl HWo hr
      go_enter Try.func28, Try.ntmps28
      go_wp2_with fail
      refine HT.out.mono ?_
      rintro e w1 ⟨rfl, hb1⟩
      obtain ⟨x2, g0, g1, g2, g3, g4, g5⟩ := HK.out w1 hb1
      have HS1 : Hid (SLs w.heap.size (.slice a0 L.length cap0) (.slice au nu cu) f t w w1) := ⟨g0, g1, g2, g3, g4, g5⟩
      have HX2 : Hid (w1.heap[w.heap.size + 1 + 1]? = some tkB) := x2
      have HC1 : Hid (Calls Try.prog 17 #[.agg #[(.slice a0 L.length cap0), (.slice au nu cu)], hV f t] w1 fun e w'' => e = .returned (.bool true) ∧ Below w1.heap.size w1 w'') := HCu.out w1 g5
      clear hb1 x2 HT HK HCu g4 g5
      go_wp2_with fail
      refine HC1.out.mono ?_
      rintro e w2 ⟨rfl, hb2⟩
      obtain ⟨q0, q1, -, -, -, hB2⟩ := SLs_call hb2 HS1.out
      have x2 := (hb2.block _ (Array.getElem?_eq_some_iff.1 HX2.out).1).trans HX2.out
      obtain ⟨c0, c1, c2, c3, c4, c5, c6, c7, c8, c9, fz⟩ := ten_at x2
      clear g0 g1 g2 g3 HC1
      have HS2 : Hid (SLs w.heap.size (.slice a0 L.length cap0) (.slice au nu cu) f t w w2) := SLs_call hb2 HS1.out
      clear hb2 x2 HS1 HX2 hB2
      go_wp2_with fail
      try simp only [Exit.inBlock, Exit.then]
      refine bodyPost_ret (v := .agg #[(.slice a0 L.length cap0), (.slice au nu cu), .int .i64 0, .int .i64 0, .int .i64 0, .int .i64 0, .int .i64 0, .int .i64 0, .string ⟨#[]⟩, .int .i64 12]) ?_ rfl ⟨_, rfl, HR.out _ (SLs_set10 _ _ _ _ _ _ _ _ _ _ HS2.out).2.2.2.2.2, (SLs_set10 _ _ _ _ _ _ _ _ _ _ HS2.out).2.2.2.2.2, .inl rfl⟩
      rw [results_cell1 rfl]; go_simp
    | false =>
      rw [hcu, if_neg (by decide)] at hE
      rw [hE, if_pos rfl] at hP hL
      rw [hcu] at HCu
      rw [hE, hP, hL]
      obtain ⟨n, rfl, hn, hat, hal⟩ := th_ok hth
      rw [hth] at HT
      clear hE hP hL hth hcu
      generalize atI L f t (n : Int) = a at *
      generalize plc L f t L.length = PL at *
      obtain ⟨lb, lo, rfl, hlb, hlc, hcs⟩ := pk_at hr (by omega)
      have ex : L.getD a zP = L[a] := by rw [List.getD_eq_getElem?_getD, List.getElem?_eq_getElem hal]; rfl
      rw [ex]
      clear ex
      obtain ⟨d0, d1, d2, d3, d4, d5, d6⟩ := hcs a hal
      have HWa : Hid (∀ w', Below w.heap.size w w' → Calls Try.prog 43 #[.agg #[(.slice (some ⟨lb, lo, none⟩) L.length cap0), (.slice au nu cu)], .int .i64 (a : Int)] w' fun e w'' => NtPost (flt L (fun j => !((j : Int) == (a : Int))) L.length) (.slice au nu cu) w' e w'') := HWo.out a
      clear HWo hcs
      generalize flt L (fun j => !((j : Int) == (a : Int))) L.length = L2 at *
      generalize L[a] = P at *
      obtain ⟨P0, P1, P2, P3, P4, P5, P6⟩ := P
      dsimp only at d0 d1 d2 d3 d4 d5 d6
      have HD : Hid (∀ W, Below w.heap.size w W → W.cell? ⟨lb, lo + a * 7, none⟩ = some (.int .i64 P0) ∧ W.cell? ⟨lb, lo + a * 7 + 1, none⟩ = some (.int .i64 P1) ∧ W.cell? ⟨lb, lo + a * 7 + 2, none⟩ = some (.int .i64 P2) ∧ W.cell? ⟨lb, lo + a * 7 + 3, none⟩ = some (.int .i64 P3) ∧ W.cell? ⟨lb, lo + a * 7 + 4, none⟩ = some (.int .i64 P4) ∧ W.cell? ⟨lb, lo + a * 7 + 5, none⟩ = some (.int .i64 P5) ∧ W.cell? ⟨lb, lo + a * 7 + 6, none⟩ = some (.string P6)) := fun W h => ⟨(h.cell (p := ⟨lb, lo + a * 7, none⟩) hlb).trans d0, (h.cell (p := ⟨lb, lo + a * 7 + 1, none⟩) hlb).trans d1, (h.cell (p := ⟨lb, lo + a * 7 + 2, none⟩) hlb).trans d2, (h.cell (p := ⟨lb, lo + a * 7 + 3, none⟩) hlb).trans d3, (h.cell (p := ⟨lb, lo + a * 7 + 4, none⟩) hlb).trans d4, (h.cell (p := ⟨lb, lo + a * 7 + 5, none⟩) hlb).trans d5, (h.cell (p := ⟨lb, lo + a * 7 + 6, none⟩) hlb).trans d6⟩
      have j1 : (0 : Int) ≤ (n : Int) := by omega
      have j2 : (n : Int) < (PL.length : Int) := by omega
      have j3 : (0 : Int) ≤ (a : Int) := by omega
      have j4 : (a : Int) < (L.length : Int) := by omega
      clear d0 d1 d2 d3 d4 d5 d6 hr
      go_enter Try.func28, Try.ntmps28
      go_wp2_with fail
      refine HT.out.mono ?_
      rintro e w1 ⟨rfl, hb1⟩
      obtain ⟨x2, g0, g1, g2, g3, g4, g5⟩ := HK.out w1 hb1
      have HS1 : Hid (SLs w.heap.size (.slice (some ⟨lb, lo, none⟩) L.length cap0) (.slice au nu cu) f t w w1) := ⟨g0, g1, g2, g3, g4, g5⟩
      have HX2 : Hid (w1.heap[w.heap.size + 1 + 1]? = some tkB) := x2
      have HC1 : Hid (Calls Try.prog 17 #[.agg #[(.slice (some ⟨lb, lo, none⟩) L.length cap0), (.slice au nu cu)], hV f t] w1 fun e w'' => e = .returned (.bool false) ∧ Below w1.heap.size w1 w'') := HCu.out w1 g5
      clear hb1 x2 HT HK HCu g4 g5 HR
      go_wp2_with fail
      refine HC1.out.mono ?_
      rintro e w2 ⟨rfl, hb2⟩
      have HS2 : Hid (SLs w.heap.size (.slice (some ⟨lb, lo, none⟩) L.length cap0) (.slice au nu cu) f t w w2) := SLs_call hb2 HS1.out
      have HX3 : Hid (w2.heap[w.heap.size + 1 + 1]? = some tkB) := (hb2.block _ (Array.getElem?_eq_some_iff.1 HX2.out).1).trans HX2.out
      clear g0 g1 g2 g3 HC1 hb2 HS1 HX2
      obtain ⟨g0, g1, g2, g3, g4, g5⟩ := HS2.out
      have HP2 : Hid (Calls Try.prog 12 #[.agg #[(.slice (some ⟨lb, lo, none⟩) L.length cap0), (.slice au nu cu)], hV f t] w2 fun e w'' => PlPost PL w2 e w'') := HPl.out w2 g5
      clear g4 g5 HPl
      go_wp2_with fail
      refine HP2.out.mono ?_
      rintro e w3 ⟨r, rfl, hr3, hb3⟩
      obtain ⟨ra, rc, rfl⟩ := hr3.form
      obtain ⟨rb, ro, rfl, hcell⟩ := nat_at hr3 hat
      have hS : SLs w.heap.size (.slice (some ⟨lb, lo, none⟩) L.length cap0) (.slice au nu cu) f t w w3 := SLs_call hb3 HS2.out
      have HX4 : Hid (w3.heap[w.heap.size + 1 + 1]? = some tkB) := (hb3.block _ (Array.getElem?_eq_some_iff.1 HX3.out).1).trans HX3.out
      clear g0 g1 g2 g3 hb3 HS2 HX3 hr3 HP2
      have HS3 : Hid (SLs w.heap.size (.slice (some ⟨lb, lo, none⟩) L.length cap0) (.slice au nu cu) f t w w3) := hS
      clear hS
      go_wp2_with fail
      have hS := HS3.out
      refine wp_region_held_drew (S := fun w' => SLs w.heap.size (.slice (some ⟨lb, lo, none⟩) L.length cap0) (.slice au nu cu) f t w w') (by kernel_rfl) (SLs_drew hS) (fun hHeld => ?_)
      refine wpAnyH_take (i := 0) (v := ?_) rfl (by kernel_rfl) (by kernel_rfl) (by kernel_rfl) (fun _ _ _ h => h) (Or.inl ⟨by rfl, ?_⟩) hHeld ?_
      rotate_left 1
      · intro w9 hSw; obtain ⟨g0, g1, g2, g3, g4, g5⟩ := hSw; go_simp; try with_reducible rfl
      change wpAnyH _ _ _ _ _ _ _ (Act.put _ (some 29) _) _
      simp only [Act.put, List.setIfInBounds_toArray, List.set_cons_zero, List.set_cons_succ]
      refine wpAnyH_take (i := 1) (v := ?_) rfl (by kernel_rfl) (by kernel_rfl) (by kernel_rfl) (fun _ _ _ h => h) (Or.inl ⟨by rfl, ?_⟩) hHeld ?_
      rotate_left 1
      · intro w9 hSw; obtain ⟨g0, g1, g2, g3, g4, g5⟩ := hSw; go_simp; try with_reducible rfl
      change wpAnyH _ _ _ _ _ _ _ (Act.put _ (some 30) _) _
      simp only [Act.put, List.setIfInBounds_toArray, List.set_cons_zero, List.set_cons_succ]
      refine wpAnyH_take (i := 3) (v := ?_) rfl (by kernel_rfl) (by kernel_rfl) (by kernel_rfl) (fun _ _ _ h => h) (Or.inl ⟨by rfl, ?_⟩) hHeld ?_
      rotate_left 1
      · intro w9 hSw; obtain ⟨g0, g1, g2, g3, g4, g5⟩ := hSw; go_simp; try with_reducible rfl
      change wpAnyH _ _ _ _ _ _ _ (Act.put _ (some 32) _) _
      simp only [Act.put, List.setIfInBounds_toArray, List.set_cons_zero, List.set_cons_succ]
      refine wpAnyH_take (i := 4) (v := ?_) rfl (by kernel_rfl) (by kernel_rfl) (by kernel_rfl) (fun _ _ _ h => h) (Or.inl ⟨by rfl, ?_⟩) hHeld ?_
      rotate_left 1
      · intro w9 hSw; obtain ⟨g0, g1, g2, g3, g4, g5⟩ := hSw; go_simp; try with_reducible rfl
      change wpAnyH _ _ _ _ _ _ _ (Act.put _ (some 33) _) _
      simp only [Act.put, List.setIfInBounds_toArray, List.set_cons_zero, List.set_cons_succ]
      refine wpAnyH_take (i := 5) (v := ?_) rfl (by kernel_rfl) (by kernel_rfl) (by kernel_rfl) (fun _ _ _ h => h) (Or.inl ⟨by rfl, ?_⟩) hHeld ?_
      rotate_left 1
      · intro w9 hSw; obtain ⟨g0, g1, g2, g3, g4, g5⟩ := hSw; go_simp; try with_reducible rfl
      change wpAnyH _ _ _ _ _ _ _ (Act.put _ (some 34) _) _
      simp only [Act.put, List.setIfInBounds_toArray, List.set_cons_zero, List.set_cons_succ]
      refine wpAnyH_take (i := 6) (v := ?_) rfl (by kernel_rfl) (by kernel_rfl) (by kernel_rfl) (fun _ _ _ h => h) (Or.inl ⟨by rfl, ?_⟩) hHeld ?_
      rotate_left 1
      · intro w9 hSw; obtain ⟨g0, g1, g2, g3, g4, g5⟩ := hSw; go_simp; try with_reducible rfl
      change wpAnyH _ _ _ _ _ _ _ (Act.put _ (some 35) _) _
      simp only [Act.put, List.setIfInBounds_toArray, List.set_cons_zero, List.set_cons_succ]
      refine wpAnyH_take (i := 7) (v := ?_) rfl (by kernel_rfl) (by kernel_rfl) (by kernel_rfl) (fun _ _ _ h => h) (Or.inl ⟨by rfl, ?_⟩) hHeld ?_
      rotate_left 1
      · intro w9 hSw; obtain ⟨g0, g1, g2, g3, g4, g5⟩ := hSw; obtain ⟨d0, d1, d2, d3, d4, d5, d6⟩ := HD.out w9 g5; go_simp; try with_reducible rfl
      change wpAnyH _ _ _ _ _ _ _ (Act.put _ (some 36) _) _
      simp only [Act.put, List.setIfInBounds_toArray, List.set_cons_zero, List.set_cons_succ]
      refine wpAnyH_ready (rs := [2]) (by kernel_rfl) (by simp) ?_
      refine AllReadyH.cons rfl (fun K hK => ?_) AllReadyH.nil
      go_simp
      refine (HWa.out _ hHeld.2.2.2.2.2).mono ?_
      rintro e w5 ⟨v5, rfl, hr5, hb5, hf5⟩
      obtain ⟨va, vc, rfl⟩ := hr5.form
      have hk5 : w5.heap[w.heap.size + 1 + 1]? = some tkB := (hb5.block _ (Array.getElem?_eq_some_iff.1 HX4.out).1).trans HX4.out
      obtain ⟨c0, c1, c2, c3, c4, c5, c6, c7, c8, c9, fz⟩ := ten_at hk5
      go_simp
      refine hK.out _ _ (SLs_call hb5 hHeld) (fun hHeld => ?_)
      clear hK K
      refine wpAnyH_take (i := 8) (v := ?_) rfl (by kernel_rfl) (by kernel_rfl) (by kernel_rfl) (fun _ _ _ h => h) (Or.inl ⟨by rfl, ?_⟩) hHeld ?_
      rotate_left 1
      · intro w9 hSw; obtain ⟨g0, g1, g2, g3, g4, g5⟩ := hSw; go_simp; try with_reducible rfl
      change wpAnyH _ _ _ _ _ _ _ (Act.put _ (some 37) _) _
      simp only [Act.put, List.setIfInBounds_toArray, List.set_cons_zero, List.set_cons_succ]
      refine wpAnyH_ready (rs := [9]) (by kernel_rfl) (by simp) ?_
      refine AllReadyH.cons rfl (fun K hK => ?_) AllReadyH.nil
      go_simp
      refine hK.out _ _ (SLs_set10 _ _ _ _ _ _ _ _ _ _ hHeld) (fun hHeld => ?_)
      clear hK K
      have HBf : Hid (Below w.heap.size w ((((((((((w5.setCell ⟨w.heap.size + 1 + 1, 0, none⟩ (.slice va L2.length vc)).setCell ⟨w.heap.size + 1 + 1, 1, none⟩ (.slice au nu cu)).setCell ⟨w.heap.size + 1 + 1, 2, none⟩ (.int .i64 P0)).setCell ⟨w.heap.size + 1 + 1, 3, none⟩ (.int .i64 P1)).setCell ⟨w.heap.size + 1 + 1, 4, none⟩ (.int .i64 P2)).setCell ⟨w.heap.size + 1 + 1, 5, none⟩ (.int .i64 P3)).setCell ⟨w.heap.size + 1 + 1, 6, none⟩ (.int .i64 P4)).setCell ⟨w.heap.size + 1 + 1, 7, none⟩ (.int .i64 P5)).setCell ⟨w.heap.size + 1 + 1, 8, none⟩ (.string P6)).setCell ⟨w.heap.size + 1 + 1, 9, none⟩ (.int .i64 0))) := hHeld.2.2.2.2.2
      refine wpAnyH_done (by kernel_rfl) ?_ _
      have hlt3 : w.heap.size + 1 + 1 < w3.heap.size := (Array.getElem?_eq_some_iff.1 HX4.out).1
      have hf5' : ∀ j, (Value.slice va L2.length vc).ownBlock = some j → w3.heap.size ≤ j := hf5
      have hown : ∀ j, (Value.slice va L2.length vc).ownBlock = some j → j ≠ w.heap.size + 1 + 1 := fun j hj => by have := hf5' j hj; omega
      have HRf : Hid (IsRow ((((((((((w5.setCell ⟨w.heap.size + 1 + 1, 0, none⟩ (.slice va L2.length vc)).setCell ⟨w.heap.size + 1 + 1, 1, none⟩ (.slice au nu cu)).setCell ⟨w.heap.size + 1 + 1, 2, none⟩ (.int .i64 P0)).setCell ⟨w.heap.size + 1 + 1, 3, none⟩ (.int .i64 P1)).setCell ⟨w.heap.size + 1 + 1, 4, none⟩ (.int .i64 P2)).setCell ⟨w.heap.size + 1 + 1, 5, none⟩ (.int .i64 P3)).setCell ⟨w.heap.size + 1 + 1, 6, none⟩ (.int .i64 P4)).setCell ⟨w.heap.size + 1 + 1, 7, none⟩ (.int .i64 P5)).setCell ⟨w.heap.size + 1 + 1, 8, none⟩ (.string P6)).setCell ⟨w.heap.size + 1 + 1, 9, none⟩ (.int .i64 0)) 7 (.slice va L2.length vc) L2.length (pCells L2)) := hr5.set10 hown _ _ _ _ _ _ _ _ _ _
      have HFf : Hid (FrR w (.slice va L2.length vc)) := fun j hj => by have := hf5' j hj; omega
      have hz := ten_set hk5 (.slice va L2.length vc) (.slice au nu cu) (.int .i64 P0) (.int .i64 P1) (.int .i64 P2) (.int .i64 P3) (.int .i64 P4) (.int .i64 P5) (.string P6) (.int .i64 0)
      obtain ⟨y0, y1, y2, y3, y4, y5, y6, y7, y8, y9, yf⟩ := ten_at hz
      clear hHeld hlt3 hr5 hf5 hf5' hb5 hk5 hz c0 c1 c2 c3 c4 c5 c6 c7 c8 c9 fz hcell HX4 HWa hS hown HS3 yf HD
      generalize ((((((((((w5.setCell ⟨w.heap.size + 1 + 1, 0, none⟩ (.slice va L2.length vc)).setCell ⟨w.heap.size + 1 + 1, 1, none⟩ (.slice au nu cu)).setCell ⟨w.heap.size + 1 + 1, 2, none⟩ (.int .i64 P0)).setCell ⟨w.heap.size + 1 + 1, 3, none⟩ (.int .i64 P1)).setCell ⟨w.heap.size + 1 + 1, 4, none⟩ (.int .i64 P2)).setCell ⟨w.heap.size + 1 + 1, 5, none⟩ (.int .i64 P3)).setCell ⟨w.heap.size + 1 + 1, 6, none⟩ (.int .i64 P4)).setCell ⟨w.heap.size + 1 + 1, 7, none⟩ (.int .i64 P5)).setCell ⟨w.heap.size + 1 + 1, 8, none⟩ (.string P6)).setCell ⟨w.heap.size + 1 + 1, 9, none⟩ (.int .i64 0)) = Z at *
      go_wp2_with fail
      try simp only [Exit.inBlock, Exit.then]
      refine bodyPost_ret (v := .agg #[.slice va L2.length vc, (.slice au nu cu), .int .i64 P0, .int .i64 P1, .int .i64 P2, .int .i64 P3, .int .i64 P4, .int .i64 P5, .string P6, .int .i64 0]) ?_ rfl ⟨_, rfl, HRf.out, HBf.out, .inr HFf.out⟩
      rw [results_cell1 rfl]; go_simp
  · rw [if_neg hth] at hE
    have hth' : ¬ tkE L B f t i = 0 := by rw [hE]; exact hth
    rw [if_neg hth'] at hP hL
    rw [hE, hP, hL]
    have hne : (thI L f t i != 0) = true := by simpa using hth
    clear hth hth' hE hP hL hr HPl HWo HCu
    generalize thI L f t i = th at *
    go_enter Try.func28, Try.ntmps28
    go_wp2_with fail
    refine HT.out.mono ?_
    rintro e w1 ⟨rfl, hb1⟩
    obtain ⟨x2, g0, g1, g2, g3, g4, g5⟩ := HK.out w1 hb1
    have HS2 : Hid (SLs w.heap.size (.slice a0 L.length cap0) (.slice au nu cu) f t w w1) := ⟨g0, g1, g2, g3, g4, g5⟩
    obtain ⟨c0, c1, c2, c3, c4, c5, c6, c7, c8, c9, fz⟩ := ten_at x2
    clear hb1 x2 HT HK g4 g5 g2 g3
    go_wp2_with fail
    try simp only [Exit.inBlock, Exit.then]
    refine bodyPost_ret (v := .agg #[(.slice a0 L.length cap0), (.slice au nu cu), .int .i64 0, .int .i64 0, .int .i64 0, .int .i64 0, .int .i64 0, .int .i64 0, .string ⟨#[]⟩, .int .i64 th]) ?_ rfl ⟨_, rfl, HR.out _ (SLs_set10 _ _ _ _ _ _ _ _ _ _ HS2.out).2.2.2.2.2, (SLs_set10 _ _ _ _ _ _ _ _ _ _ HS2.out).2.2.2.2.2, .inl rfl⟩
    rw [results_cell1 rfl]; go_simp
end Go.Proofs.Ythbhgblgacoklaa
