/- A nil net: each call's answer; NetNil: for every input the law returns true. -/
import Derived.Test.YthbhgblgacoklaaHO
namespace Go.Proofs.Ythbhgblgacoklaa
open Go.RowKit

abbrev nil0 : Value := .pointer none
set_option maxRecDepth 100000 in
theorem look_nil (f t i : Int) (w : World) : Calls Try.prog 38 #[nil0, hV f t, .int .i64 i] w fun e w' => e = .returned (.int .i64 1) ∧ Below w.heap.size w w' := by
  have HB : Hid (∀ o, Below w.heap.size w (w.alloc o)) := al_b w
  go_enter Try.func38, Try.ntmps38
  go_wp2
  go_ret
  exact ⟨rfl, by first | exact HB.out _ | exact Below.refl _ _⟩
set_option maxRecDepth 100000 in
theorem send_nil (p : Pk) (w : World) : Calls Try.prog 18 #[nil0, pV p] w fun e w' => e = .returned (.int .i64 1) ∧ Below w.heap.size w w' := by
  have HB : Hid (∀ o, Below w.heap.size w (w.alloc o)) := al_b w
  go_enter Try.func18, Try.ntmps18
  go_wp2
  go_ret
  exact ⟨rfl, by first | exact HB.out _ | exact Below.refl _ _⟩
set_option maxRecDepth 100000 in
theorem apart_nil (f t : Int) (o : Bool) (w : World) : Calls Try.prog 25 #[nil0, .int .i64 f, .int .i64 t, .bool o] w fun e w' => e = .returned (.int .i64 1) ∧ Below w.heap.size w w' := by
  have HB : Hid (∀ o, Below w.heap.size w (w.alloc o)) := al_b w
  go_enter Try.func25, Try.ntmps25
  go_wp2
  go_ret
  exact ⟨rfl, by first | exact HB.out _ | exact Below.refl _ _⟩
set_option maxRecDepth 100000 in
theorem count_nil (w : World) : Calls Try.prog 23 #[nil0] w fun e w' => e = .returned (.int .i64 0) ∧ Below w.heap.size w w' := by
  have HB : Hid (∀ o, Below w.heap.size w (w.alloc o)) := al_b w
  go_enter Try.func23, Try.ntmps23
  go_wp2
  go_ret
  exact ⟨rfl, by first | exact HB.out _ | exact Below.refl _ _⟩
set_option maxRecDepth 100000 in
theorem len_nil (f t : Int) (w : World) : Calls Try.prog 15 #[nil0, hV f t] w fun e w' => e = .returned (.int .i64 0) ∧ Below w.heap.size w w' := by
  have HB : Hid (∀ o, Below w.heap.size w (w.alloc o)) := al_b w
  go_enter Try.func15, Try.ntmps15
  go_wp2
  go_ret
  exact ⟨rfl, by first | exact HB.out _ | exact Below.refl _ _⟩
set_option maxRecDepth 100000 in
theorem clear_nil (i : Int) (w : World) : Calls Try.prog 22 #[nil0, .int .i64 i] w fun e w' => e = .returned (.int .i64 0) ∧ Below w.heap.size w w' := by
  have HB : Hid (∀ o, Below w.heap.size w (w.alloc o)) := al_b w
  go_enter Try.func22, Try.ntmps22
  go_wp2
  go_ret
  exact ⟨rfl, by first | exact HB.out _ | exact Below.refl _ _⟩
set_option maxRecDepth 100000 in
theorem hops_nil (w : World) : Calls Try.prog 26 #[nil0] w fun e w' => e = .returned (.slice none 0 0) ∧ Below w.heap.size w w' := by
  have HB : Hid (∀ o, Below w.heap.size w (w.alloc o)) := al_b w
  go_enter Try.func26, Try.ntmps26
  go_wp2
  go_ret
  exact ⟨rfl, by first | exact HB.out _ | exact Below.refl _ _⟩
set_option maxRecDepth 100000 in
theorem row_nil (f t : Int) (w : World) : Calls Try.prog 13 #[nil0, hV f t] w fun e w' => e = .returned (.slice none 0 0) ∧ Below w.heap.size w w' := by
  have HB : Hid (∀ o, Below w.heap.size w (w.alloc o)) := al_b w
  go_enter Try.func13, Try.ntmps13
  go_wp2
  go_ret
  exact ⟨rfl, by first | exact HB.out _ | exact Below.refl _ _⟩
set_option maxRecDepth 100000 in
theorem cut_nil (f t : Int) (w : World) : Calls Try.prog 16 #[nil0, .int .i64 f, .int .i64 t] w fun e w' => e = .returned (.bool false) ∧ Below w.heap.size w w' := by
  have HB : Hid (∀ o, Below w.heap.size w (w.alloc o)) := al_b w
  go_enter Try.func16, Try.ntmps16
  go_wp2
  go_ret
  exact ⟨rfl, by first | exact HB.out _ | exact Below.refl _ _⟩
set_option maxRecDepth 100000 in
theorem lose_nil (f t i : Int) (w : World) : Calls Try.prog 24 #[nil0, hV f t, .int .i64 i] w fun e w' => e = .returned (.int .i64 1) ∧ Below w.heap.size w w' := by
  have HB : Hid (Below w.heap.size w (w.alloc (.cells #[.int .i64 f, .int .i64 t] 33))) := al_b w _
  have HL : Hid (∀ w, Calls Try.prog 38 #[nil0, hV f t, .int .i64 i] w fun e w' => e = .returned (.int .i64 1) ∧ Below w.heap.size w w') := look_nil f t i
  go_enter Try.func24, Try.ntmps24
  go_wp2_with fail
  refine (HL.out _).mono ?_
  rintro e w1 ⟨rfl, hb⟩
  have HB1 : Hid (Below w.heap.size w w1) := HB.out.trans (hb.mono HB.out.size)
  clear hb
  go_wp2
  go_ret
  exact ⟨rfl, HB1.out⟩
set_option maxRecDepth 100000 in
theorem twice_nil (f t i : Int) (w : World) : Calls Try.prog 20 #[nil0, hV f t, .int .i64 i] w fun e w' => e = .returned (.int .i64 1) ∧ Below w.heap.size w w' := by
  have HB : Hid (Below w.heap.size w (w.alloc (.cells #[.int .i64 f, .int .i64 t] 33))) := al_b w _
  have HL : Hid (∀ w, Calls Try.prog 38 #[nil0, hV f t, .int .i64 i] w fun e w' => e = .returned (.int .i64 1) ∧ Below w.heap.size w w') := look_nil f t i
  go_enter Try.func20, Try.ntmps20
  go_wp2_with fail
  refine (HL.out _).mono ?_
  rintro e w1 ⟨rfl, hb⟩
  have HB1 : Hid (Below w.heap.size w w1) := HB.out.trans (hb.mono HB.out.size)
  clear hb
  go_wp2
  go_ret
  exact ⟨rfl, HB1.out⟩
set_option maxRecDepth 100000 in
set_option maxHeartbeats 1000000 in
theorem take_nil (f t i : Int) (w : World) : Calls Try.prog 19 #[nil0, hV f t, .int .i64 i] w fun e w' => e = .returned (.tuple #[pV zP, .int .i64 1]) ∧ Below w.heap.size w w' := by
  have HB : Hid (Below w.heap.size w ((w.alloc (.cells #[.int .i64 f, .int .i64 t] 33)).alloc (.cells #[.int .i64 0, .int .i64 0, .int .i64 0, .int .i64 0, .int .i64 0, .int .i64 0, .string ⟨#[]⟩] 31))) := (al_b w _).trans ((al_b _ _).mono (by simp))
  have HL : Hid (∀ w, Calls Try.prog 38 #[nil0, hV f t, .int .i64 i] w fun e w' => e = .returned (.int .i64 1) ∧ Below w.heap.size w w') := look_nil f t i
  have HZ : Hid (∀ w', Below ((w.alloc (.cells #[.int .i64 f, .int .i64 t] 33)).alloc (.cells #[.int .i64 0, .int .i64 0, .int .i64 0, .int .i64 0, .int .i64 0, .int .i64 0, .string ⟨#[]⟩] 31)).heap.size ((w.alloc (.cells #[.int .i64 f, .int .i64 t] 33)).alloc (.cells #[.int .i64 0, .int .i64 0, .int .i64 0, .int .i64 0, .int .i64 0, .int .i64 0, .string ⟨#[]⟩] 31)) w' → w'.heap[w.heap.size + 1]? = some (.cells #[.int .i64 0, .int .i64 0, .int .i64 0, .int .i64 0, .int .i64 0, .int .i64 0, .string ⟨#[]⟩] 31 (0, 0))) := fun w' h => (h.block _ (by simp)).trans (by show ((w.heap.push _).push _)[w.heap.size + 1]? = _; rw [Array.getElem?_push, if_pos (by simp)])
  go_enter Try.func19, Try.ntmps19
  go_wp2_with fail
  refine (HL.out _).mono ?_
  rintro e w1 ⟨rfl, hb⟩
  have hz := HZ.out w1 hb
  have HB1 : Hid (Below w.heap.size w w1) := HB.out.trans (hb.mono HB.out.size)
  have y0 : w1.cell? ⟨w.heap.size + 1, 0, none⟩ = some (.int .i64 0) := by rw [Lib.cell_of_heap hz]; rfl
  have y1 : w1.cell? ⟨w.heap.size + 1, 1, none⟩ = some (.int .i64 0) := by rw [Lib.cell_of_heap hz]; rfl
  have y2 : w1.cell? ⟨w.heap.size + 1, 2, none⟩ = some (.int .i64 0) := by rw [Lib.cell_of_heap hz]; rfl
  have y3 : w1.cell? ⟨w.heap.size + 1, 3, none⟩ = some (.int .i64 0) := by rw [Lib.cell_of_heap hz]; rfl
  have y4 : w1.cell? ⟨w.heap.size + 1, 4, none⟩ = some (.int .i64 0) := by rw [Lib.cell_of_heap hz]; rfl
  have y5 : w1.cell? ⟨w.heap.size + 1, 5, none⟩ = some (.int .i64 0) := by rw [Lib.cell_of_heap hz]; rfl
  have y6 : w1.cell? ⟨w.heap.size + 1, 6, none⟩ = some (.string ⟨#[]⟩) := by rw [Lib.cell_of_heap hz]; rfl
  have fr : ∀ o, w1.frozen? ⟨w.heap.size + 1, o, none⟩ = false := fun o => by simp [World.frozen?, hz]
  clear hb hz
  go_wp2
  try simp only [Exit.inBlock, Exit.then]
  refine bodyPost_ret (v := .tuple #[pV zP, .int .i64 1]) ?_ rfl ⟨rfl, set7_b HB1.out (by omega) _ _ _ _ _ _ _⟩
  rw [results_cell_tmp rfl]; go_simp
  exact ⟨rfl, rfl, rfl, rfl, rfl, rfl, rfl⟩
/-- A region whose operations stand as a list, at a class of worlds of our own. -/
theorem region_quiet_l {P : Program} {C : World → Prop} {id : Nat} {Q : Exit → Act → World → Prop} {a : Act} {w : World} {l : List Oper} (hm : P.follows .mixedOrders = true) (hB : Region.lexB .any l.toArray = true) (hC : C { w with drawn := w.drawn + 1 })
    (h : wpQuiet P l.toArray C (fun a' => ∀ w', C w' → Q .normal a' w') l a) : (Code.region id l.toArray true).wp P Q a w := wp_region_quiet hm hB hC (by simpa using h)
/-- The law's two boxes, and nothing below touched. -/
def CN (p : Pk) (f t : Int) (w w' : World) : Prop := (w'.heap[w.heap.size]? = some (.cells (pA p) 31 (0, 0)) ∧ w'.heap[w.heap.size + 1]? = some (.cells #[.int .i64 f, .int .i64 t] 33 (0, 0))) ∧ Below w.heap.size w w'
theorem CN.call {p : Pk} {f t : Int} {w W w' : World} (hb : Below W.heap.size W w') (h : CN p f t w W) : CN p f t w w' :=
  ⟨⟨(hb.block _ (Array.getElem?_eq_some_iff.1 h.1.1).1).trans h.1.1, (hb.block _ (Array.getElem?_eq_some_iff.1 h.1.2).1).trans h.1.2⟩, h.2.trans (hb.mono h.2.size)⟩
theorem CN.cells {p : Pk} {f t : Int} {w W : World} (h : CN p f t w W) : (W.cell? ⟨w.heap.size, 0, none⟩ = some (.int .i64 p.f) ∧ W.cell? ⟨w.heap.size, 1, none⟩ = some (.int .i64 p.t) ∧ W.cell? ⟨w.heap.size, 2, none⟩ = some (.int .i64 p.fl) ∧ W.cell? ⟨w.heap.size, 3, none⟩ = some (.int .i64 p.tl) ∧ W.cell? ⟨w.heap.size, 4, none⟩ = some (.int .i64 p.sq) ∧ W.cell? ⟨w.heap.size, 5, none⟩ = some (.int .i64 p.ak) ∧ W.cell? ⟨w.heap.size, 6, none⟩ = some (.string p.x)) ∧ W.cell? ⟨w.heap.size + 1, 0, none⟩ = some (.int .i64 f) ∧ W.cell? ⟨w.heap.size + 1, 1, none⟩ = some (.int .i64 t) := by
  obtain ⟨⟨k0, k1⟩, -⟩ := h
  exact ⟨⟨by rw [Lib.cell_of_heap k0]; rfl, by rw [Lib.cell_of_heap k0]; rfl, by rw [Lib.cell_of_heap k0]; rfl, by rw [Lib.cell_of_heap k0]; rfl, by rw [Lib.cell_of_heap k0]; rfl, by rw [Lib.cell_of_heap k0]; rfl, by rw [Lib.cell_of_heap k0]; rfl⟩, by rw [Lib.cell_of_heap k1]; rfl, by rw [Lib.cell_of_heap k1]; rfl⟩
set_option maxRecDepth 100000 in
set_option maxHeartbeats 4000000 in
theorem netNil_walk (p : Pk) (f t i : Int) (w : World) : Calls Try.prog 7 #[pV p, hV f t, .int .i64 i] w fun e w' => e = .returned (.bool true) ∧ Below w.heap.size w w' := by
  have HC0 : Hid (CN p f t w ((w.alloc (.cells (pA p) 31)).alloc (.cells #[.int .i64 f, .int .i64 t] 33))) := ⟨⟨by show ((w.heap.push _).push _)[w.heap.size]? = _; rw [Array.getElem?_push, if_neg (by simp), Array.getElem?_push, if_pos rfl], by show ((w.heap.push _).push _)[w.heap.size + 1]? = _; rw [Array.getElem?_push, if_pos (by simp)]⟩, (al_b w _).trans ((al_b _ _).mono (by simp))⟩
  have HCC : Hid (∀ W w', Below W.heap.size W w' → CN p f t w W → CN p f t w w') := fun W w' hb h => h.call hb
  have HCE : Hid (∀ W, CN p f t w W → _) := fun W h => h.cells
  have HCB : Hid (∀ W, CN p f t w W → Below w.heap.size w W) := fun W h => h.2
  obtain ⟨C, hC⟩ : ∃ C : World → Prop, C = CN p f t w := ⟨_, rfl⟩
  rw [← hC] at HC0 HCC HCE HCB
  clear hC
  obtain ⟨pf, pt, pfl, ptl, psq, pak, px⟩ := p
  dsimp only [pV, pA] at *
  have HTk : Hid (∀ w, Calls Try.prog 19 #[nil0, hV f t, .int .i64 i] w fun e w' => e = .returned (.tuple #[pV zP, .int .i64 1]) ∧ Below w.heap.size w w') := take_nil f t i
  have HAw : Hid (∀ w, Calls Try.prog 9 #[] w fun e w' => e = .returned (.bool true) ∧ Below w.heap.size w w') := awake12_any
  have HSd : Hid (∀ w, Calls Try.prog 18 #[nil0, .agg #[.int .i64 pf, .int .i64 pt, .int .i64 pfl, .int .i64 ptl, .int .i64 psq, .int .i64 pak, .string px]] w fun e w' => e = .returned (.int .i64 1) ∧ Below w.heap.size w w') := send_nil ⟨pf, pt, pfl, ptl, psq, pak, px⟩
  have HLo : Hid (∀ w, Calls Try.prog 24 #[nil0, hV f t, .int .i64 i] w fun e w' => e = .returned (.int .i64 1) ∧ Below w.heap.size w w') := lose_nil f t i
  have HTw : Hid (∀ w, Calls Try.prog 20 #[nil0, hV f t, .int .i64 i] w fun e w' => e = .returned (.int .i64 1) ∧ Below w.heap.size w w') := twice_nil f t i
  have HAp : Hid (∀ w, Calls Try.prog 25 #[nil0, .int .i64 f, .int .i64 t, .bool true] w fun e w' => e = .returned (.int .i64 1) ∧ Below w.heap.size w w') := apart_nil f t true
  have HCo : Hid (∀ w, Calls Try.prog 23 #[nil0] w fun e w' => e = .returned (.int .i64 0) ∧ Below w.heap.size w w') := count_nil
  have HLe : Hid (∀ w, Calls Try.prog 15 #[nil0, hV f t] w fun e w' => e = .returned (.int .i64 0) ∧ Below w.heap.size w w') := len_nil f t
  have HCl : Hid (∀ w, Calls Try.prog 22 #[nil0, .int .i64 i] w fun e w' => e = .returned (.int .i64 0) ∧ Below w.heap.size w w') := clear_nil i
  have HHo : Hid (∀ w, Calls Try.prog 26 #[nil0] w fun e w' => e = .returned (.slice none 0 0) ∧ Below w.heap.size w w') := hops_nil
  have HRo : Hid (∀ w, Calls Try.prog 13 #[nil0, hV f t] w fun e w' => e = .returned (.slice none 0 0) ∧ Below w.heap.size w w') := row_nil f t
  have HCu : Hid (∀ w, Calls Try.prog 16 #[nil0, .int .i64 f, .int .i64 t] w fun e w' => e = .returned (.bool false) ∧ Below w.heap.size w w') := cut_nil f t
  have wz : IntKind.i64.wrap 0 = 0 := by decide
  go_enter Try.func7, Try.ntmps7
  go_wp2_with fail
  refine (HTk.out _).mono ?_
  rintro e w1 ⟨rfl, hb⟩
  have HC1 : Hid (C (w1.alloc (.cells (pA zP) 31)).drew) := HCC.out _ _ ((al_b w1 _).drew) (HCC.out _ _ hb HC0.out)
  clear hb HTk HC0
  go_wp2_with fail
  refine region_quiet_l (C := C) (by kernel_rfl) (by kernel_rfl) HC1.out ?_
  simp only [List.append]
  repeat (first
    | go_big_quiet_skip
    | (go_big_quiet_want
       apply Exists.intro
       refine ⟨fun W' hW' => ?_, ?_⟩
       · obtain ⟨⟨g0, g1, g2, g3, g4, g5, g6⟩, g7, g8⟩ := HCE.out W' hW'
         go_simp
         first
           | done
           | rfl
           | (go_at_call 9; refine (HAw.out W').mono ?_; rintro e w'' ⟨rfl, hb⟩; exact ⟨rfl, HCC.out _ _ hb hW'⟩)
           | (go_at_call 18; refine (HSd.out W').mono ?_; rintro e w'' ⟨rfl, hb⟩; exact ⟨rfl, HCC.out _ _ hb hW'⟩)
           | (go_at_call 24; refine (HLo.out W').mono ?_; rintro e w'' ⟨rfl, hb⟩; exact ⟨rfl, HCC.out _ _ hb hW'⟩)
           | (go_at_call 20; refine (HTw.out W').mono ?_; rintro e w'' ⟨rfl, hb⟩; exact ⟨rfl, HCC.out _ _ hb hW'⟩)
           | (go_at_call 25; refine (HAp.out W').mono ?_; rintro e w'' ⟨rfl, hb⟩; exact ⟨rfl, HCC.out _ _ hb hW'⟩)
           | (go_at_call 23; refine (HCo.out W').mono ?_; rintro e w'' ⟨rfl, hb⟩; exact ⟨rfl, HCC.out _ _ hb hW'⟩)
           | (go_at_call 15; refine (HLe.out W').mono ?_; rintro e w'' ⟨rfl, hb⟩; exact ⟨rfl, HCC.out _ _ hb hW'⟩)
           | (go_at_call 22; refine (HCl.out W').mono ?_; rintro e w'' ⟨rfl, hb⟩; exact ⟨rfl, HCC.out _ _ hb hW'⟩)
           | (go_at_call 26; refine (HHo.out W').mono ?_; rintro e w'' ⟨rfl, hb⟩; exact ⟨rfl, HCC.out _ _ hb hW'⟩)
           | (go_at_call 13; refine (HRo.out W').mono ?_; rintro e w'' ⟨rfl, hb⟩; exact ⟨rfl, HCC.out _ _ hb hW'⟩)
           | (go_at_call 16; refine (HCu.out W').mono ?_; rintro e w'' ⟨rfl, hb⟩; exact ⟨rfl, HCC.out _ _ hb hW'⟩)
       go_big_quiet_on
       try simp only [Act.put, List.setIfInBounds_toArray, List.set_cons_zero, List.set_cons_succ]))
  refine wpQuiet_nil ?_
  intro w2 hS2
  have HBf : Hid (Below w.heap.size w w2) := HCB.out _ hS2
  clear hS2
  go_wp2
  go_ret
  exact ⟨rfl, HBf.out⟩
end Go.Proofs.Ythbhgblgacoklaa
