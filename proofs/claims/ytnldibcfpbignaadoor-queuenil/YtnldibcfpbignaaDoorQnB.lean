/- QueueNil: its walk; an act that came in. -/
import Derived.Test.YtnldibcfpbignaaDoorQnA
import Derived.Test.YtnldibcfpbignaaDoorSG
namespace Go.Proofs.YtnldibcfpbignaaDoor
open Go.RowKit Go.ChangeMaps

/-- What stays of the box. -/
abbrev BA (nb : Nat) (n : Int) (x : Gv) (w0 w : World) : Prop := w.cell? ⟨nb, 1, none⟩ = some (.int .i64 n) ∧ w.cell? ⟨nb, 2, none⟩ = some (.int .i64 x.s) ∧ w.cell? ⟨nb, 3, none⟩ = some (.string x.o) ∧ w.cell? ⟨nb, 4, none⟩ = some (.int .i64 x.n) ∧ w.cell? ⟨nb, 5, none⟩ = some (.int .i64 x.l) ∧ w.cell? ⟨nb, 6, none⟩ = some (.int .i64 x.q) ∧ w.cell? ⟨nb, 7, none⟩ = some (.string x.t) ∧ w.cell? ⟨nb, 8, none⟩ = some (.slice x.a x.k x.c) ∧ nb < w.heap.size ∧ Below w0.heap.size w0 w
theorem BA_call {nb : Nat} {n : Int} {x : Gv} {w0 W w' : World} (hb : Below W.heap.size W w') (h : BA nb n x w0 W) : BA nb n x w0 w' := by
  obtain ⟨a1, a2, a3, a4, a5, a6, a7, a8, hl, B⟩ := h
  have e : ∀ o, w'.cell? ⟨nb, o, none⟩ = W.cell? ⟨nb, o, none⟩ := fun o => hb.cell (p := ⟨nb, o, none⟩) hl
  exact ⟨(e 1).trans a1, (e 2).trans a2, (e 3).trans a3, (e 4).trans a4, (e 5).trans a5, (e 6).trans a6, (e 7).trans a7, (e 8).trans a8, Nat.lt_of_lt_of_le hl hb.size, B.trans (hb.mono B.size)⟩
theorem BA_drew {nb : Nat} {n : Int} {x : Gv} {w0 W : World} (h : BA nb n x w0 W) : BA nb n x w0 W.drew := BA_call (below_dr2 W) h
set_option maxRecDepth 100000 in
set_option maxHeartbeats 4000000 in
theorem queueNil_walk (kd n : Int) (x : Gv) (l : List At) (w : World) (hr : IsRow w 4 (.slice x.a x.k x.c) l.length (aCells l)) (hl : l.length ≤ 140737488355328) :
    Calls Tryd.prog 6 #[acV kd n x] w fun e w' => e = .returned (.bool true) ∧ Below w.heap.size w w' := by
  have hB : Below w.heap.size w (w.alloc (.cells (acA kd n x) 40)) := al_b w _
  have HF : Hid (Calls Tryd.prog 10 #[acV kd n x] (w.alloc (.cells (acA kd n x) 40)) fun e w' => BoP (w.alloc (.cells (acA kd n x) 40)) e w') := few18_some kd n x l _ (hr.below hB) hl
  have HA : Hid (∀ w, Calls Tryd.prog 8 #[] w fun e w' => e = .returned (.bool true) ∧ Below w.heap.size w w') := awake18_any
  have HO : Hid (∀ w, Calls Tryd.prog 13 #[nilQ, gV x] w fun e w' => e = .returned (.int .i64 1) ∧ Below w.heap.size w w') := offer_nil x
  have HPo : Hid (∀ w, Calls Tryd.prog 16 #[nilQ, .int .i64 n] w fun e w' => e = .returned (.slice none 0 0) ∧ Below w.heap.size w w') := poll_nil n
  have HPe : Hid (∀ w, Calls Tryd.prog 22 #[nilQ] w fun e w' => e = .returned (.slice none 0 0) ∧ Below w.heap.size w w') := peek_nil
  have HL : Hid (∀ w, Calls Tryd.prog 19 #[nilQ] w fun e w' => e = .returned (.int .i64 0) ∧ Below w.heap.size w w') := len_nil
  have HRo : Hid (∀ w, Calls Tryd.prog 9 #[nilQ] w fun e w' => e = .returned (.int .i64 0) ∧ Below w.heap.size w w') := room_nil
  have HOv : Hid (∀ w, Calls Tryd.prog 20 #[nilQ, .int .i64 n] w fun e w' => e = .returned (.int .i64 0) ∧ Below w.heap.size w w') := over_nil n
  have HFg : Hid (∀ w, Calls Tryd.prog 18 #[nilQ, .int .i64 n] w fun e w' => e = .returned (.int .i64 0) ∧ Below w.heap.size w w') := forget_nil n
  have w0z : IntKind.i64.wrap 0 = 0 := by rfl
  obtain ⟨xs, xo, xn, xl, xq, xt, xa, xk, xc⟩ := x
  clear hr hB
  dsimp only [acA] at *
  go_enter Tryd.func6, Tryd.ntmps6
  go_wp2_with fail
  refine HF.out.mono ?_
  rintro e w1 ⟨b, rfl, hb⟩
  obtain ⟨cb, -, hB1, hs1⟩ := part_cells0 hb
  have HB1 : Hid (Below w.heap.size w w1) := hB1
  have hS : BA w.heap.size n ⟨xs, xo, xn, xl, xq, xt, xa, xk, xc⟩ w w1 := ⟨cb 1, cb 2, cb 3, cb 4, cb 5, cb 6, cb 7, cb 8, hs1, hB1⟩
  clear cb hb hB1 HF
  cases b with
  | false =>
    clear hS HO HPo HPe HL HRo HOv HFg
    go_wp2_with fail
    refine (HA.out _).mono ?_
    rintro e w2 ⟨rfl, hb2⟩
    have HB2 : Hid (Below w.heap.size w w2) := HB1.out.trans (hb2.mono HB1.out.size)
    clear hb2
    go_wp2
    go_ret
    exact ⟨rfl, HB2.out⟩
  | true =>
    go_wp2_with fail
    refine wp_region_quiet (C := fun w' => BA w.heap.size n ⟨xs, xo, xn, xl, xq, xt, xa, xk, xc⟩ w w') (by kernel_rfl) (by kernel_rfl) (BA_drew hS) ?_
    dsimp only
    repeat (first
      | go_big_quiet_skip
      | (go_big_quiet_want
         apply Exists.intro
         refine ⟨fun W' hW' => ?_, ?_⟩
         · have hW2 : BA w.heap.size n ⟨xs, xo, xn, xl, xq, xt, xa, xk, xc⟩ w W' := hW'
           obtain ⟨g1, g2, g3, g4, g5, g6, g7, g8, -, -⟩ := hW2
           go_simp
           first
             | done
             | rfl
             | (go_at_call 8; refine (HA.out W').mono ?_; rintro e w'' ⟨rfl, hb⟩; exact ⟨rfl, BA_call hb hW'⟩)
             | (go_at_call 13; refine (HO.out W').mono ?_; rintro e w'' ⟨rfl, hb⟩; exact ⟨rfl, BA_call hb hW'⟩)
             | (go_at_call 16; refine (HPo.out W').mono ?_; rintro e w'' ⟨rfl, hb⟩; exact ⟨rfl, BA_call hb hW'⟩)
             | (go_at_call 22; refine (HPe.out W').mono ?_; rintro e w'' ⟨rfl, hb⟩; exact ⟨rfl, BA_call hb hW'⟩)
             | (go_at_call 19; refine (HL.out W').mono ?_; rintro e w'' ⟨rfl, hb⟩; exact ⟨rfl, BA_call hb hW'⟩)
             | (go_at_call 9; refine (HRo.out W').mono ?_; rintro e w'' ⟨rfl, hb⟩; exact ⟨rfl, BA_call hb hW'⟩)
             | (go_at_call 20; refine (HOv.out W').mono ?_; rintro e w'' ⟨rfl, hb⟩; exact ⟨rfl, BA_call hb hW'⟩)
             | (go_at_call 18; refine (HFg.out W').mono ?_; rintro e w'' ⟨rfl, hb⟩; exact ⟨rfl, BA_call hb hW'⟩)
         go_big_quiet_on
         try simp only [Act.put, List.setIfInBounds_toArray, List.set_cons_zero, List.set_cons_succ]))
    refine wpQuiet_nil ?_
    intro w2 hS2'
    have hS2 : BA w.heap.size n ⟨xs, xo, xn, xl, xq, xt, xa, xk, xc⟩ w w2 := hS2'
    have HB2 : Hid (Below w.heap.size w w2) := hS2.2.2.2.2.2.2.2.2.2
    clear hS hS2 hS2'
    go_wp2
    go_ret
    exact ⟨rfl, HB2.out⟩
end Go.Proofs.YtnldibcfpbignaaDoor
