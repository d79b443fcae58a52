/- law18's awake: its walk. -/
import Derived.Test.YtnldibcfpbignaaDoorQG
namespace Go.Proofs.YtnldibcfpbignaaDoor
open Go.RowKit Go.ChangeMaps

theorem QuV.stpB {base : Nat} {w w' : World} {g m : Nat} {vq : Value} {Q : Qu} {F' : Nat → Prop} (h : QuV base w g m vq Q) (hs : Stp w (QF g m vq) F' w') : Below base w w' :=
  hs.below h.size.2.2 fun _ hk => (h.lt hk).1
/-- A queue that a call has made, and what else it left. -/
def Mde (w : World) (Q : Qu) (g : Nat) (w' : World) : Prop := ∃ m vq, QuV w.heap.size w' g m vq Q ∧ Below w.heap.size w w'
theorem mde_new (r : Int) (w : World) (h1 : 1 ≤ r) (h2 : r ≤ 100) : Calls Tryd.prog 7 #[.int .i64 r] w fun e w' => ∃ g, e = .returned (qP g) ∧ Mde w (newQ r) g w' := by
  refine (newQ_ok r w h1 h2).mono ?_
  rintro e w' ⟨g, m, rfl, hv, hb⟩
  exact ⟨g, rfl, m, _, hv, hb⟩
theorem Mde.offer {w W : World} {Q : Qu} {g : Nat} (h : Mde w Q g W) (s q : Int) (hs : 1 ≤ s) (h1 : 1 ≤ q) (h2 : q ≤ 1099511627775) (hl : Q.l.length ≤ 1000) (ho : 0 ≤ Q.ov s) (ho2 : Q.ov s ≤ 100000) :
    Calls Tryd.prog 13 #[qP g, gV (gk s q)] W fun e w' => e = .returned (.int .i64 (offE Q)) ∧ Mde w (offQ Q (gk s q)) g w' := by
  obtain ⟨m, vq, hv, hb⟩ := h
  refine (offer_ok hv s q hs h1 h2 hl ho ho2).mono ?_
  rintro e w' ⟨vq', rfl, hv', hs'⟩
  exact ⟨rfl, m, vq', hv', hb.trans (hv.stpB hs')⟩
theorem Mde.poll {w W : World} {Q : Qu} {g : Nat} (h : Mde w Q g W) (hl : Q.l.length ≤ 1000) (most : Int) :
    Calls Tryd.prog 16 #[qP g, .int .i64 most] W fun e w' => ∃ r, e = .returned r ∧ Mde w ⟨Q.r, Q.l.drop (polN Q most), Q.ov⟩ g w' ∧ IsRow w' 7 r (Q.l.take (polN Q most)).length (gCells (Q.l.take (polN Q most))) ∧ Below w.heap.size W w' := by
  obtain ⟨m, vq, hv, hb⟩ := h
  refine (poll_any hv hl most).mono ?_
  rintro e w' ⟨r, vq', rfl, hv', hs', hr, -⟩
  exact ⟨r, rfl, ⟨m, vq', hv', hb.trans (hv.stpB hs')⟩, IsRow.own hr, hv.stpB hs'⟩
theorem Mde.below {w W W' : World} {Q : Qu} {g : Nat} (h : Mde w Q g W) (hb : Below W.heap.size W W') : Mde w Q g W' := by
  obtain ⟨m, vq, hv, hb'⟩ := h
  exact ⟨m, vq, hv.below hb, hb'.trans (hb.mono hb'.size)⟩
theorem Mde.over {w W : World} {Q : Qu} {g : Nat} (h : Mde w Q g W) (s : Int) : Calls Tryd.prog 20 #[qP g, .int .i64 s] W fun e w' => e = .returned (.int .i64 (Q.ov s)) ∧ w' = W := by
  obtain ⟨m, vq, hv, hb⟩ := h
  exact overQ_any hv s
theorem Mde.len {w W : World} {Q : Qu} {g : Nat} (h : Mde w Q g W) : Calls Tryd.prog 19 #[qP g] W fun e w' => e = .returned (.int .i64 Q.l.length) ∧ w' = W := by
  obtain ⟨m, vq, hv, hb⟩ := h
  exact lenQ_any hv
theorem Mde.room {w W : World} {Q : Qu} {g : Nat} (h : Mde w Q g W) : Calls Tryd.prog 9 #[qP g] W fun e w' => e = .returned (.int .i64 Q.r) ∧ w' = W := by
  obtain ⟨m, vq, hv, hb⟩ := h
  exact roomQ_any hv
theorem Mde.peek {w W : World} {Q : Qu} {g : Nat} (h : Mde w Q g W) (hl : Q.l.length ≤ 1000) (hG : GkL Q.l) : Calls Tryd.prog 22 #[qP g] W fun e w' => ∃ r, e = .returned r ∧ Mde w Q g w' ∧ IsRow w' 7 r Q.l.length (gCells Q.l) ∧ Below W.heap.size W w' := by
  obtain ⟨m, vq, hv, hb⟩ := h
  refine (peek_ok hv hl hG).mono ?_
  rintro e w' ⟨r, rfl, hr, hb'⟩
  exact ⟨r, rfl, ⟨m, vq, hv.below hb', hb.trans (hb'.mono hb.size)⟩, IsRow.own hr, hb'⟩
theorem Mde.to {w W : World} {Q : Qu} {g : Nat} (h : Mde w Q g W) : Below w.heap.size w W := by
  obtain ⟨m, vq, hv, hb⟩ := h
  exact hb
def zov : Int → Int := fun _ => 0
set_option maxRecDepth 100000 in
set_option maxHeartbeats 2000000 in
theorem awake18_any (w : World) : Calls Tryd.prog 8 #[] w fun e w' => e = .returned (.bool true) ∧ Below w.heap.size w w' := by
  have HN : Hid (Calls Tryd.prog 7 #[.int .i64 2] w fun e w' => ∃ g, e = .returned (qP g) ∧ Mde w (newQ 2) g w') := mde_new 2 w (by omega) (by omega)
  have H1 : Hid (∀ q w, Calls Tryd.prog 23 #[.int .i64 q] w fun e w' => e = .returned (evV q) ∧ Below w.heap.size w w') := oneV_ok
  have O1 : Hid (∀ g W, Mde w (newQ 2) g W → Calls Tryd.prog 13 #[qP g, gV (gk 7 1)] W fun e w' => e = .returned (.int .i64 0) ∧ Mde w ⟨2, [gk 7 1], zov⟩ g w') := fun g W h => h.offer 7 1 (by omega) (by omega) (by omega) (by simp [newQ]) (by simp [newQ]) (by simp [newQ])
  have O2 : Hid (∀ g W, Mde w ⟨2, [gk 7 1], zov⟩ g W → Calls Tryd.prog 13 #[qP g, gV (gk 7 2)] W fun e w' => e = .returned (.int .i64 0) ∧ Mde w ⟨2, [gk 7 1, gk 7 2], zov⟩ g w') := fun g W h => h.offer 7 2 (by omega) (by omega) (by omega) (by simp) (by simp [zov]) (by simp [zov])
  have O3 : Hid (∀ g W, Mde w ⟨2, [gk 7 1, gk 7 2], zov⟩ g W → Calls Tryd.prog 13 #[qP g, gV (gk 7 3)] W fun e w' => e = .returned (.int .i64 6) ∧ Mde w ⟨2, [gk 7 1, gk 7 2], upI zov 7 1⟩ g w') := fun g W h => h.offer 7 3 (by omega) (by omega) (by omega) (by simp) (by simp [zov]) (by simp [zov])
  have P1 : Hid (∀ g W, Mde w ⟨2, [gk 7 1, gk 7 2], upI zov 7 1⟩ g W → Calls Tryd.prog 16 #[qP g, .int .i64 5] W fun e w' => ∃ r, e = .returned r ∧ Mde w ⟨2, [], upI zov 7 1⟩ g w' ∧ IsRow w' 7 r 2 (gCells [gk 7 1, gk 7 2]) ∧ Below w.heap.size W w') := fun g W h => h.poll (by simp) 5
  have V1 : Hid (∀ g W, Mde w ⟨2, [], upI zov 7 1⟩ g W → Calls Tryd.prog 20 #[qP g, .int .i64 7] W fun e w' => e = .returned (.int .i64 1) ∧ w' = W) := fun g W h => h.over 7
  have L1 : Hid (∀ g W, Mde w ⟨2, [], upI zov 7 1⟩ g W → Calls Tryd.prog 19 #[qP g] W fun e w' => e = .returned (.int .i64 0) ∧ w' = W) := fun g W h => h.len
  go_enter Tryd.func8, Tryd.ntmps8
  go_wp2_with fail
  refine HN.out.mono ?_
  rintro e W0 ⟨g, rfl, M0⟩
  go_wp2_with fail
  refine (H1.out 1 _).mono ?_
  rintro e W1 ⟨rfl, hb1⟩
  have M1 := M0.below hb1
  clear hb1 M0
  go_wp2_with fail
  refine (O1.out g _ M1).mono ?_
  rintro e W2 ⟨rfl, M2⟩
  clear M1
  go_wp2_with fail
  refine (H1.out 2 _).mono ?_
  rintro e W3 ⟨rfl, hb3⟩
  have M3 := M2.below hb3
  clear hb3 M2
  go_wp2_with fail
  refine (O2.out g _ M3).mono ?_
  rintro e W4 ⟨rfl, M4⟩
  clear M3
  go_wp2_with fail
  refine (H1.out 3 _).mono ?_
  rintro e W5 ⟨rfl, hb5⟩
  have M5 := M4.below hb5
  clear hb5 M4
  go_wp2_with fail
  refine (O3.out g _ M5).mono ?_
  rintro e W6 ⟨rfl, M6⟩
  clear M5
  go_wp2_with fail
  refine (P1.out g _ M6).mono ?_
  rintro e W7 ⟨r, rfl, M7, hr, -⟩
  obtain ⟨ra, rc, rfl⟩ := hr.form
  obtain ⟨b, off, rfl, hlt, -, hrc, hc⟩ := g_at (l := [gk 7 1, gk 7 2]) hr (by decide)
  obtain ⟨-, -, -, -, y4, -, -⟩ := hc 1 (by decide)
  have y4' : W7.cell? ⟨b, off + 7 + 4, none⟩ = some (.int .i64 2) := y4
  have i1 : (2 : Int) ≤ (rc : Int) := by simp at hrc; omega
  clear M6 hr hc y4 hrc
  go_wp2_with fail
  refine (V1.out g _ M7).mono ?_
  rintro e w8 ⟨rfl, rfl⟩
  go_wp2_with fail
  refine (L1.out g _ M7).mono ?_
  rintro e w8 ⟨rfl, rfl⟩
  have HB : Hid (Below w.heap.size w w8) := M7.to
  clear M7
  go_wp2
  go_ret
  exact ⟨rfl, HB.out⟩
end Go.Proofs.YtnldibcfpbignaaDoor
