/- link's look: its walk. -/
import Derived.Test.YtiejehaaglpkoaaLnE
namespace Go.Proofs.Ytiejehaaglpkoaa
open Go.RowKit Go.ChangeMaps

/-- What is wrong with a packet that comes. -/
def lookE (L : Lk) (p : Pk) : Int := if chkP p = true ∧ p.f = L.x.pe ∧ p.t = L.x.me then (if p.fl = L.x.pl ∧ p.tl = L.x.lf then 0 else 4) else 1
/-- The link's cells, the packet's box, and nothing below touched. -/
def CLk (base : Nat) (g m : Nat) (vq : Value) (L : Lk) (p : Pk) (w w' : World) : Prop := (LinkV base w' g m vq L ∧ w'.heap[w.heap.size]? = some (.cells (pA p) 37 (0, 0))) ∧ Below w.heap.size w w'
theorem CLk.call {base : Nat} {g m : Nat} {vq : Value} {L : Lk} {p : Pk} {w W w' : World} (hb : Below W.heap.size W w') (h : CLk base g m vq L p w W) : CLk base g m vq L p w w' :=
  ⟨⟨h.1.1.below hb, (hb.block _ (Array.getElem?_eq_some_iff.1 h.1.2).1).trans h.1.2⟩, h.2.trans (hb.mono h.2.size)⟩
theorem CLk.cells {base : Nat} {g m : Nat} {vq : Value} {L : Lk} {p : Pk} {w W : World} (h : CLk base g m vq L p w W) :
    (W.cell? ⟨w.heap.size, 0, none⟩ = some (.int .i64 p.f) ∧ W.cell? ⟨w.heap.size, 1, none⟩ = some (.int .i64 p.t) ∧ W.cell? ⟨w.heap.size, 2, none⟩ = some (.int .i64 p.fl) ∧ W.cell? ⟨w.heap.size, 3, none⟩ = some (.int .i64 p.tl) ∧ W.cell? ⟨w.heap.size, 4, none⟩ = some (.int .i64 p.sq) ∧ W.cell? ⟨w.heap.size, 5, none⟩ = some (.int .i64 p.ak) ∧ W.cell? ⟨w.heap.size, 6, none⟩ = some (.string p.x)) ∧
    (W.cell? ⟨g, 0, none⟩ = some (.int .i64 L.x.me) ∧ W.cell? ⟨g, 1, none⟩ = some (.int .i64 L.x.lf) ∧ W.cell? ⟨g, 2, none⟩ = some (.int .i64 L.x.pe) ∧ W.cell? ⟨g, 3, none⟩ = some (.int .i64 L.x.pl)) := by
  obtain ⟨⟨k0, k1⟩, -⟩ := h
  obtain ⟨⟨a0, a1, a2, a3, -⟩, -⟩ := k0.cells
  exact ⟨⟨by rw [Lib.cell_of_heap k1]; rfl, by rw [Lib.cell_of_heap k1]; rfl, by rw [Lib.cell_of_heap k1]; rfl, by rw [Lib.cell_of_heap k1]; rfl, by rw [Lib.cell_of_heap k1]; rfl, by rw [Lib.cell_of_heap k1]; rfl, by rw [Lib.cell_of_heap k1]; rfl⟩, a0, a1, a2, a3⟩
theorem ne_f {a b : Int} (h : a ≠ b) : (a != b) = true := by simp [h]
theorem ne_t {a b : Int} (h : a = b) : (a != b) = false := by simp [h]
set_option maxRecDepth 100000 in
set_option maxHeartbeats 4000000 in
theorem lookL_any {base : Nat} {w : World} {g m : Nat} {vq : Value} {L : Lk} (h : LinkV base w g m vq L) (p : Pk) (hx : p.x.size ≤ 140737488355328) :
    Calls Try.prog 37 #[lP g, pV p] w fun e w' => e = .returned (.int .i64 (lookE L p)) ∧ Below w.heap.size w w' := by
  have HK : Hid (∀ w, Calls Try.prog 54 #[pV p] w fun e w' => e = .returned (.bool (chkP p)) ∧ Below w.heap.size w w') := fun w => (checkP_any p w hx).mono fun e w' h => ⟨h.1, by rw [h.2]; exact al_b w _⟩
  have HC0 : Hid (CLk base g m vq L p w (w.alloc (.cells (pA p) 37))) := ⟨⟨h.below (al_b w _), heap_alloc_new w _⟩, al_b w _⟩
  have HCC : Hid (∀ W w', Below W.heap.size W w' → CLk base g m vq L p w W → CLk base g m vq L p w w') := fun W w' hb h => h.call hb
  have HCE : Hid (∀ W, CLk base g m vq L p w W → _) := fun W h => h.cells
  have HCB : Hid (∀ W, CLk base g m vq L p w W → Below w.heap.size w W) := fun W h => h.2
  have HCD : Hid (∀ W n, CLk base g m vq L p w W → CLk base g m vq L p w (W.drewN n)) := fun W n h => CLk.call (W := W) ⟨rfl, rfl, rfl, Nat.le_refl _, fun _ _ => rfl⟩ h
  obtain ⟨C, hC⟩ : ∃ C : World → Prop, C = CLk base g m vq L p w := ⟨_, rfl⟩
  rw [← hC] at HC0 HCC HCE HCB HCD
  clear hC h
  obtain ⟨pf, pt, pfl, ptl, psq, pak, px⟩ := p
  obtain ⟨⟨me, lf, pe, pl, fi⟩, q, b, o, wn, e⟩ := L
  have hE : lookE ⟨⟨me, lf, pe, pl, fi⟩, q, b, o, wn, e⟩ ⟨pf, pt, pfl, ptl, psq, pak, px⟩ = if chkP ⟨pf, pt, pfl, ptl, psq, pak, px⟩ = true ∧ pf = pe ∧ pt = me then (if pfl = pl ∧ ptl = lf then 0 else 4) else 1 := rfl
  rw [hE]
  clear hE
  dsimp only [pV, pA] at *
  generalize hck : chkP ⟨pf, pt, pfl, ptl, psq, pak, px⟩ = ck at *
  clear hck
  cases ck with
  | false =>
    rw [if_neg (fun h => by cases h.1)]
    go_enter Try.func37, Try.ntmps37
    go_wp2_with fail
    refine wp_region_quiet (C := C) (by kernel_rfl) (by kernel_rfl) (HCC.out _ _ (Below.refl _ _).drew HC0.out) ?_
    dsimp only
    repeat (first
      | go_big_quiet_skip
      | (go_big_quiet_want
         apply Exists.intro
         refine ⟨fun W' hW' => ?_, ?_⟩
         · obtain ⟨⟨g0, g1, g2, g3, g4, g5, g6⟩, k0, k1, k2, k3⟩ := HCE.out W' hW'
           go_simp
           first
             | done
             | rfl
             | (go_at_call 54; refine (HK.out W').mono ?_; rintro e w'' ⟨rfl, hb⟩; exact ⟨rfl, HCC.out _ _ hb hW'⟩)
         go_big_quiet_on
         try simp only [Act.put, List.setIfInBounds_toArray, List.set_cons_zero, List.set_cons_succ]))
    refine wpQuiet_nil ?_
    intro w2 hS2
    have HBf : Hid (Below w.heap.size w w2) := HCB.out _ hS2
    clear hS2
    go_wp2
    go_ret
    exact ⟨rfl, HBf.out⟩
  | true =>
    by_cases h1 : pf = pe
    · have n1 := ne_t h1
      by_cases h2 : pt = me
      · have n2 := ne_t h2
        rw [if_pos ⟨rfl, h1, h2⟩]
        clear h1 h2
        by_cases h3 : pfl = pl
        · have n3 := ne_t h3
          by_cases h4 : ptl = lf
          · have n4 := ne_t h4
            rw [if_pos ⟨h3, h4⟩]
            clear h3 h4
            go_enter Try.func37, Try.ntmps37
            go_wp2_with fail
            refine wp_region_quiet (C := C) (by kernel_rfl) (by kernel_rfl) (HCC.out _ _ (Below.refl _ _).drew HC0.out) ?_
            dsimp only
            repeat (first
              | go_big_quiet_skip
              | (go_big_quiet_want
                 apply Exists.intro
                 refine ⟨fun W' hW' => ?_, ?_⟩
                 · obtain ⟨⟨g0, g1, g2, g3, g4, g5, g6⟩, k0, k1, k2, k3⟩ := HCE.out W' hW'
                   go_simp
                   first
                     | done
                     | rfl
                     | (go_at_call 54; refine (HK.out W').mono ?_; rintro e w'' ⟨rfl, hb⟩; exact ⟨rfl, HCC.out _ _ hb hW'⟩)
                 go_big_quiet_on
                 try simp only [Act.put, List.setIfInBounds_toArray, List.set_cons_zero, List.set_cons_succ]))
            refine wpQuiet_nil ?_
            intro w2 hS2
            have HBf : Hid (∀ n, Below w.heap.size w (w2.drewN n)) := fun n => HCB.out _ (HCD.out _ n hS2)
            obtain ⟨⟨g0, g1, g2, g3, g4, g5, g6⟩, k0, k1, k2, k3⟩ := HCE.out w2 hS2
            clear hS2
            go_wp2_with fail
            go_quiet (fail)
            go_wp2
            go_ret
            exact ⟨rfl, HBf.out _⟩
          · have n4 := ne_f h4
            rw [if_neg (fun h => h4 h.2)]
            clear h3 h4
            go_enter Try.func37, Try.ntmps37
            go_wp2_with fail
            refine wp_region_quiet (C := C) (by kernel_rfl) (by kernel_rfl) (HCC.out _ _ (Below.refl _ _).drew HC0.out) ?_
            dsimp only
            repeat (first
              | go_big_quiet_skip
              | (go_big_quiet_want
                 apply Exists.intro
                 refine ⟨fun W' hW' => ?_, ?_⟩
                 · obtain ⟨⟨g0, g1, g2, g3, g4, g5, g6⟩, k0, k1, k2, k3⟩ := HCE.out W' hW'
                   go_simp
                   first
                     | done
                     | rfl
                     | (go_at_call 54; refine (HK.out W').mono ?_; rintro e w'' ⟨rfl, hb⟩; exact ⟨rfl, HCC.out _ _ hb hW'⟩)
                 go_big_quiet_on
                 try simp only [Act.put, List.setIfInBounds_toArray, List.set_cons_zero, List.set_cons_succ]))
            refine wpQuiet_nil ?_
            intro w2 hS2
            have HBf : Hid (∀ n, Below w.heap.size w (w2.drewN n)) := fun n => HCB.out _ (HCD.out _ n hS2)
            obtain ⟨⟨g0, g1, g2, g3, g4, g5, g6⟩, k0, k1, k2, k3⟩ := HCE.out w2 hS2
            clear hS2
            go_wp2_with fail
            go_quiet (fail)
            go_wp2
            go_ret
            exact ⟨rfl, HBf.out _⟩
        · have n3 := ne_f h3
          rw [if_neg (fun h => h3 h.1)]
          clear h3
          go_enter Try.func37, Try.ntmps37
          go_wp2_with fail
          refine wp_region_quiet (C := C) (by kernel_rfl) (by kernel_rfl) (HCC.out _ _ (Below.refl _ _).drew HC0.out) ?_
          dsimp only
          repeat (first
            | go_big_quiet_skip
            | (go_big_quiet_want
               apply Exists.intro
               refine ⟨fun W' hW' => ?_, ?_⟩
               · obtain ⟨⟨g0, g1, g2, g3, g4, g5, g6⟩, k0, k1, k2, k3⟩ := HCE.out W' hW'
                 go_simp
                 first
                   | done
                   | rfl
                   | (go_at_call 54; refine (HK.out W').mono ?_; rintro e w'' ⟨rfl, hb⟩; exact ⟨rfl, HCC.out _ _ hb hW'⟩)
               go_big_quiet_on
               try simp only [Act.put, List.setIfInBounds_toArray, List.set_cons_zero, List.set_cons_succ]))
          refine wpQuiet_nil ?_
          intro w2 hS2
          have HBf : Hid (∀ n, Below w.heap.size w (w2.drewN n)) := fun n => HCB.out _ (HCD.out _ n hS2)
          obtain ⟨⟨g0, g1, g2, g3, g4, g5, g6⟩, k0, k1, k2, k3⟩ := HCE.out w2 hS2
          clear hS2
          go_wp2_with fail
          go_quiet (fail)
          go_wp2
          go_ret
          exact ⟨rfl, HBf.out _⟩
      · have n2 := ne_f h2
        rw [if_neg (fun h => h2 h.2.2)]
        clear h1 h2
        go_enter Try.func37, Try.ntmps37
        go_wp2_with fail
        refine wp_region_quiet (C := C) (by kernel_rfl) (by kernel_rfl) (HCC.out _ _ (Below.refl _ _).drew HC0.out) ?_
        dsimp only
        repeat (first
          | go_big_quiet_skip
          | (go_big_quiet_want
             apply Exists.intro
             refine ⟨fun W' hW' => ?_, ?_⟩
             · obtain ⟨⟨g0, g1, g2, g3, g4, g5, g6⟩, k0, k1, k2, k3⟩ := HCE.out W' hW'
               go_simp
               first
                 | done
                 | rfl
                 | (go_at_call 54; refine (HK.out W').mono ?_; rintro e w'' ⟨rfl, hb⟩; exact ⟨rfl, HCC.out _ _ hb hW'⟩)
             go_big_quiet_on
             try simp only [Act.put, List.setIfInBounds_toArray, List.set_cons_zero, List.set_cons_succ]))
        refine wpQuiet_nil ?_
        intro w2 hS2
        have HBf : Hid (Below w.heap.size w w2) := HCB.out _ hS2
        clear hS2
        go_wp2
        go_ret
        exact ⟨rfl, HBf.out⟩
    · have n1 := ne_f h1
      rw [if_neg (fun h => h1 h.2.1)]
      clear h1
      go_enter Try.func37, Try.ntmps37
      go_wp2_with fail
      refine wp_region_quiet (C := C) (by kernel_rfl) (by kernel_rfl) (HCC.out _ _ (Below.refl _ _).drew HC0.out) ?_
      dsimp only
      repeat (first
        | go_big_quiet_skip
        | (go_big_quiet_want
           apply Exists.intro
           refine ⟨fun W' hW' => ?_, ?_⟩
           · obtain ⟨⟨g0, g1, g2, g3, g4, g5, g6⟩, k0, k1, k2, k3⟩ := HCE.out W' hW'
             go_simp
             first
               | done
               | rfl
               | (go_at_call 54; refine (HK.out W').mono ?_; rintro e w'' ⟨rfl, hb⟩; exact ⟨rfl, HCC.out _ _ hb hW'⟩)
           go_big_quiet_on
           try simp only [Act.put, List.setIfInBounds_toArray, List.set_cons_zero, List.set_cons_succ]))
      refine wpQuiet_nil ?_
      intro w2 hS2
      have HBf : Hid (Below w.heap.size w w2) := HCB.out _ hS2
      clear hS2
      go_wp2
      go_ret
      exact ⟨rfl, HBf.out⟩
end Go.Proofs.Ytiejehaaglpkoaa
