/- The reference's with: its walk. -/
import Derived.Test.YtlndgepoekllkaaGreatDoorZk18
import Derived.Test.YtlndgepoekllkaaGreatDoorZk20
namespace Go.Proofs.YtlndgepoekllkaaGreatDoor
open Go.RowKit Go.ChangeMaps

/-- Does what is put in stand ahead? -/
def ltK (k x : KR) : Bool := decide (cmpL k.y.t.n.data.toList x.y.t.n.data.toList < 0)
/-- So far: whether it is put in, and what there is. -/
def wthN (M : List KR) (z : Int) (k : KR) : Nat → Bool × List KR
  | 0 => (decide (0 ≤ z), [])
  | i + 1 => match M[i]? with
    | none => wthN M z k i
    | some x => if !(wthN M z k i).1 && ltK k x then (true, (wthN M z k i).2 ++ [k] ++ [x]) else ((wthN M z k i).1, (wthN M z k i).2 ++ [if (i : Int) = z then k else x])
def wthR (M : List KR) (z : Int) (k : KR) : List KR := if (wthN M z k M.length).1 then (wthN M z k M.length).2 else (wthN M z k M.length).2 ++ [k]
theorem wthN_neg {M : List KR} {z : Int} {k : KR} : ∀ {i : Nat}, (wthN M z k i).1 = false → z < 0
  | 0, h => by simpa [wthN] using h
  | i + 1, h => by
    unfold wthN at h
    split at h
    · exact wthN_neg h
    · split at h
      · cases h
      · exact wthN_neg h
theorem wthN_len {M : List KR} {z : Int} {k : KR} : ∀ (i : Nat), (wthN M z k i).2.length ≤ i + (if (wthN M z k i).1 then 1 else 0)
  | 0 => by simp [wthN]
  | i + 1 => by
    have ih := wthN_len (M := M) (z := z) (k := k) i
    unfold wthN
    split
    · omega
    · split
      · next h =>
        have h1 : (wthN M z k i).1 = false := by
          cases h2 : (wthN M z k i).1
          · rfl
          · rw [h2] at h; simp at h
        rw [h1] at ih
        simp at ih ⊢
        omega
      · simp
        omega
theorem wth_put {M : List KR} {z : Int} {k : KR} {i : Nat} (hi : i < M.length) (h1 : (wthN M z k i).1 = false) (h2 : ltK k M[i] = true) : wthN M z k (i + 1) = (true, (wthN M z k i).2 ++ [k] ++ [M[i]]) := by
  conv => lhs; unfold wthN
  rw [List.getElem?_eq_getElem hi]
  dsimp only
  rw [h1, h2]
  rfl
theorem wth_same {M : List KR} {z : Int} {k : KR} {i : Nat} (hi : i < M.length) (h : (wthN M z k i).1 = true ∨ ltK k M[i] = false) : wthN M z k (i + 1) = ((wthN M z k i).1, (wthN M z k i).2 ++ [if (i : Int) = z then k else M[i]]) := by
  conv => lhs; unfold wthN
  rw [List.getElem?_eq_getElem hi]
  dsimp only
  rcases h with h | h
  · rw [h]; rfl
  · rw [h]; simp
set_option maxRecDepth 100000 in
set_option maxHeartbeats 4000000 in
theorem with17_any (v : Value) (M : List KR) (z : Int) (x : KR) (w : World) (hr : IsRow w 10 v M.length (kCells M)) (hl : M.length ≤ 1000) (hN : ∀ k ∈ M, k.y.t.n.size ≤ 200000) (hx : x.y.t.n.size ≤ 200000) :
    Calls Tryz.prog 46 #[.agg #[v], .int .i64 z, .agg (krA x)] w fun e w' => KsP (wthR M z x) w e w' := by
  obtain ⟨a0, c0, rfl⟩ := hr.form
  obtain ⟨i0, hi0, hz0, hz1, hz2⟩ := info_parts info_kr
  have HR : Hid (∀ W, Below w.heap.size w W → IsRow W 10 (.slice a0 M.length c0) M.length (kCells M)) := fun W hb => hr.below hb
  have HC : Hid (∀ (k : Nat) (hk : k < M.length) W, Calls Tryz.prog 76 #[.string x.y.t.n, .string M[k].y.t.n] W fun e w' => e = .returned (.int .i64 (cmpL x.y.t.n.data.toList M[k].y.t.n.data.toList)) ∧ Below W.heap.size W w') := fun k hk W => refCompare_any _ _ W hx (hN _ (List.getElem_mem hk))
  obtain ⟨N, HNn⟩ : ∃ N, Hid (N = wthN M z x) := ⟨_, rfl⟩
  have HNeg : Hid (∀ i, (N i).1 = false → z < 0) := fun i h => wthN_neg (HNn.out ▸ h)
  have HLen : Hid (∀ i, (N i).2.length ≤ i + 1) := fun i => by
    have h1 := wthN_len (M := M) (z := z) (k := x) i
    rw [HNn.out]
    split at h1 <;> omega
  have HPut : Hid (∀ i (hi : i < M.length), (N i).1 = false → cmpL x.y.t.n.data.toList M[i].y.t.n.data.toList < 0 → N (i + 1) = (true, (N i).2 ++ [x] ++ [M[i]])) := fun i hi h1 h2 => by rw [HNn.out] at h1 ⊢; exact wth_put hi h1 (decide_eq_true h2)
  have HSame : Hid (∀ i (hi : i < M.length), ((N i).1 = true ∨ ¬ cmpL x.y.t.n.data.toList M[i].y.t.n.data.toList < 0) → N (i + 1) = ((N i).1, (N i).2 ++ [if (i : Int) = z then x else M[i]])) := fun i hi h => by rw [HNn.out] at h ⊢; exact wth_same hi (h.imp id fun h => decide_eq_false h)
  have H0 : Hid (N 0 = (decide (0 ≤ z), [])) := by show _ = _; rw [HNn.out]; rfl
  have HEq : Hid (wthR M z x = if (N M.length).1 then (N M.length).2 else (N M.length).2 ++ [x]) := by show _ = _; rw [HNn.out]; rfl
  clear hr hN hx HNn
  generalize wthR M z x = RES at *
  obtain ⟨⟨⟨tn, tp, town, tall, tch, tnd, tlf, tsq⟩, ao, co, aa, ca, ac, cc⟩, s0, l0, aw, cw⟩ := x
  dsimp only at *
  obtain ⟨w1, hw1⟩ : ∃ w1, w1 = w.alloc (.cells #[.slice a0 M.length c0] 27) := ⟨_, rfl⟩
  have B1 : Hid (Below w.heap.size w w1) := by show Below _ _ _; rw [hw1]; exact al_b _ _
  have hn1 : w1.heap[w.heap.size]? = some (.cells #[.slice a0 M.length c0] 27 (0, 0)) := by rw [hw1]; exact new_at _ _
  have C1 : Hid (∀ W, Below w1.heap.size w1 W → W.heap[w.heap.size]? = some (.cells #[.slice a0 M.length c0] 27 (0, 0))) := fun W h => (h.block _ (Array.getElem?_eq_some_iff.1 hn1).1).trans hn1
  clear hn1
  obtain ⟨w2, hw2⟩ : ∃ w2, w2 = w1.alloc (.cells #[.string tn, .string tp, .slice ao town.length co, .slice aa tall.length ca, .slice ac tch.length cc, .int .i64 tnd, .int .i64 tlf, .int .i64 tsq, .bool s0, .slice aw l0.length cw] 80) := ⟨_, rfl⟩
  have B2 : Hid (Below w1.heap.size w1 w2) := by show Below _ _ _; rw [hw2]; exact al_b _ _
  have hn2 : w2.heap[(w.heap.size + 1)]? = some (.cells #[.string tn, .string tp, .slice ao town.length co, .slice aa tall.length ca, .slice ac tch.length cc, .int .i64 tnd, .int .i64 tlf, .int .i64 tsq, .bool s0, .slice aw l0.length cw] 80 (0, 0)) := by rw [hw2]; rw [show w.heap.size + 1 = w1.heap.size by (rw [hw1]; simp)]; exact new_at _ _
  have C2 : Hid (∀ W, Below w2.heap.size w2 W → W.heap[(w.heap.size + 1)]? = some (.cells #[.string tn, .string tp, .slice ao town.length co, .slice aa tall.length ca, .slice ac tch.length cc, .int .i64 tnd, .int .i64 tlf, .int .i64 tsq, .bool s0, .slice aw l0.length cw] 80 (0, 0))) := fun W h => (h.block _ (Array.getElem?_eq_some_iff.1 hn2).1).trans hn2
  clear hn2
  obtain ⟨w3, hw3⟩ : ∃ w3, w3 = w2.alloc (.cells #[.slice none 0 0] 27) := ⟨_, rfl⟩
  have B3 : Hid (Below w2.heap.size w2 w3) := by show Below _ _ _; rw [hw3]; exact al_b _ _
  have hn3 : w3.heap[(w.heap.size + 2)]? = some (.cells #[.slice none 0 0] 27 (0, 0)) := by rw [hw3]; rw [show w.heap.size + 2 = w2.heap.size by (rw [hw2, hw1]; simp)]; exact new_at _ _
  have C3 : Hid (∀ W, Below w3.heap.size w3 W → W.heap[(w.heap.size + 2)]? = some (.cells #[.slice none 0 0] 27 (0, 0))) := fun W h => (h.block _ (Array.getElem?_eq_some_iff.1 hn3).1).trans hn3
  clear hn3
  have Hz : Hid (w3.heap.size = w.heap.size + 3) := by show _ = _; rw [hw3, hw2, hw1]; simp
  have Bpr : Hid (Below w1.heap.size w1 w3) := B2.out.trans (B3.out.mono B2.out.size)
  have HBw0 : Hid (Below w.heap.size w w3) := B1.out.trans (Bpr.out.mono B1.out.size)
  have HCK : Hid (∀ W, Below w3.heap.size w3 W → W.cell? ⟨w.heap.size + 1, 0, none⟩ = some (.string tn) ∧ W.cell? ⟨w.heap.size + 1, 1, none⟩ = some (.string tp) ∧ W.cell? ⟨w.heap.size + 1, 2, none⟩ = some (.slice ao town.length co) ∧ W.cell? ⟨w.heap.size + 1, 3, none⟩ = some (.slice aa tall.length ca) ∧ W.cell? ⟨w.heap.size + 1, 4, none⟩ = some (.slice ac tch.length cc) ∧ W.cell? ⟨w.heap.size + 1, 5, none⟩ = some (.int .i64 tnd) ∧ W.cell? ⟨w.heap.size + 1, 6, none⟩ = some (.int .i64 tlf) ∧ W.cell? ⟨w.heap.size + 1, 7, none⟩ = some (.int .i64 tsq) ∧ W.cell? ⟨w.heap.size + 1, 8, none⟩ = some (.bool s0) ∧ W.cell? ⟨w.heap.size + 1, 9, none⟩ = some (.slice aw l0.length cw) ∧ W.cell? ⟨w.heap.size, 0, none⟩ = some (.slice a0 M.length c0)) := fun W hb => by
    have h1 := C2.out W (B3.out.trans (hb.mono B3.out.size))
    have h2 := C1.out W (Bpr.out.trans (hb.mono Bpr.out.size))
    have c : ∀ j, W.cell? ⟨w.heap.size + 1, j, none⟩ = (#[.string tn, .string tp, .slice ao town.length co, .slice aa tall.length ca, .slice ac tch.length cc, .int .i64 tnd, .int .i64 tlf, .int .i64 tsq, .bool s0, .slice aw l0.length cw] : Array Value)[j]? := fun j => by rw [Lib.cell_of_heap h1]
    exact ⟨c 0, c 1, c 2, c 3, c 4, c 5, c 6, c 7, c 8, c 9, by rw [Lib.cell_of_heap h2]; rfl⟩
  go_enter Tryz.func46, Tryz.ntmps46
  go_wp2_with fail
  rw [← hw1, ← hw2, ← hw3]
  clear hw1 hw2 hw3
  have HS0 : Hid (w3.ownsRow w3.heap.size 80 10 (.slice none 0 0) (N 0).2.length (kCells (N 0).2) ∧ (N 0).1 = decide (0 ≤ z)) := by
    show _ ∧ _
    rw [H0.out]
    exact ⟨World.ownsRow_nil _ _ _ _, rfl⟩
  clear H0
  go_loopw [7, 8, 9] (fun o u i wr => ∃ k : Nat, k ≤ M.length ∧ i = .int .i64 (k : Int) ∧ u = .bool (N k).1 ∧ Hid (wr.ownsRow w3.heap.size 80 10 o (N k).2.length (kCells (N k).2)) ∧ Hid (Below w3.heap.size w3 wr)) (fun _ _ i _ => M.length - (intOf i).toNat)
  case atStart => exact ⟨0, Nat.zero_le _, rfl, by rw [HS0.out.2], HS0.out.1, Below.refl _ _⟩
  case round =>
    obtain ⟨k, hk, rfl, rfl, HO, HB⟩ := hrel
    have hsz := HB.out.size
    obtain ⟨k0, k1, k2, k3, k4, k5, k6, k7, k8, k9, cb⟩ := HCK.out _ HB.out
    have HBw : Hid (Below w.heap.size w wr) := HBw0.out.trans (HB.out.mono HBw0.out.size)
    clear HS0
    by_cases hlk : k < M.length
    · have dk : decide ((k : Int) < (M.length : Int)) = true := by simp; omega
      obtain ⟨b, off, rfl, hlt, hcap, hc⟩ := kr_at (HR.out w (Below.refl _ _)) (by omega)
      have hq := hc k hlk
      have HQ : Hid (∀ W, Below w.heap.size w W → W.cell? ⟨b, off + k * 10, none⟩ = some (.string M[k].y.t.n) ∧ W.cell? ⟨b, off + k * 10 + 1, none⟩ = some (.string M[k].y.t.p) ∧ W.cell? ⟨b, off + k * 10 + 2, none⟩ = some (M[k].y.vo) ∧ W.cell? ⟨b, off + k * 10 + 3, none⟩ = some (M[k].y.va) ∧ W.cell? ⟨b, off + k * 10 + 4, none⟩ = some (M[k].y.vc) ∧ W.cell? ⟨b, off + k * 10 + 5, none⟩ = some (.int .i64 M[k].y.t.nd) ∧ W.cell? ⟨b, off + k * 10 + 6, none⟩ = some (.int .i64 M[k].y.t.lf) ∧ W.cell? ⟨b, off + k * 10 + 7, none⟩ = some (.int .i64 M[k].y.t.sq) ∧ W.cell? ⟨b, off + k * 10 + 8, none⟩ = some (.bool M[k].s) ∧ W.cell? ⟨b, off + k * 10 + 9, none⟩ = some (M[k].vw)) := fun W hb => by
        obtain ⟨q0, q1, q2, q3, q4, q5, q6, q7, q8, q9⟩ := hq
        exact ⟨(hb.cell (p := ⟨b, _, none⟩) hlt).trans q0, (hb.cell (p := ⟨b, _, none⟩) hlt).trans q1, (hb.cell (p := ⟨b, _, none⟩) hlt).trans q2, (hb.cell (p := ⟨b, _, none⟩) hlt).trans q3, (hb.cell (p := ⟨b, _, none⟩) hlt).trans q4, (hb.cell (p := ⟨b, _, none⟩) hlt).trans q5, (hb.cell (p := ⟨b, _, none⟩) hlt).trans q6, (hb.cell (p := ⟨b, _, none⟩) hlt).trans q7, (hb.cell (p := ⟨b, _, none⟩) hlt).trans q8, (hb.cell (p := ⟨b, _, none⟩) hlt).trans q9⟩
      have hP := HPut.out k hlk
      have hS := HSame.out k hlk
      have hLk := HLen.out k
      have hNg := HNeg.out k
      have hC := HC.out k hlk
      have HC2 : Hid (∀ W, Calls Tryz.prog 76 #[.string tn, .string M[k].y.t.n] W fun e w' => e = .returned (.int .i64 (cmpL tn.data.toList M[k].y.t.n.data.toList)) ∧ Below W.heap.size W w') := hC
      clear hC
      obtain ⟨P, A, hNk⟩ : ∃ P A, N k = (P, A) := ⟨_, _, rfl⟩
      rw [hNk] at hP hS hLk hNg HO
      rw [hNk]
      clear hNk hc hq HR HC HPut HSame HLen HNeg HEq
      generalize M[k]'hlk = y at *
      obtain ⟨⟨⟨yn, yp, yown, yall, ych, ynd, ylf, ysq⟩, bo, do', ba, da, bc, dc⟩, ys, yl, bw, dw⟩ := y
      dsimp only at *
      cases P
      · have hz0' := hNg (by simp)
        have hzk : ¬ (k : Int) = z := by omega
        have dz1 : decide ((k : Int) = z) = false := decide_eq_false hzk
        have dz2 : ((k : Int) == z) = false := by simp [hzk]
        rw [if_neg hzk] at hS
        clear hNg
        go_wp2_with fail
        clear k0 k1 k2 k3 k4 k5 k6 k7 k8 k9 cb
        refine wp_region_quiet (C := fun w' => Below wr.heap.size wr w') (by kernel_rfl) (by kernel_rfl) ((Below.refl _ _).drew) ?_
        dsimp only
        repeat (first
          | go_big_quiet_skip
          | (go_big_quiet_want
             apply Exists.intro
             refine ⟨fun W' hW' => ?_, ?_⟩
             · have hw : Below wr.heap.size wr W' := hW'
               obtain ⟨k0, -, -, -, -, -, -, -, -, -, cb⟩ := HCK.out W' (HB.out.trans (hw.mono HB.out.size))
               obtain ⟨q0, -⟩ := HQ.out W' (HBw.out.trans (hw.mono HBw.out.size))
               go_simp
               first
                 | done
                 | rfl
                 | (go_at_call 76; (with_reducible refine Calls.mono (HC2.out W') ?_); rintro e w'' ⟨rfl, hb⟩; exact ⟨rfl, hw.trans (hb.mono hw.size)⟩)
             go_big_quiet_on
             try simp only [Act.put, List.setIfInBounds_toArray, List.set_cons_zero, List.set_cons_succ]))
        refine wpQuiet_nil ?_
        intro w5 hb5
        have B5 : Hid (Below wr.heap.size wr w5) := hb5
        have HB5 : Hid (Below w3.heap.size w3 w5) := HB.out.trans (B5.out.mono hsz)
        have HBw5 : Hid (Below w.heap.size w w5) := HBw.out.trans (B5.out.mono HBw.out.size)
        have HO5 : Hid (w5.ownsRow w3.heap.size 80 10 u7 A.length (kCells A)) := own_belowE HO.out B5.out
        have hsz5 := HB5.out.size
        clear hb5 HC2 HO hsz
        obtain ⟨k0, k1, k2, k3, k4, k5, k6, k7, k8, k9, cb⟩ := HCK.out _ HB5.out
        obtain ⟨q0, q1, q2, q3, q4, q5, q6, q7, q8, q9⟩ := HQ.out w5 HBw5.out
        generalize cmpL tn.data.toList yn.data.toList = C at *
        by_cases hc0 : C < 0
        · have dC : decide (C < 0) = true := decide_eq_true hc0
          have HN : Hid (N (k + 1) = (true, A ++ [(⟨⟨⟨tn, tp, town, tall, tch, tnd, tlf, tsq⟩, ao, co, aa, ca, ac, cc⟩, s0, l0, aw, cw⟩ : KR)] ++ [(⟨⟨⟨yn, yp, yown, yall, ych, ynd, ylf, ysq⟩, bo, do', ba, da, bc, dc⟩, ys, yl, bw, dw⟩ : KR)])) := hP (by simp) hc0
          clear hP hS
          go_wp2_with (first
            | (at_builtin; refine wpl_appE w5 rfl (.tmp 35) (.tmp 37) 25 80 rfl i0 _ 10 160 Tryz.underlying25 hi0 hz0 hz1 hz2 rfl (by decide) w3.heap.size u7 A.length _ rfl HO5.out (enK (⟨⟨⟨tn, tp, town, tall, tch, tnd, tlf, tsq⟩, ao, co, aa, ca, ac, cc⟩, s0, l0, aw, cw⟩ : KR)) rfl _ rfl rfl (one_kr _) (by omega) (by unfold maxLen; omega) (by omega) ?_; intro v6 w6 hown6 hb6; have H6 : Hid (Below w3.heap.size w3 w6) := HB5.out.trans hb6; have HO6 : Hid (w6.ownsRow w3.heap.size 80 10 v6 (A ++ [(⟨⟨⟨tn, tp, town, tall, tch, tnd, tlf, tsq⟩, ao, co, aa, ca, ac, cc⟩, s0, l0, aw, cw⟩ : KR)]).length (kCells (A ++ [(⟨⟨⟨tn, tp, town, tall, tch, tnd, tlf, tsq⟩, ao, co, aa, ca, ac, cc⟩, s0, l0, aw, cw⟩ : KR)]))) := (by show World.ownsRow _ _ _ _ _ _ _; rw [kCells_snoc, List.length_append]; exact hown6); obtain ⟨-, -, -, -, -, -, -, -, -, -, cb6⟩ := HCK.out _ H6.out; obtain ⟨p0, p1, p2, p3, p4, p5, p6, p7, p8, p9⟩ := HQ.out w6 (HBw0.out.trans (H6.out.mono HBw0.out.size)); have hsz6 := H6.out.size)
            | (at_builtin; refine wpl_appE w6 rfl (.tmp 46) (.tmp 52) 25 80 rfl i0 _ 10 160 Tryz.underlying25 hi0 hz0 hz1 hz2 rfl (by decide) w3.heap.size v6 (A ++ [(⟨⟨⟨tn, tp, town, tall, tch, tnd, tlf, tsq⟩, ao, co, aa, ca, ac, cc⟩, s0, l0, aw, cw⟩ : KR)]).length _ rfl HO6.out (enK (⟨⟨⟨yn, yp, yown, yall, ych, ynd, ylf, ysq⟩, bo, do', ba, da, bc, dc⟩, ys, yl, bw, dw⟩ : KR)) rfl _ rfl rfl (one_kr _) (by rw [List.length_append]; simp; omega) (by unfold maxLen; rw [List.length_append]; simp; omega) (by omega) ?_; intro v7 w7 hown7 hb7))
          have HO7 : Hid (w7.ownsRow w3.heap.size 80 10 v7 ((A ++ [(⟨⟨⟨tn, tp, town, tall, tch, tnd, tlf, tsq⟩, ao, co, aa, ca, ac, cc⟩, s0, l0, aw, cw⟩ : KR)]) ++ [(⟨⟨⟨yn, yp, yown, yall, ych, ynd, ylf, ysq⟩, bo, do', ba, da, bc, dc⟩, ys, yl, bw, dw⟩ : KR)]).length (kCells ((A ++ [(⟨⟨⟨tn, tp, town, tall, tch, tnd, tlf, tsq⟩, ao, co, aa, ca, ac, cc⟩, s0, l0, aw, cw⟩ : KR)]) ++ [(⟨⟨⟨yn, yp, yown, yall, ych, ynd, ylf, ysq⟩, bo, do', ba, da, bc, dc⟩, ys, yl, bw, dw⟩ : KR)]))) := by
            show World.ownsRow _ _ _ _ _ _ _
            rw [kCells_snoc, List.length_append]
            exact hown7
          have H7 : Hid (Below w3.heap.size w3 w7) := H6.out.trans hb7
          clear hown7 hb7
          clear cb6 p0 p1 p2 p3 p4 p5 p6 p7 p8 p9 k0 k1 k2 k3 k4 k5 k6 k7 k8 k9 cb q0 q1 q2 q3 q4 q5 q6 q7 q8 q9
          go_wp2
          go_roundw
          case rel => exact ⟨k + 1, by omega, (by first | (simp; done) | (simp; omega)), by rw [HN.out], by rw [HN.out]; exact HO7, H7⟩
          case measure => simp [intOf]; omega
        · have dC : decide (C < 0) = false := decide_eq_false hc0
          have HN : Hid (N (k + 1) = (false, A ++ [(⟨⟨⟨yn, yp, yown, yall, ych, ynd, ylf, ysq⟩, bo, do', ba, da, bc, dc⟩, ys, yl, bw, dw⟩ : KR)])) := hS (.inr (by omega))
          clear hP hS
          go_wp2_with (at_builtin; go_loud (refine wpl_appE w5 rfl (.tmp 46) (.tmp 52) 25 80 rfl i0 _ 10 160 Tryz.underlying25 hi0 hz0 hz1 hz2 rfl (by decide) w3.heap.size u7 A.length _ rfl HO5.out (enK (⟨⟨⟨yn, yp, yown, yall, ych, ynd, ylf, ysq⟩, bo, do', ba, da, bc, dc⟩, ys, yl, bw, dw⟩ : KR)) rfl _ rfl rfl (one_kr _) (by omega) (by unfold maxLen; omega) (by omega) ?_); intro v6 w6 hown6 hb6)
          have HO6 : Hid (w6.ownsRow w3.heap.size 80 10 v6 (A ++ [(⟨⟨⟨yn, yp, yown, yall, ych, ynd, ylf, ysq⟩, bo, do', ba, da, bc, dc⟩, ys, yl, bw, dw⟩ : KR)]).length (kCells (A ++ [(⟨⟨⟨yn, yp, yown, yall, ych, ynd, ylf, ysq⟩, bo, do', ba, da, bc, dc⟩, ys, yl, bw, dw⟩ : KR)]))) := by
            show World.ownsRow _ _ _ _ _ _ _
            rw [kCells_snoc, List.length_append]
            exact hown6
          have H6 : Hid (Below w3.heap.size w3 w6) := HB5.out.trans hb6
          clear hown6 hb6
          clear k0 k1 k2 k3 k4 k5 k6 k7 k8 k9 cb q0 q1 q2 q3 q4 q5 q6 q7 q8 q9
          go_wp2
          go_roundw
          case rel => exact ⟨k + 1, by omega, (by first | (simp; done) | (simp; omega)), by rw [HN.out], by rw [HN.out]; exact HO6, H6⟩
          case measure => simp [intOf]; omega
      · have hS2 := hS (.inl (by simp))
        clear hP hS hNg
        go_wp2_with fail
        clear k0 k1 k2 k3 k4 k5 k6 k7 k8 k9 cb
        refine wp_region_quiet (C := fun w' => Below wr.heap.size wr w') (by kernel_rfl) (by kernel_rfl) ((Below.refl _ _).drew) ?_
        dsimp only
        repeat (first
          | go_big_quiet_skip
          | (go_big_quiet_want
             apply Exists.intro
             refine ⟨fun W' hW' => ?_, ?_⟩
             · have hw : Below wr.heap.size wr W' := hW'
               obtain ⟨k0, -, -, -, -, -, -, -, -, -, cb⟩ := HCK.out W' (HB.out.trans (hw.mono HB.out.size))
               obtain ⟨q0, -⟩ := HQ.out W' (HBw.out.trans (hw.mono HBw.out.size))
               go_simp
               first
                 | done
                 | rfl
                 | (go_at_call 76; (with_reducible refine Calls.mono (HC2.out W') ?_); rintro e w'' ⟨rfl, hb⟩; exact ⟨rfl, hw.trans (hb.mono hw.size)⟩)
             go_big_quiet_on
             try simp only [Act.put, List.setIfInBounds_toArray, List.set_cons_zero, List.set_cons_succ]))
        refine wpQuiet_nil ?_
        intro w5 hb5
        have B5 : Hid (Below wr.heap.size wr w5) := hb5
        have HB5 : Hid (Below w3.heap.size w3 w5) := HB.out.trans (B5.out.mono hsz)
        have HBw5 : Hid (Below w.heap.size w w5) := HBw.out.trans (B5.out.mono HBw.out.size)
        have HO5 : Hid (w5.ownsRow w3.heap.size 80 10 u7 A.length (kCells A)) := own_belowE HO.out B5.out
        have hsz5 := HB5.out.size
        clear hb5 HC2 HO hsz
        obtain ⟨k0, k1, k2, k3, k4, k5, k6, k7, k8, k9, cb⟩ := HCK.out _ HB5.out
        obtain ⟨q0, q1, q2, q3, q4, q5, q6, q7, q8, q9⟩ := HQ.out w5 HBw5.out
        by_cases hzk : (k : Int) = z
        · have dz1 : decide ((k : Int) = z) = true := decide_eq_true hzk
          have dz2 : ((k : Int) == z) = true := by simp [hzk]
          rw [if_pos hzk] at hS2
          have HN : Hid (N (k + 1) = (true, A ++ [(⟨⟨⟨tn, tp, town, tall, tch, tnd, tlf, tsq⟩, ao, co, aa, ca, ac, cc⟩, s0, l0, aw, cw⟩ : KR)])) := hS2
          clear hS2
          go_wp2_with (at_builtin; go_loud (refine wpl_appE w5 rfl (.tmp 42) (.tmp 44) 25 80 rfl i0 _ 10 160 Tryz.underlying25 hi0 hz0 hz1 hz2 rfl (by decide) w3.heap.size u7 A.length _ rfl HO5.out (enK (⟨⟨⟨tn, tp, town, tall, tch, tnd, tlf, tsq⟩, ao, co, aa, ca, ac, cc⟩, s0, l0, aw, cw⟩ : KR)) rfl _ rfl rfl (one_kr _) (by omega) (by unfold maxLen; omega) (by omega) ?_); intro v6 w6 hown6 hb6)
          have HO6 : Hid (w6.ownsRow w3.heap.size 80 10 v6 (A ++ [(⟨⟨⟨tn, tp, town, tall, tch, tnd, tlf, tsq⟩, ao, co, aa, ca, ac, cc⟩, s0, l0, aw, cw⟩ : KR)]).length (kCells (A ++ [(⟨⟨⟨tn, tp, town, tall, tch, tnd, tlf, tsq⟩, ao, co, aa, ca, ac, cc⟩, s0, l0, aw, cw⟩ : KR)]))) := by
            show World.ownsRow _ _ _ _ _ _ _
            rw [kCells_snoc, List.length_append]
            exact hown6
          have H6 : Hid (Below w3.heap.size w3 w6) := HB5.out.trans hb6
          clear hown6 hb6
          clear k0 k1 k2 k3 k4 k5 k6 k7 k8 k9 cb q0 q1 q2 q3 q4 q5 q6 q7 q8 q9
          go_wp2
          go_roundw
          case rel => exact ⟨k + 1, by omega, (by first | (simp; done) | (simp; omega)), by rw [HN.out], by rw [HN.out]; exact HO6, H6⟩
          case measure => simp [intOf]; omega
        · have dz1 : decide ((k : Int) = z) = false := decide_eq_false hzk
          have dz2 : ((k : Int) == z) = false := by simp [hzk]
          rw [if_neg hzk] at hS2
          have HN : Hid (N (k + 1) = (true, A ++ [(⟨⟨⟨yn, yp, yown, yall, ych, ynd, ylf, ysq⟩, bo, do', ba, da, bc, dc⟩, ys, yl, bw, dw⟩ : KR)])) := hS2
          clear hS2
          go_wp2_with (at_builtin; go_loud (refine wpl_appE w5 rfl (.tmp 46) (.tmp 52) 25 80 rfl i0 _ 10 160 Tryz.underlying25 hi0 hz0 hz1 hz2 rfl (by decide) w3.heap.size u7 A.length _ rfl HO5.out (enK (⟨⟨⟨yn, yp, yown, yall, ych, ynd, ylf, ysq⟩, bo, do', ba, da, bc, dc⟩, ys, yl, bw, dw⟩ : KR)) rfl _ rfl rfl (one_kr _) (by omega) (by unfold maxLen; omega) (by omega) ?_); intro v6 w6 hown6 hb6)
          have HO6 : Hid (w6.ownsRow w3.heap.size 80 10 v6 (A ++ [(⟨⟨⟨yn, yp, yown, yall, ych, ynd, ylf, ysq⟩, bo, do', ba, da, bc, dc⟩, ys, yl, bw, dw⟩ : KR)]).length (kCells (A ++ [(⟨⟨⟨yn, yp, yown, yall, ych, ynd, ylf, ysq⟩, bo, do', ba, da, bc, dc⟩, ys, yl, bw, dw⟩ : KR)]))) := by
            show World.ownsRow _ _ _ _ _ _ _
            rw [kCells_snoc, List.length_append]
            exact hown6
          have H6 : Hid (Below w3.heap.size w3 w6) := HB5.out.trans hb6
          clear hown6 hb6
          clear k0 k1 k2 k3 k4 k5 k6 k7 k8 k9 cb q0 q1 q2 q3 q4 q5 q6 q7 q8 q9
          go_wp2
          go_roundw
          case rel => exact ⟨k + 1, by omega, (by first | (simp; done) | (simp; omega)), by rw [HN.out], by rw [HN.out]; exact HO6, H6⟩
          case measure => simp [intOf]; omega
    · have hk' : k = M.length := by omega
      have dk : decide ((k : Int) < (M.length : Int)) = false := by simp; omega
      have hEq := HEq.out
      have hLk := HLen.out k
      rw [← hk'] at hEq
      obtain ⟨P, A, hNk⟩ : ∃ P A, N k = (P, A) := ⟨_, _, rfl⟩
      rw [hNk] at hEq HO hLk
      rw [hNk]
      clear hNk HR HC HPut HSame HLen HNeg HEq hk'
      dsimp only at *
      cases P
      · have hEq2 : RES = (A ++ [(⟨⟨⟨tn, tp, town, tall, tch, tnd, tlf, tsq⟩, ao, co, aa, ca, ac, cc⟩, s0, l0, aw, cw⟩ : KR)]) := by simpa using hEq
        clear hEq
        go_wp2_with (at_builtin; go_loud (refine wpl_appE wr rfl (.tmp 56) (.tmp 58) 25 80 rfl i0 _ 10 160 Tryz.underlying25 hi0 hz0 hz1 hz2 rfl (by decide) w3.heap.size u7 A.length _ rfl HO.out (enK (⟨⟨⟨tn, tp, town, tall, tch, tnd, tlf, tsq⟩, ao, co, aa, ca, ac, cc⟩, s0, l0, aw, cw⟩ : KR)) rfl _ rfl rfl (one_kr _) (by omega) (by unfold maxLen; omega) (by omega) ?_); intro v6 w6 hown6 hb6; go_loud (have H6 : Hid (Below w3.heap.size w3 w6) := HB.out.trans hb6; have HO6 : w6.ownsRow w3.heap.size 80 10 v6 RES.length (kCells RES) := (by rw [hEq2, kCells_snoc, List.length_append]; exact hown6); clear hEq2 hown6 hb6; obtain ⟨xo, yo, rfl⟩ := (IsRow.own HO6).form; have hboxrw6 := C3.out _ H6.out; have crw6 : w6.cell? ⟨w.heap.size + 2, 0, none⟩ = some (.slice none 0 0) := (by rw [Lib.cell_of_heap hboxrw6]; rfl); have fzw6 : ∀ j, w6.frozen? ⟨w.heap.size + 2, j, none⟩ = false := fun j => Lib.frozen_of_heap hboxrw6 j; have HE : Hid (∀ u, KsP RES w (.returned (.agg #[.slice xo RES.length yo])) (w6.setCell ⟨w.heap.size + 2, 0, none⟩ u)) := fun u =>  ⟨xo, yo, rfl, row_far (IsRow.own HO6) (NewA.own HO6) (by rw [Hz.out]; omega) 0 _, (NewA.own HO6).le (by rw [Hz.out]; omega), (HBw0.out.trans (H6.out.mono HBw0.out.size)).setCell (p := ⟨w.heap.size + 2, 0, none⟩) (Nat.le_add_right _ 2) u⟩; clear hboxrw6 HO6))
        try simp only [Exit.inBlock, Exit.then]
        refine bodyPost_ret (v := .agg #[.slice xo RES.length yo]) ?_ rfl (HE.out _)
        rw [results_c1 rfl]; go_simp
      · have hEq2 : RES = A := by simpa using hEq
        subst hEq2
        have hown := HO.out
        obtain ⟨xo, yo, rfl⟩ := (IsRow.own hown).form
        have hboxrwr := C3.out _ HB.out
        have crwr : wr.cell? ⟨w.heap.size + 2, 0, none⟩ = some (.slice none 0 0) := by rw [Lib.cell_of_heap hboxrwr]; rfl
        have fzwr : ∀ j, wr.frozen? ⟨w.heap.size + 2, j, none⟩ = false := fun j => Lib.frozen_of_heap hboxrwr j
        have HE : Hid (∀ u, KsP RES w (.returned (.agg #[.slice xo RES.length yo])) (wr.setCell ⟨w.heap.size + 2, 0, none⟩ u)) := fun u =>
          ⟨xo, yo, rfl, row_far (IsRow.own hown) (NewA.own hown) (by rw [Hz.out]; omega) 0 _, (NewA.own hown).le (by rw [Hz.out]; omega), (HBw0.out.trans (HB.out.mono HBw0.out.size)).setCell (p := ⟨w.heap.size + 2, 0, none⟩) (Nat.le_add_right _ 2) u⟩
        clear hown hboxrwr HO hEq
        go_wp2_with fail
        try simp only [Exit.inBlock, Exit.then]
        refine bodyPost_ret (v := .agg #[.slice xo RES.length yo]) ?_ rfl (HE.out _)
        rw [results_c1 rfl]; go_simp
end Go.Proofs.YtlndgepoekllkaaGreatDoor
