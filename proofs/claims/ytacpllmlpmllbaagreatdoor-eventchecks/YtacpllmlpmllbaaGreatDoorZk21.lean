/- The reference's Alike, its Check: walks. -/
import Derived.Test.YtacpllmlpmllbaaGreatDoorZk20
import Derived.Test.YtacpllmlpmllbaaGreatDoorZk7
import Derived.Test.YtacpllmlpmllbaaGreatDoorZk4
import Derived.Test.YtacpllmlpmllbaaGreatDoorZk8
import Derived.Test.YtacpllmlpmllbaaGreatDoorZk9
import Derived.Lib.RuneCountTail
namespace Go.Proofs.YtacpllmlpmllbaaGreatDoor
open Go.RowKit Go.ChangeMaps

set_option maxRecDepth 100000 in
set_option maxHeartbeats 8000000 in
theorem refAlike6_any (a b c : Int) (k : ByteArray) (u : Value) (l : List At) (a' b' c' : Int) (k' : ByteArray) (u' : Value) (m : List At) (w : World) (hu : IsRow w 4 u l.length (aCells l)) (hv : IsRow w 4 u' m.length (aCells m)) (hl : l.length ≤ 1000000) (hm : m.length ≤ 1000000) (hn : ∀ x ∈ l, x.n.size ≤ 1000000) (hn' : ∀ x ∈ m, x.n.size ≤ 1000000) (hk : k.size ≤ 1000000) (hk' : k'.size ≤ 1000000) :
    Calls Tryz.prog 16 #[.agg (evA a b c k u), .agg (evA a' b' c' k' u')] w fun e w' => e = .returned (.bool (alkE k l k' m)) ∧ Below w.heap.size w w' := by
  obtain ⟨a0, c0, rfl⟩ := hu.form
  obtain ⟨a1, c1, rfl⟩ := hv.form
  have HSm : Hid (∀ W, Calls Tryz.prog 51 #[.string k, .string k'] W fun e w' => e = .returned (.bool (sameL k.data.toList k'.data.toList)) ∧ Below W.heap.size W w') := fun W => alike_any k k' W hk hk'
  have HSn : Hid (∀ (j : Nat) (h : j < l.length) (h2 : j < m.length) W, Calls Tryz.prog 51 #[.string l[j].n, .string m[j].n] W fun e w' => e = .returned (.bool (sameL l[j].n.data.toList m[j].n.data.toList)) ∧ Below W.heap.size W w') := fun j h h2 W => alike_any _ _ W (hn _ (List.getElem_mem h)) (hn' _ (List.getElem_mem h2))
  have HU : Hid (∀ W, Below w.heap.size w W → IsRow W 4 (.slice a0 l.length c0) l.length (aCells l)) := fun W h => hu.below h
  have HV : Hid (∀ W, Below w.heap.size w W → IsRow W 4 (.slice a1 m.length c1) m.length (aCells m)) := fun W h => hv.below h
  clear hu hv hn hn' hk hk'
  obtain ⟨S, HSd⟩ : ∃ S, Hid (alkE k l k' m = S) := ⟨_, rfl⟩
  rw [HSd.out]
  obtain ⟨E, HE⟩ : ∃ E, Hid (sameL k.data.toList k'.data.toList = E) := ⟨_, rfl⟩
  rw [HE.out] at HSm
  obtain ⟨w1, hw1⟩ : ∃ w1, w1 = w.alloc (.cells (evA a b c k (.slice a0 l.length c0)) 32) := ⟨_, rfl⟩
  have B1 : Hid (Below w.heap.size w w1) := by show Below _ _ _; rw [hw1]; exact al_b _ _
  have hn1 : w1.heap[w.heap.size]? = some (.cells (evA a b c k (.slice a0 l.length c0)) 32 (0, 0)) := by rw [hw1]; exact new_at _ _
  have C1 : Hid (∀ W, Below w1.heap.size w1 W → W.heap[w.heap.size]? = some (.cells (evA a b c k (.slice a0 l.length c0)) 32 (0, 0))) := fun W h => (h.block _ (Array.getElem?_eq_some_iff.1 hn1).1).trans hn1
  clear hn1
  obtain ⟨w2, hw2⟩ : ∃ w2, w2 = w1.alloc (.cells (evA a' b' c' k' (.slice a1 m.length c1)) 32) := ⟨_, rfl⟩
  have B2 : Hid (Below w1.heap.size w1 w2) := by show Below _ _ _; rw [hw2]; exact al_b _ _
  have hn2 : w2.heap[(w.heap.size + 1)]? = some (.cells (evA a' b' c' k' (.slice a1 m.length c1)) 32 (0, 0)) := by rw [hw2]; rw [show w.heap.size + 1 = w1.heap.size by (rw [hw1]; simp)]; exact new_at _ _
  have C2 : Hid (∀ W, Below w2.heap.size w2 W → W.heap[(w.heap.size + 1)]? = some (.cells (evA a' b' c' k' (.slice a1 m.length c1)) 32 (0, 0))) := fun W h => (h.block _ (Array.getElem?_eq_some_iff.1 hn2).1).trans hn2
  clear hn2
  have HBX : Hid (∀ W, Below w2.heap.size w2 W → W.cell? ⟨w.heap.size, 4, none⟩ = some (.slice a0 l.length c0) ∧ W.cell? ⟨w.heap.size + 1, 4, none⟩ = some (.slice a1 m.length c1)) := fun W h => ⟨by rw [Lib.cell_of_heap (C1.out W (bT B2.out h))]; rfl, by rw [Lib.cell_of_heap (C2.out W h)]; rfl⟩
  have hk := C1.out w2 B2.out
  have c1_3 : w2.cell? ⟨w.heap.size, 3, none⟩ = some (.string k) := by rw [Lib.cell_of_heap hk]; rfl
  clear hk
  have hk := C2.out w2 (Below.refl _ _)
  have c2_3 : w2.cell? ⟨(w.heap.size + 1), 3, none⟩ = some (.string k') := by rw [Lib.cell_of_heap hk]; rfl
  clear hk
  go_enter Tryz.func16, Tryz.ntmps16
  go_wp2_with fail
  rw [← hw1, ← hw2]
  clear hw1 hw2
  try go_wp2_with fail
  clear c1_3 c2_3
  refine (HSm.out _).mono ?_
  rintro e w3 ⟨rfl, hb⟩
  have B3 : Hid (Below w2.heap.size w2 w3) := hb
  clear hb 
  have HB3 : Hid (Below w2.heap.size w2 w3) := B3.out
  have HBw : Hid (∀ W, Below w2.heap.size w2 W → Below w.heap.size w W) := fun W h => bT (bT B1.out B2.out) h
  clear B1 B2 B3 C1 C2
  cases E
  · have HS0 : Hid (S = false) := by show _ = _; rw [← HSd.out]; unfold alkE; rw [HE.out]; rfl
    have HBz := HBw.out _ HB3.out
    have HBy : Hid (Below w.heap.size w w3) := HBz
    clear HBz
    go_wp2
    go_ret
    exact ⟨by rw [HS0.out]; rfl, HBy.out⟩
  have HS1 : Hid (alkA l m = S) := by show _ = _; rw [← HSd.out]; unfold alkE; rw [HE.out]; rfl
  clear HSd HE
  obtain ⟨x4, y4⟩ := HBX.out _ HB3.out
  by_cases hlm : l.length = m.length
  rotate_left
  · have HS0 : Hid (S = false) := by show _ = _; rw [← HS1.out]; unfold alkA; rw [decide_eq_false hlm, Bool.false_and]
    have d0 : ((l.length : Int) != (m.length : Int)) = true := by simp; omega
    have d1 : (l.length != m.length) = true := by simpa using hlm
    have HBz := HBw.out _ HB3.out
    have HBy : Hid (Below w.heap.size w w3) := HBz
    clear HBz hlm
    go_wp2
    go_ret
    exact ⟨by rw [HS0.out]; rfl, HBy.out⟩
  have d0 : ((l.length : Int) != (m.length : Int)) = false := by simp; omega
  have d1 : (l.length != m.length) = false := by simpa using hlm
  have HL : Hid (l.length = m.length) := hlm
  clear hlm
  go_wp2_with fail
  clear x4 y4 d0 d1
  go_loopw [4, 5] (fun r i wr => r = .bool false ∧ ∃ j : Nat, j ≤ l.length ∧ i = .int .i64 (j : Int) ∧ Hid (∀ (k : Nat) (h : k < l.length) (h2 : k < m.length), k < j → alkA1 l[k] m[k] = true) ∧ Hid (Below w2.heap.size w2 wr)) (fun _ i _ => l.length - (intOf i).toNat)
  case atStart => exact ⟨rfl, 0, by omega, rfl, (fun k h h2 hj => absurd hj (Nat.not_lt_zero _)), HB3⟩
  case round =>
    obtain ⟨rfl, j, hj, rfl, HO, HB⟩ := hrel
    obtain ⟨x4, y4⟩ := HBX.out _ HB.out
    by_cases hlk : j < l.length
    · have dj : decide ((j : Int) < (l.length : Int)) = true := by simp; omega
      have hlk2 : j < m.length := by have := HL.out; omega
      obtain ⟨b0, o0, rfl, hlt0, hcap0, hc0⟩ := a_at (HU.out wr (HBw.out _ HB.out)) (by omega)
      obtain ⟨b1, o1, rfl, hlt1, hcap1, hc1⟩ := a_at (HV.out wr (HBw.out _ HB.out)) (by omega)
      have HY : Hid (∀ W, Below wr.heap.size wr W → (W.cell? ⟨w.heap.size, 4, none⟩ = some (.slice (some ⟨b0, o0, none⟩) l.length c0) ∧ W.cell? ⟨w.heap.size + 1, 4, none⟩ = some (.slice (some ⟨b1, o1, none⟩) m.length c1)) ∧ (W.cell? ⟨b0, o0 + j * 4, none⟩ = some (.string l[j].n) ∧ W.cell? ⟨b0, o0 + j * 4 + 1, none⟩ = some (.int .i64 l[j].k) ∧ W.cell? ⟨b0, o0 + j * 4 + 2, none⟩ = some (.int .i64 l[j].v) ∧ W.cell? ⟨b0, o0 + j * 4 + 3, none⟩ = some (.string l[j].s)) ∧ (W.cell? ⟨b1, o1 + j * 4, none⟩ = some (.string m[j].n) ∧ W.cell? ⟨b1, o1 + j * 4 + 1, none⟩ = some (.int .i64 m[j].k) ∧ W.cell? ⟨b1, o1 + j * 4 + 2, none⟩ = some (.int .i64 m[j].v) ∧ W.cell? ⟨b1, o1 + j * 4 + 3, none⟩ = some (.string m[j].s))) := fun W h => by
        obtain ⟨p0, p1, p2, p3⟩ := hc0 j hlk
        obtain ⟨q0, q1, q2, q3⟩ := hc1 j hlk2
        exact ⟨HBX.out W (HB.out.trans (h.mono HB.out.size)), ⟨(h.cell (p := ⟨b0, _, none⟩) hlt0).trans p0, (h.cell (p := ⟨b0, _, none⟩) hlt0).trans p1, (h.cell (p := ⟨b0, _, none⟩) hlt0).trans p2, (h.cell (p := ⟨b0, _, none⟩) hlt0).trans p3⟩, (h.cell (p := ⟨b1, _, none⟩) hlt1).trans q0, (h.cell (p := ⟨b1, _, none⟩) hlt1).trans q1, (h.cell (p := ⟨b1, _, none⟩) hlt1).trans q2, (h.cell (p := ⟨b1, _, none⟩) hlt1).trans q3⟩
      have q1 : (0 : Int) ≤ (j : Int) := by omega
      have q2 : (j : Int) < (l.length : Int) := by omega
      have q3 : (j : Int) < (m.length : Int) := by omega
      have HO2 : Hid (alkA1 l[j] m[j] = true → ∀ (k : Nat) (h : k < l.length) (h2 : k < m.length), k < j + 1 → alkA1 l[k] m[k] = true) := fun hs k h h2 hk => by
        by_cases e : k = j
        · subst e; exact hs
        · exact HO.out k h h2 (by omega)
      have HN : Hid (alkA1 l[j] m[j] = false → S = false) := fun h => HS1.out.symm.trans (alkA_no hlk hlk2 h)
      have HSj := HSn.out j hlk hlk2
      generalize l[j]'hlk = x at *
      generalize m[j]'hlk2 = y at *
      obtain ⟨xn, xk, xv, xs⟩ := x
      obtain ⟨yn, yk, yv, ys⟩ := y
      dsimp only at *
      have hdf : alkA1 ⟨xn, xk, xv, xs⟩ ⟨yn, yk, yv, ys⟩ = (vlE ⟨xn, xk, xv, xs⟩ ⟨yn, yk, yv, ys⟩ && sameL xn.data.toList yn.data.toList) := rfl
      have HSk : Hid (∀ W, Calls Tryz.prog 51 #[.string xn, .string yn] W fun e w' => e = .returned (.bool (sameL xn.data.toList yn.data.toList)) ∧ Below W.heap.size W w') := HSj
      clear hc0 hc1 HO HSj HSn HSm
      cases hs : sameL xn.data.toList yn.data.toList
      · have HN2 : Hid (S = false) := HN.out (by rw [hdf, hs]; simp)
        rw [hs] at HSk
        clear hs hdf HN HO2
        go_wp2_with fail
        refine wp_region_quiet (C := fun w' => Below wr.heap.size wr w') (by kernel_rfl) (by kernel_rfl) ((Below.refl _ _).drew) ?_
        dsimp only
        repeat (first
          | go_big_quiet_skip
          | (go_big_quiet_want
             apply Exists.intro
             refine ⟨fun W' hW' => ?_, ?_⟩
             · have hw : Below wr.heap.size wr W' := hW'
               obtain ⟨⟨x4, y4⟩, ⟨g0, g1, g2, g3⟩, k0, k1, k2, k3⟩ := HY.out W' hw
               go_simp
               first
                 | done
                 | rfl
                 | (go_at_call 51; (with_reducible refine Calls.mono (HSk.out W') ?_); rintro e w'' ⟨rfl, hb⟩; exact ⟨rfl, hw.trans (hb.mono hw.size)⟩)
             go_big_quiet_on
             try simp only [Act.put, List.setIfInBounds_toArray, List.set_cons_zero, List.set_cons_succ]))
        refine wpQuiet_nil ?_
        intro w5 hqw2
        have H3 : Hid (Below w2.heap.size w2 w5) := HB.out.trans (hqw2.mono HB.out.size)
        have H2 : Hid (Below w.heap.size w w5) := HBw.out _ H3.out
        clear hqw2 HY x4 y4
        go_wp2
        go_ret
        exact ⟨by rw [HN2.out]; rfl, H2.out⟩
      rw [hs] at HSk
      cases hv : vlE ⟨xn, xk, xv, xs⟩ ⟨yn, yk, yv, ys⟩
      · have HN2 : Hid (S = false) := HN.out (by rw [hdf, hv]; rfl)
        have hne : ¬ (xk = yk ∧ xv = yv ∧ xs.toList = ys.toList) := fun h => by
          obtain ⟨rfl, rfl, h4⟩ := h
          rw [ByteArray.toList_eq, ByteArray.toList_eq] at h4
          obtain rfl : xs = ys := ba_eq h4
          unfold vlE at hv
          simp at hv
        have HEv : Hid (∀ W : World, (if xk = yk then if xv = yv then if xs.toList = ys.toList then Result.ok (Next.value (Value.bool false)) W else Result.ok (Next.value (Value.bool true)) W else Result.ok (Next.value (Value.bool true)) W else Result.ok (Next.value (Value.bool true)) W) = (Result.ok (Next.value (Value.bool true)) W : Result Next)) := fun W => by
          by_cases h2 : xk = yk
          · by_cases h3 : xv = yv
            · by_cases h4 : xs.toList = ys.toList
              · exact absurd ⟨h2, h3, h4⟩ hne
              · simp [h2, h3, h4]
            · simp [h2, h3]
          · simp [h2]
        clear hs hv hdf HN HO2 hne
        go_wp2_with fail
        refine wp_region_quiet (C := fun w' => Below wr.heap.size wr w') (by kernel_rfl) (by kernel_rfl) ((Below.refl _ _).drew) ?_
        dsimp only
        repeat (first
          | go_big_quiet_skip
          | (go_big_quiet_want
             apply Exists.intro
             refine ⟨fun W' hW' => ?_, ?_⟩
             · have hw : Below wr.heap.size wr W' := hW'
               obtain ⟨⟨x4, y4⟩, ⟨g0, g1, g2, g3⟩, k0, k1, k2, k3⟩ := HY.out W' hw
               go_simp
               first
                 | done
                 | rfl
                 | (go_at_call 51; (with_reducible refine Calls.mono (HSk.out W') ?_); rintro e w'' ⟨rfl, hb⟩; exact ⟨rfl, hw.trans (hb.mono hw.size)⟩)
             go_big_quiet_on
             try simp only [Act.put, List.setIfInBounds_toArray, List.set_cons_zero, List.set_cons_succ]))
        go_big_quiet_want
        refine ⟨.bool true, fun W' hW' => ?_, ?_⟩
        · have hw : Below wr.heap.size wr W' := hW'
          have := HEv.out W'
          go_simp
        go_big_quiet_on
        try simp only [Act.put, List.setIfInBounds_toArray, List.set_cons_zero, List.set_cons_succ]
        repeat (first
          | go_big_quiet_skip
          | (go_big_quiet_want
             apply Exists.intro
             refine ⟨fun W' hW' => ?_, ?_⟩
             · have hw : Below wr.heap.size wr W' := hW'
               obtain ⟨⟨x4, y4⟩, ⟨g0, g1, g2, g3⟩, k0, k1, k2, k3⟩ := HY.out W' hw
               go_simp
               first
                 | done
                 | rfl
                 | (go_at_call 51; (with_reducible refine Calls.mono (HSk.out W') ?_); rintro e w'' ⟨rfl, hb⟩; exact ⟨rfl, hw.trans (hb.mono hw.size)⟩)
             go_big_quiet_on
             try simp only [Act.put, List.setIfInBounds_toArray, List.set_cons_zero, List.set_cons_succ]))
        refine wpQuiet_nil ?_
        intro w5 hqw2
        have H3 : Hid (Below w2.heap.size w2 w5) := HB.out.trans (hqw2.mono HB.out.size)
        have H2 : Hid (Below w.heap.size w w5) := HBw.out _ H3.out
        clear hqw2 HY x4 y4
        go_wp2
        go_ret
        exact ⟨by rw [HN2.out]; rfl, H2.out⟩
      · have HO4 : Hid (∀ (k : Nat) (h : k < l.length) (h2 : k < m.length), k < j + 1 → alkA1 l[k] m[k] = true) := HO2.out (by rw [hdf, hv, hs]; rfl)
        have he : xk = yk ∧ xv = yv ∧ xs = ys := by unfold vlE at hv; simpa using hv
        obtain ⟨rfl, rfl, rfl⟩ := he
        clear hs hv hdf HN HO2
        go_wp2_with fail
        refine wp_region_quiet (C := fun w' => Below wr.heap.size wr w') (by kernel_rfl) (by kernel_rfl) ((Below.refl _ _).drew) ?_
        dsimp only
        repeat (first
          | go_big_quiet_skip
          | (go_big_quiet_want
             apply Exists.intro
             refine ⟨fun W' hW' => ?_, ?_⟩
             · have hw : Below wr.heap.size wr W' := hW'
               obtain ⟨⟨x4, y4⟩, ⟨g0, g1, g2, g3⟩, k0, k1, k2, k3⟩ := HY.out W' hw
               go_simp
               first
                 | done
                 | rfl
                 | (go_at_call 51; (with_reducible refine Calls.mono (HSk.out W') ?_); rintro e w'' ⟨rfl, hb⟩; exact ⟨rfl, hw.trans (hb.mono hw.size)⟩)
             go_big_quiet_on
             try simp only [Act.put, List.setIfInBounds_toArray, List.set_cons_zero, List.set_cons_succ]))
        refine wpQuiet_nil ?_
        intro w5 hqw2
        have H3 : Hid (Below w2.heap.size w2 w5) := HB.out.trans (hqw2.mono HB.out.size)
        have H2 : Hid (Below w.heap.size w w5) := HBw.out _ H3.out
        clear hqw2 HY x4 y4
        go_wp2
        go_roundw
        case rel => exact ⟨rfl, j + 1, by omega, by simp, HO4, H3⟩
        case measure => simp [intOf]; omega
    · have dj : decide ((j : Int) < (l.length : Int)) = false := by simp; omega
      have HY : Hid (S = true) := by
        show _ = _
        rw [← HS1.out]
        unfold alkA
        rw [decide_eq_true HL.out, decide_eq_true (fun k h h2 => HO.out k h h2 (by omega))]
        rfl
      have HBy : Hid (Below w.heap.size w wr) := HBw.out _ HB.out
      clear HO HSn
      go_wp2
      go_ret
      exact ⟨by rw [HY.out]; rfl, HBy.out⟩
set_option maxRecDepth 100000 in
set_option maxHeartbeats 2000000 in
theorem refCheck6_any (a b c : Int) (k : ByteArray) (u : Value) (l : List At) (w : World) (hr : IsRow w 4 u l.length (aCells l)) (hl : l.length ≤ 1000000) (hn : NmRA l) (hk : k.size ≤ 200000) :
    Calls Tryz.prog 12 #[.agg (evA a b c k u)] w fun e w' => e = .returned (.bool (chkE a b c k l)) ∧ Below w.heap.size w w' := by
  obtain ⟨au, cu, rfl⟩ := hr.form
  have HI : Hid (∀ W, Calls Tryz.prog 44 #[.agg #[.int .i64 a, .int .i64 b, .int .i64 c]] W fun e w' => e = .returned (.bool (idB a b c)) ∧ Below W.heap.size W w') := fun W => refID_any a b c W
  have HN : Hid (∀ W, Calls Tryz.prog 45 #[.string k] W fun e w' => e = .returned (.int .i64 (checkL k.data.toList)) ∧ Below W.heap.size W w') := fun W => refCheck_any k W (by omega)
  have HA : Hid (∀ W, Below w.heap.size w W → Calls Tryz.prog 46 #[.slice au l.length cu] W fun e w' => e = .returned (.bool (chkA l)) ∧ Below W.heap.size W w') := fun W h => refAttrsA_any _ l W (hr.below h) hl hn
  clear hr hn hk hl
  obtain ⟨S, HSd⟩ : ∃ S, Hid (chkE a b c k l = S) := ⟨_, rfl⟩
  rw [HSd.out]
  obtain ⟨I, HIe⟩ : ∃ I, Hid (idB a b c = I) := ⟨_, rfl⟩
  obtain ⟨C, HCe⟩ : ∃ C, Hid (checkL k.data.toList = C) := ⟨_, rfl⟩
  obtain ⟨A, HAe⟩ : ∃ A, Hid (chkA l = A) := ⟨_, rfl⟩
  rw [HIe.out] at HI
  rw [HCe.out] at HN
  rw [HAe.out] at HA
  obtain ⟨w1, hw1⟩ : ∃ w1, w1 = w.alloc (.cells (evA a b c k (.slice au l.length cu)) 32) := ⟨_, rfl⟩
  have B1 : Hid (Below w.heap.size w w1) := by show Below _ _ _; rw [hw1]; exact al_b _ _
  have hn1 : w1.heap[w.heap.size]? = some (.cells (evA a b c k (.slice au l.length cu)) 32 (0, 0)) := by rw [hw1]; exact new_at _ _
  have C1 : Hid (∀ W, Below w1.heap.size w1 W → W.heap[w.heap.size]? = some (.cells (evA a b c k (.slice au l.length cu)) 32 (0, 0))) := fun W h => (h.block _ (Array.getElem?_eq_some_iff.1 hn1).1).trans hn1
  clear hn1
  have hk := C1.out w1 (Below.refl _ _)
  have c1_0 : w1.cell? ⟨w.heap.size, 0, none⟩ = some (.int .i64 a) := by rw [Lib.cell_of_heap hk]; rfl
  have c1_1 : w1.cell? ⟨w.heap.size, 1, none⟩ = some (.int .i64 b) := by rw [Lib.cell_of_heap hk]; rfl
  have c1_2 : w1.cell? ⟨w.heap.size, 2, none⟩ = some (.int .i64 c) := by rw [Lib.cell_of_heap hk]; rfl
  have c1_3 : w1.cell? ⟨w.heap.size, 3, none⟩ = some (.string k) := by rw [Lib.cell_of_heap hk]; rfl
  have c1_4 : w1.cell? ⟨w.heap.size, 4, none⟩ = some (.slice au l.length cu) := by rw [Lib.cell_of_heap hk]; rfl
  clear hk
  go_enter Tryz.func12, Tryz.ntmps12
  go_wp2_with fail
  rw [← hw1]
  clear hw1
  try go_wp2_with fail
  clear c1_0 c1_1 c1_2 c1_3 c1_4
  refine (HI.out _).mono ?_
  rintro e w2 ⟨rfl, hb⟩
  have B2 : Hid (Below w1.heap.size w1 w2) := hb
  clear hb 
  cases I
  · have HS0 : Hid (S = false) := by show _ = _; rw [← HSd.out]; unfold chkE; rw [HIe.out]; rfl
    have HBz : Hid (Below w.heap.size w w2) := (bT B1.out B2.out)
    go_wp2
    go_ret
    exact ⟨by rw [HS0.out]; rfl, HBz.out⟩
  have hk := C1.out w2 B2.out
  have c1_0 : w2.cell? ⟨w.heap.size, 0, none⟩ = some (.int .i64 a) := by rw [Lib.cell_of_heap hk]; rfl
  have c1_1 : w2.cell? ⟨w.heap.size, 1, none⟩ = some (.int .i64 b) := by rw [Lib.cell_of_heap hk]; rfl
  have c1_2 : w2.cell? ⟨w.heap.size, 2, none⟩ = some (.int .i64 c) := by rw [Lib.cell_of_heap hk]; rfl
  have c1_3 : w2.cell? ⟨w.heap.size, 3, none⟩ = some (.string k) := by rw [Lib.cell_of_heap hk]; rfl
  have c1_4 : w2.cell? ⟨w.heap.size, 4, none⟩ = some (.slice au l.length cu) := by rw [Lib.cell_of_heap hk]; rfl
  clear hk
  go_wp2_with fail
  clear c1_0 c1_1 c1_2 c1_3 c1_4
  refine (HN.out _).mono ?_
  rintro e w3 ⟨rfl, hb⟩
  have B3 : Hid (Below w2.heap.size w2 w3) := hb
  clear hb 
  by_cases hC : C = 0
  rotate_left
  · have dC : (C == 0) = false := by simp [hC]
    have HS0 : Hid (S = false) := by show _ = _; rw [← HSd.out]; unfold chkE; rw [HIe.out, HCe.out]; simp [hC]
    have HBz : Hid (Below w.heap.size w w3) := (bT (bT B1.out B2.out) B3.out)
    go_wp2
    go_ret
    exact ⟨by rw [HS0.out]; rfl, HBz.out⟩
  subst hC
  have hk := C1.out w3 (bT B2.out B3.out)
  have c1_0 : w3.cell? ⟨w.heap.size, 0, none⟩ = some (.int .i64 a) := by rw [Lib.cell_of_heap hk]; rfl
  have c1_1 : w3.cell? ⟨w.heap.size, 1, none⟩ = some (.int .i64 b) := by rw [Lib.cell_of_heap hk]; rfl
  have c1_2 : w3.cell? ⟨w.heap.size, 2, none⟩ = some (.int .i64 c) := by rw [Lib.cell_of_heap hk]; rfl
  have c1_3 : w3.cell? ⟨w.heap.size, 3, none⟩ = some (.string k) := by rw [Lib.cell_of_heap hk]; rfl
  have c1_4 : w3.cell? ⟨w.heap.size, 4, none⟩ = some (.slice au l.length cu) := by rw [Lib.cell_of_heap hk]; rfl
  clear hk
  go_wp2_with fail
  clear c1_0 c1_1 c1_2 c1_3 c1_4
  refine (HA.out _ (bT (bT B1.out B2.out) B3.out)).mono ?_
  rintro e w4 ⟨rfl, hb⟩
  have B4 : Hid (Below w3.heap.size w3 w4) := hb
  clear hb 
  have HS0 : Hid (S = A) := by show _ = _; rw [← HSd.out]; unfold chkE; rw [HIe.out, HCe.out, HAe.out]; rfl
  have HBz : Hid (Below w.heap.size w w4) := (bT (bT (bT B1.out B2.out) B3.out) B4.out)
  go_wp2
  go_ret
  exact ⟨by rw [HS0.out]; rfl, HBz.out⟩
end Go.Proofs.YtacpllmlpmllbaaGreatDoor
/- Attributes that are sorted: plain mathematics. -/
namespace Go.Proofs.YtacpllmlpmllbaaGreatDoor
open Go.RowKit

theorem chkA_mayA {l : List At} (h : chkA l = true) : ∀ x ∈ l, mayA x = true := by
  unfold chkA at h
  simp only [Bool.and_eq_true, decide_eq_true_eq] at h
  intro x hx
  obtain ⟨i, hi, rfl⟩ := List.mem_iff_getElem.1 hx
  exact (h.2 i hi).1
end Go.Proofs.YtacpllmlpmllbaaGreatDoor
/- The reference's Bytes of a rune: its walk (as with names). -/
namespace Go.Proofs.YtacpllmlpmllbaaGreatDoor.V
open Go.RowKit

theorem cvb1 (w : World) (a : Int) : (convert 92 9 (.slice (some ⟨w.heap.size, 0, none⟩) 1 1)).run Tryz.prog (w.alloc (.cells #[.int .u8 a] 5)) = .ok (.string (strOfNums [a])) (w.alloc (.cells #[.int .u8 a] 5)) :=
  run_convert_bytes_arg (P := Tryz.prog) (w.alloc (.cells #[.int .u8 a] 5)) 92 5 Tryz.underlying92 Tryz.underlying5 w.heap.size 0 1 1 [a] rfl (fun i hi => by
    match i, hi with
    | 0, _ => simp) 9 Tryz.underlying9
theorem cvb2 (w : World) (a b : Int) : (convert 92 9 (.slice (some ⟨w.heap.size, 0, none⟩) 2 2)).run Tryz.prog (w.alloc (.cells #[.int .u8 a, .int .u8 b] 5)) = .ok (.string (strOfNums [a, b])) (w.alloc (.cells #[.int .u8 a, .int .u8 b] 5)) :=
  run_convert_bytes_arg (P := Tryz.prog) (w.alloc (.cells #[.int .u8 a, .int .u8 b] 5)) 92 5 Tryz.underlying92 Tryz.underlying5 w.heap.size 0 2 2 [a, b] rfl (fun i hi => by
    match i, hi with
    | 0, _ => simp
    | 1, _ => simp) 9 Tryz.underlying9
theorem cvb3 (w : World) (a b c : Int) : (convert 92 9 (.slice (some ⟨w.heap.size, 0, none⟩) 3 3)).run Tryz.prog (w.alloc (.cells #[.int .u8 a, .int .u8 b, .int .u8 c] 5)) = .ok (.string (strOfNums [a, b, c])) (w.alloc (.cells #[.int .u8 a, .int .u8 b, .int .u8 c] 5)) :=
  run_convert_bytes_arg (P := Tryz.prog) (w.alloc (.cells #[.int .u8 a, .int .u8 b, .int .u8 c] 5)) 92 5 Tryz.underlying92 Tryz.underlying5 w.heap.size 0 3 3 [a, b, c] rfl (fun i hi => by
    match i, hi with
    | 0, _ => simp
    | 1, _ => simp
    | 2, _ => simp) 9 Tryz.underlying9
theorem cvb4 (w : World) (a b c d : Int) : (convert 92 9 (.slice (some ⟨w.heap.size, 0, none⟩) 4 4)).run Tryz.prog (w.alloc (.cells #[.int .u8 a, .int .u8 b, .int .u8 c, .int .u8 d] 5)) = .ok (.string (strOfNums [a, b, c, d])) (w.alloc (.cells #[.int .u8 a, .int .u8 b, .int .u8 c, .int .u8 d] 5)) :=
  run_convert_bytes_arg (P := Tryz.prog) (w.alloc (.cells #[.int .u8 a, .int .u8 b, .int .u8 c, .int .u8 d] 5)) 92 5 Tryz.underlying92 Tryz.underlying5 w.heap.size 0 4 4 [a, b, c, d] rfl (fun i hi => by
    match i, hi with
    | 0, _ => simp
    | 1, _ => simp
    | 2, _ => simp
    | 3, _ => simp) 9 Tryz.underlying9

theorem str_nums (l : List Nat) (xs : List Int) (h : xs = l.map fun (x : Nat) => (x : Int)) : strOfNums xs = str (l.map UInt8.ofNat) := by
  subst h
  unfold strOfNums str
  congr 2
  rw [List.map_map]
  rfl

set_option maxRecDepth 100000 in
set_option maxHeartbeats 2000000 in
theorem refBytes_any (c : Nat) (w : World) (h : scal c) :
    Calls Tryz.prog 141 #[.int .i64 (c : Int)] w fun e w' => e = .returned (.string (str (enc c))) ∧ Below w.heap.size w w' := by
  have hc : c ≤ 1114111 := by unfold scal at h; omega
  by_cases h1 : c < 128
  · have d1 : (c : Int) < 128 := by omega
    have HE : Hid (strOfNums [(c : Int)] = str (enc c)) := by
      show _ = _
      rw [enc1 h1]
      exact str_nums [c] _ rfl
    go_enter Tryz.func141, Tryz.ntmps141
    go_wp2
    rw [cvb1]
    go_wp2
    go_ret
    exact ⟨by rw [← HE.out]; rfl, (Below.refl _ _).alloc (Nat.le_refl _) _⟩
  have d1 : decide ((c : Int) < 128) = false := by simp; omega
  by_cases h2 : c < 2048
  · have d2 : (c : Int) < 2048 := by omega
    have HE : Hid (strOfNums [192 + (c : Int) / 64, 128 + (c : Int) % 64] = str (enc c)) := by
      show _ = _
      rw [enc2 (by omega) h2]
      exact str_nums [192 + c / 64, 128 + c % 64] _ (by simp)
    go_enter Tryz.func141, Tryz.ntmps141
    go_wp2
    rw [cvb2]
    go_wp2
    go_ret
    exact ⟨by rw [← HE.out]; rfl, (Below.refl _ _).alloc (Nat.le_refl _) _⟩
  have d2 : decide ((c : Int) < 2048) = false := by simp; omega
  by_cases h3 : c < 65536
  · have d3 : (c : Int) < 65536 := by omega
    have HE : Hid (strOfNums [224 + (c : Int) / 4096, 128 + (c : Int) / 64 % 64, 128 + (c : Int) % 64] = str (enc c)) := by
      show _ = _
      rw [enc3 (by omega) h3 h]
      exact str_nums [224 + c / 4096, 128 + c / 64 % 64, 128 + c % 64] _ (by simp)
    go_enter Tryz.func141, Tryz.ntmps141
    go_wp2
    rw [cvb3]
    go_wp2
    go_ret
    exact ⟨by rw [← HE.out]; rfl, (Below.refl _ _).alloc (Nat.le_refl _) _⟩
  · have d3 : decide ((c : Int) < 65536) = false := by simp; omega
    have HE : Hid (strOfNums [240 + (c : Int) / 262144, 128 + (c : Int) / 4096 % 64, 128 + (c : Int) / 64 % 64, 128 + (c : Int) % 64] = str (enc c)) := by
      show _ = _
      rw [enc4 (by omega) h]
      exact str_nums [240 + c / 262144, 128 + c / 4096 % 64, 128 + c / 64 % 64, 128 + c % 64] _ (by simp)
    go_enter Tryz.func141, Tryz.ntmps141
    go_wp2
    rw [cvb4]
    go_wp2
    go_ret
    exact ⟨by rw [← HE.out]; rfl, (Below.refl _ _).alloc (Nat.le_refl _) _⟩

end Go.Proofs.YtacpllmlpmllbaaGreatDoor.V
/- The reference's Valid and its Check of a value: walks. -/
namespace Go.Proofs.YtacpllmlpmllbaaGreatDoor.V
open Go.RowKit Go.Lib

theorem ext_list (s : ByteArray) (pos : Nat) : (s.extract pos s.size).data.toList = s.data.toList.drop pos := by
  rw [extract_data]
  apply List.take_of_length_le
  rw [List.length_drop, Array.length_toList]
  exact Nat.le_refl _
theorem fst_at (s : ByteArray) (pos : Nat) (h : pos < s.size) : fst (s.extract pos s.size) = if (Utf8.decode s pos).1 = 65533 ∧ (Utf8.decode s pos).2 = 1 then (0, 0) else Utf8.decode s pos := by
  have e : Utf8.decode (s.extract pos s.size) 0 = Utf8.decode s pos := by
    rw [← decodeL_drop, ← decodeL_drop, List.drop_zero, ext_list]
  have hz : ¬ (s.extract pos s.size).size = 0 := by rw [tail_size]; omega
  unfold fst
  rw [e]
  simp only [hz, false_or]
theorem drop_ne (s : ByteArray) (pos : Nat) (h : pos < s.size) : s.data.toList.drop pos ≠ [] := by
  intro e
  have := congrArg List.length e
  rw [List.length_drop, Array.length_toList] at this
  have e2 : s.data.size = s.size := rfl
  simp at this
  omega
theorem valid_at (s : ByteArray) (pos : Nat) (h : pos < s.size) : validD (s.data.toList.drop pos) = if (Utf8.decode s pos).1 = 65533 ∧ (Utf8.decode s pos).2 = 1 then false else validD (s.data.toList.drop (pos + (Utf8.decode s pos).2)) := by
  rw [validD_step _ (drop_ne s pos h), decodeL_drop, List.drop_drop]
theorem width_le (s : ByteArray) (pos : Nat) (h : pos < s.size) : pos + (Utf8.decode s pos).2 ≤ s.size := by
  have h1 := decodeL_le _ (drop_ne s pos h)
  rw [decodeL_drop, List.length_drop, Array.length_toList] at h1
  have e2 : s.data.size = s.size := rfl
  omega
theorem slice_ok (s : ByteArray) (pos : Nat) : (s.extract pos s.size).size ≤ s.size := by rw [tail_size]; omega

set_option maxRecDepth 100000 in
set_option maxHeartbeats 2000000 in
theorem refValid_any (s : ByteArray) (w : World) (hs : s.size ≤ 140737488355328) :
    Calls Tryz.prog 90 #[.string s] w fun e w' => e = .returned (.bool (validD s.data.toList)) ∧ Below w.heap.size w w' := by
  obtain ⟨V, HV⟩ : ∃ V, Hid (validD s.data.toList = V) := ⟨_, rfl⟩
  rw [HV.out]
  go_enter Tryz.func90, Tryz.ntmps90
  go_wp2
  go_loopw [3] (fun i wr => ∃ pos : Nat, pos ≤ s.size ∧ i = .int .i64 pos ∧ Hid (validD (s.data.toList.drop pos) = V) ∧ Below w.heap.size w wr) (fun i _ => s.size - (RowKit.intOf i).toNat)
  case atStart => exact ⟨0, Nat.zero_le _, rfl, HV, Below.refl _ _⟩
  case round =>
    obtain ⟨pos, hp, rfl, hv, hb⟩ := hrel
    by_cases hlt : pos < s.size
    · have hi : (pos : Int) < s.size := by omega
      have hsl := slice_ok s pos
      have hwl := width_le s pos hlt
      have hw1 := width_pos s pos
      have hfa := fst_at s pos hlt
      have hva : Hid _ := valid_at s pos hlt
      have hbs := hb.size
      by_cases hbad : (Utf8.decode s pos).1 = 65533 ∧ (Utf8.decode s pos).2 = 1
      · rw [if_pos hbad] at hfa
        have HR : Hid (false = V) := by show _ = _; rw [← hv.out, hva.out, if_pos hbad]
        clear hva hbad hwl hw1
        go_wp2_with fail
        refine (first_any _ _ (by omega)).mono ?_
        rintro e w1 ⟨rfl, hb1⟩
        rw [hfa]
        have hb2 : Hid (Below w.heap.size w w1) := hb.trans (hb1.mono hb.size)
        have hs1 := hb1.size
        clear hb1 hfa
        go_wp2
        go_ret
        exact ⟨by rw [← HR.out]; rfl, hb2.out.alloc (by omega) _⟩
      · rw [if_neg hbad] at hfa
        have HR : Hid (validD (s.data.toList.drop (pos + (Utf8.decode s pos).2)) = V) := by show _ = _; rw [← hv.out, hva.out, if_neg hbad]
        clear hva hbad
        generalize (Utf8.decode s pos) = dc at *
        obtain ⟨c, d⟩ := dc
        simp only at hwl hw1 HR
        have hd0 : ((d : Int) == 0) = false := by rw [beq_eq_false_iff_ne]; omega
        go_wp2_with fail
        refine (first_any _ _ (by omega)).mono ?_
        rintro e w1 ⟨rfl, hb1⟩
        rw [show (fst (s.extract pos s.size)).1 = c by rw [hfa], show (fst (s.extract pos s.size)).2 = d by rw [hfa]]
        have hb2 : Hid (Below w.heap.size w w1) := hb.trans (hb1.mono hb.size)
        have hs1 := hb1.size
        clear hb1 hfa
        go_wp2
        go_roundw
        case rel => exact ⟨pos + d, hwl, by go_num, HR, hb2.out.alloc (by omega) _⟩
        case measure => simp [RowKit.intOf]; omega
    · have HR : Hid (true = V) := by
        show _ = _
        rw [← hv.out, List.drop_of_length_le (by rw [Array.length_toList]; exact Nat.le_of_not_lt hlt)]
        rfl
      have hp' : pos = s.size := by omega
      subst hp'
      go_wp2
      go_ret
      exact ⟨by rw [← HR.out]; rfl, hb⟩

set_option maxRecDepth 100000 in
set_option maxHeartbeats 2000000 in
theorem refCheck_any (k n : Int) (s : ByteArray) (w : World) (hs : s.size ≤ 140737488355328) :
    Calls Tryz.prog 67 #[vv k n s] w fun e w' => e = .returned (.bool (chkV k n s)) ∧ Below w.heap.size w w' := by
  obtain ⟨C, HC⟩ : ∃ C, Hid (chkV k n s = C) := ⟨_, rfl⟩
  rw [HC.out]
  have hb1 : Below w.heap.size w (w.alloc (.cells #[.int .i64 k, .int .i64 n, .string s] 88)) := (Below.refl _ _).alloc (Nat.le_refl _) _
  by_cases e1 : k = 1
  · subst e1
    have hc := HC.out
    simp only [chkV, if_true] at hc
    by_cases ha : -9007199254740991 ≤ n
    · have ha' : decide (-9007199254740991 ≤ n) = true := by simpa using ha
      by_cases hb : n ≤ 9007199254740991
      · have hb' : decide (n ≤ 9007199254740991) = true := by simpa using hb
        by_cases h0 : s.size = 0
        · have he := empty_is s h0
          have HR : Hid (true = C) := by show _ = _; rw [← hc, h0]; simp [ha, hb]
          clear hc HC
          go_enter Tryz.func67, Tryz.ntmps67
          go_wp2
          go_ret
          exact ⟨by rw [← HR.out]; rfl, hb1⟩
        · have he := empty_not s h0
          have HR : Hid (false = C) := by show _ = _; rw [← hc]; simp [h0]
          clear hc HC
          go_enter Tryz.func67, Tryz.ntmps67
          go_wp2
          go_ret
          exact ⟨by rw [← HR.out]; rfl, hb1⟩
      · have hb' : decide (n ≤ 9007199254740991) = false := by simpa using hb
        have HR : Hid (false = C) := by show _ = _; rw [← hc]; simp [hb]
        clear hc HC
        go_enter Tryz.func67, Tryz.ntmps67
        go_wp2
        go_ret
        exact ⟨by rw [← HR.out]; rfl, hb1⟩
    · have ha' : decide (-9007199254740991 ≤ n) = false := by simpa using ha
      have HR : Hid (false = C) := by show _ = _; rw [← hc]; simp [ha]
      clear hc HC
      go_enter Tryz.func67, Tryz.ntmps67
      go_wp2
      go_ret
      exact ⟨by rw [← HR.out]; rfl, hb1⟩
  have f1 : (k == 1) = false := by rw [beq_eq_false_iff_ne]; exact e1
  by_cases e2 : k = 2
  · subst e2
    have hc := HC.out
    simp only [chkV, e1, if_false, if_true] at hc
    by_cases h0 : n = 0
    · subst h0
      by_cases h2 : s.size ≤ 200
      · have h2' : decide ((s.size : Int) ≤ 200) = true := by simp; omega
        have HR : Hid (Lib.validD s.data.toList = C) := by show _ = _; rw [← hc]; simp [h2]
        clear hc HC e1
        go_enter Tryz.func67, Tryz.ntmps67
        go_wp2_with fail
        refine (refValid_any s _ (by omega)).mono ?_
        rintro e w1 ⟨rfl, hb2⟩
        rw [HR.out]
        have hb3 : Hid (Below w.heap.size w w1) := hb1.trans (hb2.mono hb1.size)
        clear hb1 hb2
        go_wp2
        go_ret
        exact ⟨rfl, hb3.out⟩
      · have h2' : decide ((s.size : Int) ≤ 200) = false := by simp; omega
        have HR : Hid (false = C) := by show _ = _; rw [← hc]; simp [h2]
        clear hc HC e1
        go_enter Tryz.func67, Tryz.ntmps67
        go_wp2
        go_ret
        exact ⟨by rw [← HR.out]; rfl, hb1⟩
    · have h0' : (n == 0) = false := by rw [beq_eq_false_iff_ne]; exact h0
      have HR : Hid (false = C) := by show _ = _; rw [← hc]; simp [h0]
      clear hc HC e1
      go_enter Tryz.func67, Tryz.ntmps67
      go_wp2
      go_ret
      exact ⟨by rw [← HR.out]; rfl, hb1⟩
  have f2 : (k == 2) = false := by rw [beq_eq_false_iff_ne]; exact e2
  by_cases e3 : k = 3
  · subst e3
    have hc := HC.out
    simp only [chkV, e1, e2, if_false, if_true] at hc
    by_cases hn : n = 0
    · subst hn
      by_cases h0 : s.size = 0
      · have he := empty_is s h0
        have HR : Hid (true = C) := by show _ = _; rw [← hc, h0]; simp
        clear hc HC e1 e2
        go_enter Tryz.func67, Tryz.ntmps67
        go_wp2
        go_ret
        exact ⟨by rw [← HR.out]; rfl, hb1⟩
      · have he := empty_not s h0
        have HR : Hid (false = C) := by show _ = _; rw [← hc]; simp [h0]
        clear hc HC e1 e2
        go_enter Tryz.func67, Tryz.ntmps67
        go_wp2
        go_ret
        exact ⟨by rw [← HR.out]; rfl, hb1⟩
    · have hn' : (n == 0) = false := by rw [beq_eq_false_iff_ne]; exact hn
      by_cases h1 : n = 1
      · subst h1
        by_cases h0 : s.size = 0
        · have he := empty_is s h0
          have HR : Hid (true = C) := by show _ = _; rw [← hc, h0]; simp
          clear hc HC e1 e2
          go_enter Tryz.func67, Tryz.ntmps67
          go_wp2
          go_ret
          exact ⟨by rw [← HR.out]; rfl, hb1⟩
        · have he := empty_not s h0
          have HR : Hid (false = C) := by show _ = _; rw [← hc]; simp [h0]
          clear hc HC e1 e2
          go_enter Tryz.func67, Tryz.ntmps67
          go_wp2
          go_ret
          exact ⟨by rw [← HR.out]; rfl, hb1⟩
      · have h1' : (n == 1) = false := by rw [beq_eq_false_iff_ne]; exact h1
        have HR : Hid (false = C) := by show _ = _; rw [← hc]; simp [hn, h1]
        clear hc HC e1 e2
        go_enter Tryz.func67, Tryz.ntmps67
        go_wp2
        go_ret
        exact ⟨by rw [← HR.out]; rfl, hb1⟩
  have f3 : (k == 3) = false := by rw [beq_eq_false_iff_ne]; exact e3
  by_cases e4 : k = 4
  · subst e4
    have hc := HC.out
    simp only [chkV, e1, e2, e3, if_false, if_true] at hc
    by_cases h0 : n = 0
    · subst h0
      have HR : Hid (decide (s.size ≤ 200) = C) := by show _ = _; rw [← hc]; simp
      have HQ : Hid (decide ((s.size : Int) ≤ 200) = decide (s.size ≤ 200)) := by show _ = _; rw [Bool.eq_iff_iff]; simp; omega
      clear hc HC e1 e2 e3
      go_enter Tryz.func67, Tryz.ntmps67
      go_wp2
      go_ret
      exact ⟨by rw [← HR.out]; first | rfl | (rw [← HQ.out]; rfl), hb1⟩
    · have h0' : (n == 0) = false := by rw [beq_eq_false_iff_ne]; exact h0
      have HR : Hid (false = C) := by show _ = _; rw [← hc]; simp [h0]
      clear hc HC e1 e2 e3
      go_enter Tryz.func67, Tryz.ntmps67
      go_wp2
      go_ret
      exact ⟨by rw [← HR.out]; rfl, hb1⟩
  have f4 : (k == 4) = false := by rw [beq_eq_false_iff_ne]; exact e4
  have HR : Hid (false = C) := by show _ = _; rw [← HC.out, chkV, if_neg e1, if_neg e2, if_neg e3, if_neg e4]
  clear HC e1 e2 e3 e4
  go_enter Tryz.func67, Tryz.ntmps67
  go_wp2
  go_ret
  exact ⟨by rw [← HR.out]; rfl, hb1⟩

end Go.Proofs.YtacpllmlpmllbaaGreatDoor.V
