/- The reference's Same: its walk. -/
import Derived.Test.YtbekpemidpngaaaGreatDoorZk31
namespace Go.Proofs.YtbekpemidpngaaaGreatDoor
open Go.RowKit Go.ChangeMaps

set_option maxRecDepth 100000 in
set_option maxHeartbeats 8000000 in
theorem refSame8_any (u v : Value) (F G : List PR) (D E : List Pd) (w : World) (hu : IsFl w u F) (hv : IsFl w v G) (hF : F.map (·.y) = D) (hG : G.map (·.y) = E) (hl : F.length ≤ 1000000) (_hm : G.length ≤ 1000000) (hn : ∀ y ∈ D, y.l.length ≤ 1000000) (hn' : ∀ y ∈ E, y.l.length ≤ 1000000) :
    Calls Tryz.prog 17 #[u, v] w fun e w' => e = .returned (.bool (samD D E)) ∧ Below w.heap.size w w' := by
  obtain ⟨a0, c0, rfl⟩ := hu.1.form
  obtain ⟨a1, c1, rfl⟩ := hv.1.form
  have hDl : D.length = F.length := by rw [← hF, List.length_map]
  have hEl : E.length = G.length := by rw [← hG, List.length_map]
  by_cases hlm : F.length = G.length
  rotate_left
  · have e0 : samD D E = false := samD_no fun e => hlm (by rw [← hDl, ← hEl, e])
    have d0 : ((F.length : Int) != (G.length : Int)) = true := by simp; omega
    have d1 : (F.length != G.length) = true := by simpa using hlm
    rw [e0]
    clear hu hv e0 hF hG hn hn' hDl hEl
    go_enter Tryz.func17, Tryz.ntmps17
    go_wp2
    go_ret
    exact ⟨rfl, Below.refl _ _⟩
  have d0 : ((F.length : Int) != (G.length : Int)) = false := by simp; omega
  have d1 : (F.length != G.length) = false := by simpa using hlm
  have HL : Hid (F.length = G.length) := hlm
  have HU : Hid (IsFl w (.slice a0 F.length c0) F) := hu
  have HV : Hid (IsFl w (.slice a1 G.length c1) G) := hv
  have HLa : Hid (∀ x ∈ F, x.y.l.length ≤ 1000000) := fun x hx => hn _ (by rw [← hF]; exact List.mem_map.2 ⟨x, hx, rfl⟩)
  have HLb : Hid (∀ x ∈ G, x.y.l.length ≤ 1000000) := fun x hx => hn' _ (by rw [← hG]; exact List.mem_map.2 ⟨x, hx, rfl⟩)
  have HNo : Hid (∀ j (h : j < F.length) (h2 : j < G.length), ¬ F[j].y = G[j].y → samD D E = false) := fun j h h2 hne => samD_no fun e => by
    have e2 : (F.map (·.y))[j]'(by rw [List.length_map]; exact h) = (G.map (·.y))[j]'(by rw [List.length_map]; exact h2) := by simp only [hF, hG, e]
    exact hne (by simpa using e2)
  have HYes : Hid ((∀ j (h : j < F.length) (h2 : j < G.length), F[j].y = G[j].y) → samD D E = true) := fun h => samD_iff.2 (by
    rw [← hF, ← hG]
    refine List.ext_getElem (by rw [List.length_map, List.length_map]; exact hlm) fun k h1 h2 => ?_
    rw [List.getElem_map, List.getElem_map]
    exact h k (by rw [List.length_map] at h1; exact h1) (by rw [List.length_map] at h2; exact h2))
  clear hu hv hF hG hn hn' hDl hEl hlm
  generalize samD D E = S at *
  go_enter Tryz.func17, Tryz.ntmps17
  go_wp2_with fail
  go_loopw [5] (fun i wr => ∃ j : Nat, j ≤ F.length ∧ i = .int .i64 (j : Int) ∧ Hid (∀ (k : Nat) (h : k < F.length) (h2 : k < G.length), k < j → F[k].y = G[k].y) ∧ Hid (Below w.heap.size w wr)) (fun i _ => F.length - (intOf i).toNat)
  case atStart => exact ⟨0, by omega, rfl, (fun k h h2 hj => absurd hj (Nat.not_lt_zero _)), Below.refl _ _⟩
  case round =>
    obtain ⟨j, hj, rfl, HO, HB⟩ := hrel
    by_cases hlk0 : j < F.length
    · have dj : decide ((j : Int) < (F.length : Int)) = true := by simp; omega
      have hlk1 : j < G.length := by have := HL.out; omega
      obtain ⟨b0, o0, rfl, hlt0, p00, p01, p02⟩ := p_at HU.out.1 j hlk0
      have HY0 : Hid (∀ W, Below w.heap.size w W → W.cell? ⟨b0, o0 + j * 3, none⟩ = some (.string F[j].y.n) ∧ W.cell? ⟨b0, o0 + j * 3 + 1, none⟩ = some (.int .i64 F[j].y.o) ∧ W.cell? ⟨b0, o0 + j * 3 + 2, none⟩ = some F[j].v) := fun W h => ⟨(h.cell (p := ⟨b0, _, none⟩) hlt0).trans p00, (h.cell (p := ⟨b0, _, none⟩) hlt0).trans p01, (h.cell (p := ⟨b0, _, none⟩) hlt0).trans p02⟩
      clear hlt0 p00 p01 p02
      obtain ⟨b1, o1, rfl, hlt1, p10, p11, p12⟩ := p_at HV.out.1 j hlk1
      have HY1 : Hid (∀ W, Below w.heap.size w W → W.cell? ⟨b1, o1 + j * 3, none⟩ = some (.string G[j].y.n) ∧ W.cell? ⟨b1, o1 + j * 3 + 1, none⟩ = some (.int .i64 G[j].y.o) ∧ W.cell? ⟨b1, o1 + j * 3 + 2, none⟩ = some G[j].v) := fun W h => ⟨(h.cell (p := ⟨b1, _, none⟩) hlt1).trans p10, (h.cell (p := ⟨b1, _, none⟩) hlt1).trans p11, (h.cell (p := ⟨b1, _, none⟩) hlt1).trans p12⟩
      clear hlt1 p10 p11 p12
      have q1 : (0 : Int) ≤ (j : Int) := by omega
      have q2 : (j : Int) < (F.length : Int) := by omega
      have q3 : (j : Int) < (G.length : Int) := by omega
      have HR0 : Hid (∀ W, Below w.heap.size w W → IsRow W 3 F[j].v F[j].y.l.length (itCells F[j].y.l)) := fun W hb => (HU.out.2 _ (List.getElem_mem hlk0)).below hb
      have HR1 : Hid (∀ W, Below w.heap.size w W → IsRow W 3 G[j].v G[j].y.l.length (itCells G[j].y.l)) := fun W hb => (HV.out.2 _ (List.getElem_mem hlk1)).below hb
      have HLj : Hid (F[j].y.l.length ≤ 1000000) := HLa.out _ (List.getElem_mem hlk0)
      have HO2 : Hid (F[j].y = G[j].y → ∀ (k : Nat) (h : k < F.length) (h2 : k < G.length), k < j + 1 → F[k].y = G[k].y) := fun hs k h h2 hk => by
        by_cases e : k = j
        · subst e; exact hs
        · exact HO.out k h h2 (by omega)
      have HN : Hid (¬ F[j].y = G[j].y → S = false) := fun h => HNo.out j hlk0 hlk1 h
      clear HO HNo HYes HU HV HLa HLb
      generalize F[j]'hlk0 = x at *
      generalize G[j]'hlk1 = y at *
      obtain ⟨⟨n, o, l⟩, a, c⟩ := x
      obtain ⟨⟨n', o', l'⟩, a', c'⟩ := y
      dsimp only [prV, PR.v] at HY0 HY1 HR0 HR1 HLj HN HO2
      have hLj := HLj.out
      by_cases hn : n = n'
      rotate_left
      · have HZ : Hid (S = false) := HN.out fun e => hn (by injection e)
        have d : (n.toList != n'.toList) = true := by
          rw [bne_iff_ne]
          intro h
          rw [ByteArray.toList_eq, ByteArray.toList_eq] at h
          exact hn (ba_f h)
        have d0 : (n.toList == n'.toList) = false := by
          rw [beq_eq_false_iff_ne]
          intro h
          rw [ByteArray.toList_eq, ByteArray.toList_eq] at h
          exact hn (ba_f h)
        have d2 : ¬ n.toList = n'.toList := by
          intro h
          rw [ByteArray.toList_eq, ByteArray.toList_eq] at h
          exact hn (ba_f h)
        clear HN HO2 HR0 HR1 hn
        go_wp2_with fail
        refine wp_region_quiet (C := fun w' => Below wr.heap.size wr w') (by kernel_rfl) (by kernel_rfl) ((Below.refl _ _).drew) ?_
        dsimp only
        repeat (first
          | go_big_quiet_skip
          | (go_big_quiet_want
             apply Exists.intro
             refine ⟨fun W' hW' => ?_, ?_⟩
             · have hw : Below wr.heap.size wr W' := hW'
               obtain ⟨g0, g1, g2⟩ := HY0.out W' (bT HB.out hw)
               obtain ⟨m0, m1, m2⟩ := HY1.out W' (bT HB.out hw)
               go_simp
               first
                 | done
                 | rfl
             go_big_quiet_on
             try simp only [Act.put, List.setIfInBounds_toArray, List.set_cons_zero, List.set_cons_succ]))
        refine wpQuiet_nil ?_
        intro w2 hq5
        have HB5 : Hid (Below w.heap.size w w2) := bT HB.out hq5
        clear hq5
        go_wp2
        go_ret
        exact ⟨by rw [HZ.out]; rfl, HB5.out⟩
      subst hn
      by_cases ho : o = o'
      rotate_left
      · have HZ : Hid (S = false) := HN.out fun e => ho (by injection e)
        have d : (o != o') = true := by simp [ho]
        clear HN HO2 HR0 HR1 ho
        go_wp2_with fail
        refine wp_region_quiet (C := fun w' => Below wr.heap.size wr w') (by kernel_rfl) (by kernel_rfl) ((Below.refl _ _).drew) ?_
        dsimp only
        repeat (first
          | go_big_quiet_skip
          | (go_big_quiet_want
             apply Exists.intro
             refine ⟨fun W' hW' => ?_, ?_⟩
             · have hw : Below wr.heap.size wr W' := hW'
               obtain ⟨g0, g1, g2⟩ := HY0.out W' (bT HB.out hw)
               obtain ⟨m0, m1, m2⟩ := HY1.out W' (bT HB.out hw)
               go_simp
               first
                 | done
                 | rfl
             go_big_quiet_on
             try simp only [Act.put, List.setIfInBounds_toArray, List.set_cons_zero, List.set_cons_succ]))
        refine wpQuiet_nil ?_
        intro w2 hq5
        have HB5 : Hid (Below w.heap.size w w2) := bT HB.out hq5
        clear hq5
        go_wp2
        go_ret
        exact ⟨by rw [HZ.out]; rfl, HB5.out⟩
      subst ho
      by_cases hll : l.length = l'.length
      rotate_left
      · have HZ : Hid (S = false) := HN.out fun e => hll (by injection e with _ _ e; rw [e])
        have d : ((l.length : Int) != (l'.length : Int)) = true := by simp; omega
        have d' : (l.length != l'.length) = true := by simpa using hll
        clear HN HO2 HR0 HR1 hll
        go_wp2_with fail
        refine wp_region_quiet (C := fun w' => Below wr.heap.size wr w') (by kernel_rfl) (by kernel_rfl) ((Below.refl _ _).drew) ?_
        dsimp only
        repeat (first
          | go_big_quiet_skip
          | (go_big_quiet_want
             apply Exists.intro
             refine ⟨fun W' hW' => ?_, ?_⟩
             · have hw : Below wr.heap.size wr W' := hW'
               obtain ⟨g0, g1, g2⟩ := HY0.out W' (bT HB.out hw)
               obtain ⟨m0, m1, m2⟩ := HY1.out W' (bT HB.out hw)
               go_simp
               first
                 | done
                 | rfl
             go_big_quiet_on
             try simp only [Act.put, List.setIfInBounds_toArray, List.set_cons_zero, List.set_cons_succ]))
        refine wpQuiet_nil ?_
        intro w2 hq5
        have HB5 : Hid (Below w.heap.size w w2) := bT HB.out hq5
        clear hq5
        go_wp2
        go_ret
        exact ⟨by rw [HZ.out]; rfl, HB5.out⟩
      have d : ((l.length : Int) != (l'.length : Int)) = false := by simp; omega
      have d' : (l.length != l'.length) = false := by simpa using hll
      have HLL : Hid (l.length = l'.length) := hll
      clear hll
      go_wp2_with fail
      refine wp_region_quiet (C := fun w' => Below wr.heap.size wr w') (by kernel_rfl) (by kernel_rfl) ((Below.refl _ _).drew) ?_
      dsimp only
      repeat (first
        | go_big_quiet_skip
        | (go_big_quiet_want
           apply Exists.intro
           refine ⟨fun W' hW' => ?_, ?_⟩
           · have hw : Below wr.heap.size wr W' := hW'
             obtain ⟨g0, g1, g2⟩ := HY0.out W' (bT HB.out hw)
             obtain ⟨m0, m1, m2⟩ := HY1.out W' (bT HB.out hw)
             go_simp
             first
               | done
               | rfl
           go_big_quiet_on
           try simp only [Act.put, List.setIfInBounds_toArray, List.set_cons_zero, List.set_cons_succ]))
      refine wpQuiet_nil ?_
      intro w2 hq5
      have HB5 : Hid (Below w.heap.size w w2) := bT HB.out hq5
      clear hq5 d d' HB
      go_wp2_with fail
      go_loopw [6] (fun i wr => ∃ m : Nat, m ≤ l.length ∧ i = .int .i64 (m : Int) ∧ Hid (∀ (k : Nat) (h : k < l.length) (h2 : k < l'.length), k < m → l[k] = l'[k]) ∧ Hid (Below w.heap.size w wr)) (fun i _ => l.length - (intOf i).toNat)
      case atStart => exact ⟨0, by omega, rfl, (fun k h h2 hj => absurd hj (Nat.not_lt_zero _)), HB5.out⟩
      case round =>
        obtain ⟨m, hm2, rfl, HO3, HB⟩ := hrel
        by_cases hlm0 : m < l.length
        · have dm : decide ((m : Int) < (l.length : Int)) = true := by simp; omega
          have hlm1 : m < l'.length := by have := HLL.out; omega
          obtain ⟨bx, ox, rfl, hltx, px0, px1, px2⟩ := items_at (HR0.out w (Below.refl _ _)) m hlm0
          obtain ⟨by_, oy, rfl, hlty, py0, py1, py2⟩ := items_at (HR1.out w (Below.refl _ _)) m hlm1
          have HXx : Hid (∀ W, Below w.heap.size w W → (W.cell? ⟨bx, ox + m * 3, none⟩ = some (.int .i64 l[m].k) ∧ W.cell? ⟨bx, ox + m * 3 + 1, none⟩ = some (.int .i64 l[m].n) ∧ W.cell? ⟨bx, ox + m * 3 + 2, none⟩ = some (.string l[m].s)) ∧ W.cell? ⟨by_, oy + m * 3, none⟩ = some (.int .i64 l'[m].k) ∧ W.cell? ⟨by_, oy + m * 3 + 1, none⟩ = some (.int .i64 l'[m].n) ∧ W.cell? ⟨by_, oy + m * 3 + 2, none⟩ = some (.string l'[m].s)) := fun W h => ⟨⟨(h.cell (p := ⟨bx, _, none⟩) hltx).trans px0, (h.cell (p := ⟨bx, _, none⟩) hltx).trans px1, (h.cell (p := ⟨bx, _, none⟩) hltx).trans px2⟩, (h.cell (p := ⟨by_, _, none⟩) hlty).trans py0, (h.cell (p := ⟨by_, _, none⟩) hlty).trans py1, (h.cell (p := ⟨by_, _, none⟩) hlty).trans py2⟩
          clear hltx px0 px1 px2 hlty py0 py1 py2
          have q4 : (0 : Int) ≤ (m : Int) := by omega
          have q5 : (m : Int) < (l.length : Int) := by omega
          have q6 : (m : Int) < (l'.length : Int) := by omega
          have HO4 : Hid (l[m] = l'[m] → ∀ (k : Nat) (h : k < l.length) (h2 : k < l'.length), k < m + 1 → l[k] = l'[k]) := fun hs k h h2 hk => by
            by_cases e : k = m
            · subst e; exact hs
            · exact HO3.out k h h2 (by omega)
          have HN4 : Hid (¬ l[m] = l'[m] → S = false) := fun h => HN.out fun e => h (by injection e with _ _ e; simp only [e])
          clear HO3 HN HO2
          generalize l[m]'hlm0 = x at *
          generalize l'[m]'hlm1 = y at *
          obtain ⟨xk, xn, xs⟩ := x
          obtain ⟨yk, yn, ys⟩ := y
          dsimp only at HXx
          have cc := (HY0.out wr HB.out).2.2
          by_cases hq : (⟨xk, xn, xs⟩ : It) = ⟨yk, yn, ys⟩
          · have HO5 := HO4.out hq
            have HO6 : Hid (∀ (k : Nat) (h : k < l.length) (h2 : k < l'.length), k < m + 1 → l[k] = l'[k]) := HO5
            simp only [It.mk.injEq] at hq
            obtain ⟨rfl, rfl, rfl⟩ := hq
            clear HN4 HO4 HO5
            go_wp2_with fail
            clear cc
            refine wp_region_quiet (C := fun w' => Below wr.heap.size wr w') (by kernel_rfl) (by kernel_rfl) ((Below.refl _ _).drew) ?_
            dsimp only
            repeat (first
              | go_big_quiet_skip
              | (go_big_quiet_want
                 apply Exists.intro
                 refine ⟨fun W' hW' => ?_, ?_⟩
                 · have hw : Below wr.heap.size wr W' := hW'
                   obtain ⟨-, -, g2⟩ := HY0.out W' (bT HB.out hw)
                   obtain ⟨-, -, m2⟩ := HY1.out W' (bT HB.out hw)
                   obtain ⟨⟨e0, e1, e2⟩, f0, f1, f2⟩ := HXx.out W' (bT HB.out hw)
                   go_simp
                   first
                     | done
                     | rfl
                 go_big_quiet_on
                 try simp only [Act.put, List.setIfInBounds_toArray, List.set_cons_zero, List.set_cons_succ]))
            refine wpQuiet_nil ?_
            intro w3 hq6
            have HB6 : Hid (Below w.heap.size w w3) := bT HB.out hq6
            clear hq6
            go_wp2
            go_roundw
            case rel => exact ⟨m + 1, by omega, by simp, HO6.out, HB6.out⟩
            case measure => simp [intOf]; omega
          · have HN2 : Hid (S = false) := HN4.out hq
            have hne : ¬ (xk = yk ∧ xn = yn ∧ xs.toList = ys.toList) := fun h => by
              obtain ⟨rfl, rfl, h4⟩ := h
              rw [ByteArray.toList_eq, ByteArray.toList_eq] at h4
              exact hq (by rw [ba_f h4])
            have HE : Hid (∀ W : World, (if xk = yk then if xn = yn then if xs.toList = ys.toList then Result.ok (Next.value (Value.bool false)) W else Result.ok (Next.value (Value.bool true)) W else Result.ok (Next.value (Value.bool true)) W else Result.ok (Next.value (Value.bool true)) W) = Result.ok (Next.value (Value.bool true)) W) := fun W => by
              by_cases h1 : xk = yk
              · by_cases h2 : xn = yn
                · by_cases h4 : xs.toList = ys.toList
                  · exact absurd ⟨h1, h2, h4⟩ hne
                  · simp [h1, h2, h4]
                · simp [h1, h2]
              · simp [h1]
            clear hq HN4 HO4 hne
            go_wp2_with fail
            clear cc
            refine wp_region_quiet (C := fun w' => Below wr.heap.size wr w') (by kernel_rfl) (by kernel_rfl) ((Below.refl _ _).drew) ?_
            dsimp only
            repeat (first
              | go_big_quiet_skip
              | (go_big_quiet_want
                 apply Exists.intro
                 refine ⟨fun W' hW' => ?_, ?_⟩
                 · have hw : Below wr.heap.size wr W' := hW'
                   obtain ⟨-, -, g2⟩ := HY0.out W' (bT HB.out hw)
                   obtain ⟨-, -, m2⟩ := HY1.out W' (bT HB.out hw)
                   obtain ⟨⟨e0, e1, e2⟩, f0, f1, f2⟩ := HXx.out W' (bT HB.out hw)
                   go_simp
                   first
                     | done
                     | rfl
                     | (rw [HE.out W']; exact ⟨rfl, rfl⟩)
                 go_big_quiet_on
                 try simp only [Act.put, List.setIfInBounds_toArray, List.set_cons_zero, List.set_cons_succ]))
            refine wpQuiet_nil ?_
            intro w3 hq6
            have HB6 : Hid (Below w.heap.size w w3) := bT HB.out hq6
            clear hq6
            go_wp2
            go_ret
            exact ⟨by rw [HN2.out]; rfl, HB6.out⟩
        · have hnl := hlm0
          have dm : decide ((m : Int) < (l.length : Int)) = false := by simp; omega
          have heq : l = l' := List.ext_getElem HLL.out fun k h h2 => HO3.out k h h2 (by omega)
          have HO7 := HO2.out (by rw [heq])
          have HO8 : Hid (∀ (k : Nat) (h : k < F.length) (h2 : k < G.length), k < j + 1 → F[k].y = G[k].y) := HO7
          have cc := (HY0.out wr HB.out).2.2
          clear HO2 HO3 HN HO7 heq
          go_wp2
          go_roundw
          case rel => exact ⟨j + 1, by omega, by simp, HO8.out, HB.out⟩
          case measure => simp [intOf]; omega
    · have hnl := hlk0
      have dj : decide ((j : Int) < (F.length : Int)) = false := by simp; omega
      have HZ : Hid (S = true) := HYes.out fun k h h2 => HO.out k h h2 (by omega)
      clear HO HNo HYes
      go_wp2
      go_ret
      exact ⟨by rw [HZ.out]; rfl, HB.out⟩
end Go.Proofs.YtbekpemidpngaaaGreatDoor
