/- StoreFirst: its walk. -/
import Derived.Test.YthdbnlpbidkojaaGreatDoorZk19
import Derived.Test.YthdbnlpbidkojaaGreatDoorZk21
import Derived.Test.YthdbnlpbidkojaaGreatDoorZk17
import Derived.Test.YthdbnlpbidkojaaGreatDoorZk10
namespace Go.Proofs.YthdbnlpbidkojaaGreatDoor
open Go.RowKit Go.ChangeMaps

/-- The cells of a row of types at a place. -/
def TyAt (W : World) (b off k : Nat) (z : LT) : Prop := (W.cell? ⟨b, off + k * 8, none⟩ = some (.string z.t.n) ∧ W.cell? ⟨b, off + k * 8 + 1, none⟩ = some (.string z.t.p) ∧ W.cell? ⟨b, off + k * 8 + 2, none⟩ = some z.vo ∧ W.cell? ⟨b, off + k * 8 + 3, none⟩ = some z.va) ∧ W.cell? ⟨b, off + k * 8 + 4, none⟩ = some z.vc ∧ W.cell? ⟨b, off + k * 8 + 5, none⟩ = some (.int .i64 z.t.nd) ∧ W.cell? ⟨b, off + k * 8 + 6, none⟩ = some (.int .i64 z.t.lf) ∧ W.cell? ⟨b, off + k * 8 + 7, none⟩ = some (.int .i64 z.t.sq)
theorem tys_all {w : World} {a : Option Addr} {c : Nat} {L : List LT} (h : ∀ W, Below w.heap.size w W → IsTys W (.slice a L.length c) L) (h0 : 0 < L.length) : ∃ b off, a = some ⟨b, off, none⟩ ∧ ∀ W, Below w.heap.size w W → ∀ (k : Nat) (hk : k < L.length), TyAt W b off k L[k] := by
  obtain ⟨b, off, ha, -⟩ := t_at (h w (Below.refl _ _)).1 h0
  refine ⟨b, off, ha, fun W hW k hk => ?_⟩
  obtain ⟨b', off', ha', -, -, -, hc⟩ := t_at (h W hW).1 h0
  rw [ha] at ha'
  obtain ⟨rfl, rfl, -⟩ := Addr.mk.inj (Option.some.inj ha')
  exact hc k hk
theorem few_n {L : List LT} (h : fewL (tys L) = true) : ∀ x ∈ L, x.t.n.size ≤ 200 := fun x hx => by
  unfold fewL at h
  rw [decide_eq_true_eq] at h
  obtain ⟨k, hk, rfl⟩ := List.mem_iff_getElem.1 hx
  have h1 := (h k (by rw [tys_len]; exact hk)).2
  rw [tys_at L k hk] at h1
  unfold oneB at h1
  simp only [Bool.and_eq_true, decide_eq_true_eq] at h1
  exact h1.1
/-- Two of one maker are the same. -/
def PairOk (L : List LT) (k c : Nat) : Prop := ∀ (hk : k < L.length) (hc : c < L.length), ByE L[k].t L[c].t → L[k].t = L[c].t
theorem pair_all {L : List LT} (h : ∀ k, k < L.length → ∀ c, c < k → PairOk L k c) : ∀ t ∈ tys L, ∀ u ∈ tys L, ByE t u → t = u := fun t ht u hu hb => by
  obtain ⟨x, hx, rfl⟩ := List.mem_map.1 ht
  obtain ⟨y, hy, rfl⟩ := List.mem_map.1 hu
  obtain ⟨a, ha, rfl⟩ := List.mem_iff_getElem.1 hx
  obtain ⟨b, hb', rfl⟩ := List.mem_iff_getElem.1 hy
  rcases Nat.lt_trichotomy a b with h1 | h1 | h1
  · exact (h b hb' a h1 hb' ha ⟨hb.1.symm, hb.2.1.symm, hb.2.2.symm⟩).symm
  · subst h1; rfl
  · exact h a ha b h1 ha hb' hb
theorem StV.lower {b b0 : Nat} {w : World} {s m : Nat} {X : Nat → Kp} (h : StV b w s m [] X) (hb : b0 ≤ b) : StV b0 w s m [] X :=
  ⟨Nat.le_trans hb h.lo, Nat.le_trans hb h.lm, h.blk, h.mp, (fun _ hp => nomatch hp), List.nodup_nil⟩
theorem StV.puI {b : Nat} {w : World} {s m : Nat} {X : Nat → Kp} (h : StV b w s m [] X) : PuI b w s m [] [] X := ⟨h, Nat.le_refl _, fun k => good_nil k⟩
/-- What All hands out, of a store of these types. -/
theorem alP_good {base : Nat} {w : World} {s m : Nat} {l : List Ty} {E : List (ByteArray × Nat)} {X : Nat → Kp} (h : PuI base w s m l E X) {D : List ByteArray} (hD : SrtK E D) : ∀ t ∈ D.map (tyK E X), t ∈ l ∧ ∀ u ∈ l, chkT u = true → fldB u.n = fldB t.n → ¬ Earl u t := fun t ht => by
  obtain ⟨k, hk, rfl⟩ := List.mem_map.1 ht
  have hg := h.gd k
  rw [cont_tyK (hD.1.mem_iff.1 hk)] at hg
  exact ⟨hg.1, fun u hu hc he => hg.2.2.2 u hu hc (he.trans hg.2.2.1)⟩
set_option maxRecDepth 100000 in
set_option maxHeartbeats 8000000 in
theorem storeFirst_walk (v : Value) (L : List LT) (w : World) (hr : IsTys w v L) (hl : L.length ≤ 140737488355328) (hi : ∀ x ∈ L, InT x.t) (hT : UT w) (hM : ML w) :
    Calls Tryz.prog 4 #[v] w fun e w' => e = .returned (.bool true) ∧ Below w.heap.size w w' := by
  obtain ⟨al, cl, rfl⟩ := hr.1.form
  have HL : Hid (∀ W, Below w.heap.size w W → IsTys W (.slice al L.length cl) L) := fun W hb => hr.below hb
  have HT : Hid (∀ W, Below w.heap.size w W → UT W ∧ ML W) := fun W hb => ⟨Utf8Tabs_below hT hb, ML_below hM hb⟩
  have HAw : Hid (∀ W, Below w.heap.size w W → Calls Tryz.prog 7 #[] W fun e w' => e = .returned (.bool true) ∧ Below W.heap.size W w') := fun W hb => awake17_any W (HT.out W hb).1 (HT.out W hb).2
  have HFw : Hid (∀ W, Below w.heap.size w W → Calls Tryz.prog 13 #[.slice al L.length cl] W fun e w' => e = .returned (.bool (fewL (tys L))) ∧ Below W.heap.size W w') := fun W hb => fewT_any _ L W (hr.below hb) hl hi
  have HOk : Hid (fewL (tys L) = true → NmL L ∧ SmL L ∧ ∀ x ∈ L, x.t.n.size ≤ 200) := fun h => ⟨(fewL_ok h).2.1, (fewL_ok h).2.2, few_n h⟩
  clear hr hi hT hM
  go_enter Tryz.func4, Tryz.ntmps4
  go_wp2_with fail
  refine (storeNew_any w (fun _ => ⟨zT, false, zW⟩)).mono ?_
  rintro e w1 ⟨s1, m1, rfl, hS, hb⟩
  have B1 : Hid (Below w.heap.size w w1) := hb
  have HS1 : Hid (StV w.heap.size w1 s1 m1 [] (fun _ => ⟨zT, false, zW⟩)) := hS
  clear hb hS
  go_wp2_with fail
  refine (storeNew_any w1 (fun _ => ⟨zT, false, zW⟩)).mono ?_
  rintro e w2 ⟨s2, m2, rfl, hS, hb⟩
  have hne : m1 ≠ m2 := by
    have h1 := HS1.out.mp.lt
    have h2 := hS.lm
    omega
  have B2 : Hid (Below w.heap.size w w2) := B1.out.trans (hb.mono B1.out.size)
  have HX2 : Hid (PuI w.heap.size w2 s1 m1 [] [] (fun _ => ⟨zT, false, zW⟩)) := (HS1.out.below hb).puI
  have HY2 : Hid (PuI w.heap.size w2 s2 m2 [] [] (fun _ => ⟨zT, false, zW⟩)) := (hS.lower B1.out.size).puI
  clear hb hS HS1 B1
  go_wp2_with fail
  refine (HAw.out _ B2.out).mono ?_
  rintro e w3 ⟨rfl, hb⟩
  have B3 : Hid (Below w.heap.size w w3) := B2.out.trans (hb.mono B2.out.size)
  have HX3 : Hid (PuI w.heap.size w3 s1 m1 [] [] (fun _ => ⟨zT, false, zW⟩)) := HX2.out.below hb
  have HY3 : Hid (PuI w.heap.size w3 s2 m2 [] [] (fun _ => ⟨zT, false, zW⟩)) := HY2.out.below hb
  clear hb HX2 HY2 B2
  by_cases h10 : L.length ≤ 10
  rotate_left
  · have d10 : decide ((10 : Int) < (L.length : Int)) = true := by simp; omega
    clear HX3 HY3 HFw HOk HL h10
    go_wp2_with fail
    refine (HAw.out _ B3.out).mono ?_
    rintro e w4 ⟨rfl, hb⟩
    have B4 : Hid (Below w.heap.size w w4) := B3.out.trans (hb.mono B3.out.size)
    clear hb
    go_wp2
    go_ret
    exact ⟨rfl, B4.out⟩
  have d10 : decide ((10 : Int) < (L.length : Int)) = false := by simp; omega
  go_wp2_with fail
  refine (HFw.out _ B3.out).mono ?_
  rintro e w4 ⟨rfl, hb⟩
  have B4 : Hid (Below w.heap.size w w4) := B3.out.trans (hb.mono B3.out.size)
  have HX4 : Hid (PuI w.heap.size w4 s1 m1 [] [] (fun _ => ⟨zT, false, zW⟩)) := HX3.out.below hb
  have HY4 : Hid (PuI w.heap.size w4 s2 m2 [] [] (fun _ => ⟨zT, false, zW⟩)) := HY3.out.below hb
  clear hb HX3 HY3 B3 HFw
  cases hfw : fewL (tys L)
  · clear HX4 HY4 HOk HL hfw
    go_wp2_with fail
    refine (HAw.out _ B4.out).mono ?_
    rintro e w5 ⟨rfl, hb⟩
    have B5 : Hid (Below w.heap.size w w5) := B4.out.trans (hb.mono B4.out.size)
    clear hb
    go_wp2
    go_ret
    exact ⟨rfl, B5.out⟩
  obtain ⟨hnm, hsm, hn2⟩ := HOk.out hfw
  have HNm : Hid (NmL L) := hnm
  have HSmL : Hid (SmL L) := hsm
  have HN2 : Hid (∀ x ∈ L, x.t.n.size ≤ 200) := hn2
  clear HOk hfw HAw hnm hsm hn2
  have HAt : Hid (0 < L.length → ∃ b off, al = some ⟨b, off, none⟩ ∧ ∀ W, Below w.heap.size w W → ∀ (k : Nat) (hk : k < L.length), TyAt W b off k L[k]) := fun h0 => tys_all HL.out h0
  have HSa : Hid (∀ (k : Nat) (hk : k < L.length) (j : Nat) (hj : j < L.length) W, Below w.heap.size w W → Calls Tryz.prog 14 #[ltV L[k], ltV L[j]] W fun e w' => e = .returned (.bool (sameT L[k].t L[j].t)) ∧ Below W.heap.size W w') := fun k hk j hj W hb => by
    obtain ⟨a1, a2, a3⟩ := HSmL.out _ (List.getElem_mem hk)
    obtain ⟨b1, b2, b3⟩ := HSmL.out _ (List.getElem_mem hj)
    exact sameT_any _ _ W ((HL.out W hb).2 _ (List.getElem_mem hk)) ((HL.out W hb).2 _ (List.getElem_mem hj)) ⟨by omega, by omega, by omega⟩ ⟨by omega, by omega, by omega⟩
  go_wp2_with fail
  go_loopw [5] (fun i wr => ∃ k : Nat, k ≤ L.length ∧ i = .int .i64 (k : Int) ∧ Hid (∀ a, a < k → ∀ c, c < a → PairOk L a c) ∧ Hid (Below w4.heap.size w4 wr)) (fun i _ => L.length - (intOf i).toNat)
  case atStart => exact ⟨0, Nat.zero_le _, rfl, (fun a ha => absurd ha (Nat.not_lt_zero _)), Below.refl _ _⟩
  case round =>
    obtain ⟨k, hk, rfl, HO, HB⟩ := hrel
    by_cases hlk : k < L.length
    · have dk : decide ((k : Int) < (L.length : Int)) = true := by simp; omega
      obtain ⟨b, off, hal, hc⟩ := HAt.out (by omega)
      have HC : Hid (∀ W, Below w.heap.size w W → ∀ (k : Nat) (hk : k < L.length), TyAt W b off k L[k]) := hc
      subst hal
      clear hc HAt
      go_wp2_with fail
      go_loopw [6] (fun i wr => ∃ j : Nat, j ≤ k ∧ i = .int .i64 (j : Int) ∧ Hid (∀ c, c < j → PairOk L k c) ∧ Hid (Below w4.heap.size w4 wr)) (fun i _ => k - (intOf i).toNat)
      case atStart => exact ⟨0, Nat.zero_le _, rfl, (fun c hc => absurd hc (Nat.not_lt_zero _)), HB⟩
      case round =>
        obtain ⟨j, hj, rfl, HP, HB2⟩ := hrel
        by_cases hjk : j < k
        · have dj : decide ((j : Int) < (k : Int)) = true := by simp; omega
          have hjl : j < L.length := by omega
          have HBw : Hid (Below w.heap.size w wr) := B4.out.trans (HB2.out.mono B4.out.size)
          have HCx : Hid (∀ W, Below wr.heap.size wr W → TyAt W b off k L[k] ∧ TyAt W b off j L[j]) := fun W h => ⟨HC.out W (HBw.out.trans (h.mono HBw.out.size)) k hlk, HC.out W (HBw.out.trans (h.mono HBw.out.size)) j hjl⟩
          have HSx : Hid (∀ W, Below wr.heap.size wr W → Calls Tryz.prog 14 #[ltV L[k], ltV L[j]] W fun e w' => e = .returned (.bool (sameT L[k].t L[j].t)) ∧ Below W.heap.size W w') := fun W h => HSa.out k hlk j hjl W (HBw.out.trans (h.mono HBw.out.size))
          have HNx : Hid ((ByE L[k].t L[j].t → L[k].t = L[j].t) → ∀ c, c < j + 1 → PairOk L k c) := fun h c hc => by
            by_cases e : c = j
            · subst e; exact fun _ _ => h
            · exact HP.out c (by omega)
          have q1 : (0 : Int) ≤ (k : Int) := by omega
          have q2 : (k : Int) < (L.length : Int) := by omega
          have q3 : (0 : Int) ≤ (j : Int) := by omega
          have q4 : (j : Int) < (L.length : Int) := by omega
          unfold TyAt at HCx
          generalize L[k]'hlk = x at *
          generalize L[j]'hjl = y at *
          obtain ⟨t1, ao, co, aa, ca, ac, cc⟩ := x
          obtain ⟨t2, bo, bp, ba, bq, bc, br⟩ := y
          dsimp only [LT.vo, LT.va, LT.vc] at HCx HSx HNx
          clear HC HSa HP HL
          by_cases hB : ByE t1 t2
          rotate_left
          · have HE : ∀ W : World, (if t1.nd = t2.nd then if t1.lf = t2.lf then if t1.sq = t2.sq then Result.ok (Next.value (Value.bool true)) W else Result.ok (Next.value (Value.bool false)) W else Result.ok (Next.value (Value.bool false)) W else Result.ok (Next.value (Value.bool false)) W) = (Result.ok (Next.value (Value.bool false)) W : Result Next) := fun W => by
              by_cases h1 : t1.nd = t2.nd
              · by_cases h2 : t1.lf = t2.lf
                · by_cases h3 : t1.sq = t2.sq
                  · exact absurd ⟨h1, h2, h3⟩ hB
                  · simp [h1, h2, h3]
                · simp [h1, h2]
              · simp [h1]
            have HNy : Hid (∀ c, c < j + 1 → PairOk L k c) := HNx.out fun h => absurd h hB
            clear HNx hB HSx
            go_wp2_with fail
            refine wp_region_quiet (C := fun w' => Below wr.heap.size wr w') (by kernel_rfl) (by kernel_rfl) ((Below.refl _ _).drew) ?_
            dsimp only
            repeat (first
              | go_big_quiet_skip
              | (go_big_quiet_want
                 apply Exists.intro
                 refine ⟨fun W' hW' => ?_, ?_⟩
                 · have hw : Below wr.heap.size wr W' := hW'
                   obtain ⟨⟨⟨r0, r1, r2, r3⟩, r4, r5, r6, r7⟩, ⟨⟨g0, g1, g2, g3⟩, g4, g5, g6, g7⟩⟩ := HCx.out W' hw
                   go_simp
                   first
                     | done
                     | rfl
                 go_big_quiet_on
                 try simp only [Act.put, List.setIfInBounds_toArray, List.set_cons_zero, List.set_cons_succ]))
            refine wpQuiet_nil ?_
            intro wq hqw
            have Bq : Hid (Below wr.heap.size wr wq) := hqw
            clear hqw
            have HB3 : Hid (Below w4.heap.size w4 wq) := HB2.out.trans (Bq.out.mono HB2.out.size)
            clear HE HCx
            go_wp2
            go_roundw
            case rel => exact ⟨j + 1, by omega, by simp, HNy, HB3⟩
            case measure => simp [intOf]; omega
          · have HE : ∀ W : World, (if t1.nd = t2.nd then if t1.lf = t2.lf then if t1.sq = t2.sq then Result.ok (Next.value (Value.bool true)) W else Result.ok (Next.value (Value.bool false)) W else Result.ok (Next.value (Value.bool false)) W else Result.ok (Next.value (Value.bool false)) W) = (Result.ok (Next.value (Value.bool true)) W : Result Next) := fun W => by
              obtain ⟨h1, h2, h3⟩ := hB
              simp [h1, h2, h3]
            obtain ⟨S, hS⟩ : ∃ S, sameT t1 t2 = S := ⟨_, rfl⟩
            have HNy : Hid (S = true → ∀ c, c < j + 1 → PairOk L k c) := fun h => HNx.out fun _ => (sameT_iff _ _).1 (hS.trans h)
            rw [hS] at HSx
            clear HNx hB hS
            go_wp2_with fail
            refine wp_region_quiet (C := fun w' => Below wr.heap.size wr w') (by kernel_rfl) (by kernel_rfl) ((Below.refl _ _).drew) ?_
            dsimp only
            repeat (first
              | go_big_quiet_skip
              | (go_big_quiet_want
                 apply Exists.intro
                 refine ⟨fun W' hW' => ?_, ?_⟩
                 · have hw : Below wr.heap.size wr W' := hW'
                   obtain ⟨⟨⟨r0, r1, r2, r3⟩, r4, r5, r6, r7⟩, ⟨⟨g0, g1, g2, g3⟩, g4, g5, g6, g7⟩⟩ := HCx.out W' hw
                   go_simp
                   first
                     | done
                     | rfl
                     | (go_at_call 14; (with_reducible refine Calls.mono (HSx.out W' hw) ?_); rintro e w'' ⟨rfl, hb⟩; exact ⟨rfl, hw.trans (hb.mono hw.size)⟩)
                 go_big_quiet_on
                 try simp only [Act.put, List.setIfInBounds_toArray, List.set_cons_zero, List.set_cons_succ]))
            refine wpQuiet_nil ?_
            intro wq hqw
            have Bq : Hid (Below wr.heap.size wr wq) := hqw
            clear hqw
            have HB3 : Hid (Below w4.heap.size w4 wq) := HB2.out.trans (Bq.out.mono HB2.out.size)
            have HBz : Hid (Below w.heap.size w wq) := HBw.out.trans (Bq.out.mono HBw.out.size)
            clear HE HCx HSx
            cases S
            · clear HNy
              go_wp2
              try rw [Exit.noGoto_ret]
              go_ret
              exact ⟨rfl, HBz.out⟩
            · have HNz : Hid (∀ c, c < j + 1 → PairOk L k c) := HNy.out rfl
              clear HNy
              go_wp2
              go_roundw
              case rel => exact ⟨j + 1, by omega, by simp, HNz, HB3⟩
              case measure => simp [intOf]; omega
        · obtain rfl : j = k := by omega
          have dj : decide ((j : Int) < (j : Int)) = false := by simp
          have HO2 : Hid (∀ a, a < j + 1 → ∀ c, c < a → PairOk L a c) := fun a ha c hc => by
            by_cases e : a = j
            · subst e; exact HP.out c hc
            · exact HO.out a (by omega) c hc
          clear HP HC HSa HL
          go_wp2
          go_roundw
          case rel => exact ⟨j + 1, by omega, by simp, HO2, HB2⟩
          case measure => simp [intOf]; omega
    · have hk' : k = L.length := by omega
      have dk : decide ((k : Int) < (L.length : Int)) = false := by simp; omega
      have HAll : Hid (∀ t ∈ tys L, ∀ u ∈ tys L, ByE t u → t = u) := pair_all fun a ha c hc => HO.out a (by omega) c hc
      have B5 : Hid (Below w.heap.size w wr) := B4.out.trans (HB.out.mono B4.out.size)
      have HX5 : Hid (∃ E X, PuI w.heap.size wr s1 m1 ((tys L).take 0) E X) := ⟨_, _, HX4.out.below HB.out⟩
      have HY5 : Hid (∃ E X, PuI w.heap.size wr s2 m2 ((tys L).reverse.take 0) E X) := ⟨_, _, HY4.out.below HB.out⟩
      have HPu : Hid (∀ (l : List Ty) (s m : Nat) W, Below w.heap.size w W → (∀ t ∈ l, t ∈ tys L) → l.length ≤ L.length → (∃ E X, PuI w.heap.size W s m l E X) → ∀ (k : Nat) (hk : k < L.length), Calls Tryz.prog 15 #[stP s, ltV L[k]] W fun e w' => PgP w.heap.size W s m l L[k].t e w') := fun l s m W hb hmem hlen hP k hk => by
        obtain ⟨E, X, h⟩ := hP
        exact putG_any h hb.size (by omega) (fun t ht => by
          obtain ⟨z, hz, rfl⟩ := List.mem_map.1 (hmem t ht)
          exact HSmL.out z hz) _ _ _ _ ((HL.out W hb).2 _ (List.getElem_mem hk)) (HSmL.out _ (List.getElem_mem hk)) (HNm.out _ (List.getElem_mem hk)) (HT.out W hb).1 (HT.out W hb).2
      clear HO HB HX4 HY4 HSa hk'
      go_wp2_with fail
      go_loopw [7] (fun i wr => ∃ k : Nat, k ≤ L.length ∧ i = .int .i64 (k : Int) ∧ Hid (∃ E X, PuI w.heap.size wr s1 m1 ((tys L).take k) E X) ∧ Hid (∃ E X, PuI w.heap.size wr s2 m2 ((tys L).reverse.take k) E X) ∧ Hid (Below w.heap.size w wr)) (fun i _ => L.length - (intOf i).toNat)
      case atStart => exact ⟨0, Nat.zero_le _, rfl, HX5, HY5, B5⟩
      case round =>
        clear HX5 HY5
        obtain ⟨k, hk, rfl, HX, HY, HB⟩ := hrel
        by_cases hlk : k < L.length
        · have dk : decide ((k : Int) < (L.length : Int)) = true := by simp; omega
          obtain ⟨q, hq⟩ : ∃ q : Nat, q = L.length - 1 - k := ⟨_, rfl⟩
          have hql : q < L.length := by omega
          have e1 : (L.length : Int) - 1 - (k : Int) = (q : Int) := by omega
          have q1 : (0 : Int) ≤ (k : Int) := by omega
          have q2 : (k : Int) < (L.length : Int) := by omega
          have q3 : (0 : Int) ≤ (q : Int) := by omega
          have q4 : (q : Int) < (L.length : Int) := by omega
          obtain ⟨b, off, hal, hc⟩ := HAt.out (by omega)
          have HC : Hid (∀ W, Below w.heap.size w W → ∀ (k : Nat) (hk : k < L.length), TyAt W b off k L[k]) := hc
          subst hal
          have hlx : ((tys L).take k).length ≤ L.length := by rw [List.length_take, tys_len]; omega
          have hly : ((tys L).reverse.take k).length ≤ L.length := by rw [List.length_take, List.length_reverse, tys_len]; omega
          have HPx := HPu.out _ s1 m1 wr HB.out (fun t ht => List.mem_of_mem_take ht) hlx HX.out k hlk
          have HPy : Hid (∀ W, Below w.heap.size w W → (∃ E X, PuI w.heap.size W s2 m2 ((tys L).reverse.take k) E X) → Calls Tryz.prog 15 #[stP s2, ltV L[q]] W fun e w' => PgP w.heap.size W s2 m2 ((tys L).reverse.take k) L[q].t e w') := fun W hb hP => HPu.out _ s2 m2 W hb (fun t ht => List.mem_reverse.1 (List.mem_of_mem_take ht)) hly hP q hql
          have HTx : Hid ((tys L).take k ++ [L[k].t] = (tys L).take (k + 1)) := by
            show _ = _
            rw [List.take_succ_eq_append_getElem (by rw [tys_len]; exact hlk), tys_at L k hlk]
          have HTy : Hid ((tys L).reverse.take k ++ [L[q].t] = (tys L).reverse.take (k + 1)) := by
            show _ = _
            rw [List.take_succ_eq_append_getElem (by rw [List.length_reverse, tys_len]; exact hlk), List.getElem_reverse]
            simp only [tys_len, ← hq]
            rw [tys_at L q hql]
          have HCx : Hid (∀ W, Below w.heap.size w W → TyAt W b off k L[k] ∧ TyAt W b off q L[q]) := fun W h => ⟨HC.out W h k hlk, HC.out W h q hql⟩
          unfold TyAt at HCx
          have HPx' : Hid (Calls Tryz.prog 15 #[stP s1, ltV L[k]] wr fun e w' => PgP w.heap.size wr s1 m1 ((tys L).take k) L[k].t e w') := HPx
          obtain ⟨l1, hl1⟩ : ∃ l1, l1 = (tys L).take k := ⟨_, rfl⟩
          obtain ⟨l2, hl2⟩ : ∃ l2, l2 = (tys L).reverse.take k := ⟨_, rfl⟩
          rw [← hl1] at HX HPx' HTx
          rw [← hl2] at HY HPy HTy
          generalize L[k]'hlk = x at *
          generalize L[q]'hql = y at *
          obtain ⟨t1, ao, co, aa, ca, ac, cc⟩ := x
          obtain ⟨t2, bo, bp, ba, bq, bc, br⟩ := y
          dsimp only [LT.vo, LT.va, LT.vc] at HCx HPx' HPy HTx HTy
          clear HC HPu hc HPx hlx hly hl1 hl2 hq HAt HL
          obtain ⟨⟨⟨r0, r1, r2, r3⟩, r4, r5, r6, r7⟩, -⟩ := HCx.out wr HB.out
          go_wp2_with fail
          clear r0 r1 r2 r3 r4 r5 r6 r7
          refine HPx'.out.mono ?_
          rintro e wx ⟨⟨v, rfl⟩, hx, hst, hck⟩
          have hbx : Below w.heap.size w wx := HB.out.trans (hst.below HB.out.size fun j hj => by
            obtain ⟨E, X, h⟩ := HX.out
            rw [hj]
            exact h.st.lm)
          have HBx : Hid (Below w.heap.size w wx) := hbx
          have HXx : Hid (∃ E X, PuI w.heap.size wx s1 m1 (l1 ++ [t1]) E X) := hx
          have hYx : ∃ E X, PuI w.heap.size wx s2 m2 l2 E X := by
            obtain ⟨E, X, h⟩ := HY.out
            exact ⟨E, X, h.beside (Ne.symm hne) hst hck⟩
          have HYx : Hid (∃ E X, PuI w.heap.size wx s2 m2 l2 E X) := hYx
          have HPy' := HPy.out wx hbx hYx
          clear hx hst hck HX HY HPx' HB HPy hbx hYx
          obtain ⟨-, ⟨⟨r0, r1, r2, r3⟩, r4, r5, r6, r7⟩⟩ := HCx.out wx HBx.out
          go_wp2_with fail
          clear r0 r1 r2 r3 r4 r5 r6 r7
          refine HPy'.mono ?_
          rintro e wy ⟨⟨v, rfl⟩, hy, hst, hck⟩
          have HBy : Hid (Below w.heap.size w wy) := HBx.out.trans (hst.below HBx.out.size fun j hj => by
            obtain ⟨E, X, h⟩ := HYx.out
            rw [hj]
            exact h.st.lm)
          have HYy : Hid (∃ E X, PuI w.heap.size wy s2 m2 ((tys L).reverse.take (k + 1)) E X) := HTy.out ▸ hy
          have HXy : Hid (∃ E X, PuI w.heap.size wy s1 m1 ((tys L).take (k + 1)) E X) := by
            obtain ⟨E, X, h⟩ := HXx.out
            exact ⟨E, X, HTx.out ▸ h.beside hne hst hck⟩
          clear hy hst hck HXx HYx HBx HCx HTx HTy HPy'
          go_wp2
          go_roundw
          case rel => exact ⟨k + 1, by omega, by simp, HXy, HYy, HBy⟩
          case measure => simp [intOf]; omega
        · have hk' : k = L.length := by omega
          have dk : decide ((k : Int) < (L.length : Int)) = false := by simp; omega
          have HX6 : Hid (∃ E X, PuI w.heap.size wr s1 m1 (tys L) E X) := by
            obtain ⟨E, X, h⟩ := HX.out
            exact ⟨E, X, by rw [hk', ← tys_len L, List.take_length] at h; exact h⟩
          have HY6 : Hid (∃ E X, PuI w.heap.size wr s2 m2 (tys L).reverse E X) := by
            obtain ⟨E, X, h⟩ := HY.out
            refine ⟨E, X, ?_⟩
            have e : (tys L).reverse.take k = (tys L).reverse := List.take_of_length_le (by rw [List.length_reverse, tys_len]; omega)
            rw [e] at h
            exact h
          have HSz : Hid (∀ t ∈ tys L, SmT t ∧ t.n.size ≤ 200) := fun t ht => by
            obtain ⟨z, hz, rfl⟩ := List.mem_map.1 ht
            exact ⟨HSmL.out z hz, HN2.out z hz⟩
          obtain ⟨E1, X1, h1⟩ := HX6.out
          obtain ⟨E2, X2, h2⟩ := HY6.out
          have hA1 := allS_any h1.st (h1.sm (by rw [tys_len]; omega) HSz.out) (HT.out wr HB.out).1
          have HA2 : Hid (∀ W, Below wr.heap.size wr W → Calls Tryz.prog 16 #[stP s2] W fun e w' => AlP E2 X2 W e w') := fun W hb => allS_any (h2.st.below hb) (h2.sm (by rw [List.length_reverse, tys_len]; omega) fun t ht => HSz.out t (List.mem_reverse.1 ht)) (HT.out W (HB.out.trans (hb.mono HB.out.size))).1
          have HEq : Hid (∀ D D', SrtK E1 D → SrtK E2 D' → D.map (tyK E1 X1) = D'.map (tyK E2 X2)) := fun D D' hD hD' => all_same (fun _ => List.mem_reverse.symm) HAll.out h1.gd h2.gd h1.st.mp.2 h2.st.mp.2 hD hD'
          have HGd : Hid (∀ D, SrtK E1 D → ∀ t ∈ D.map (tyK E1 X1), t ∈ tys L ∧ ∀ u ∈ tys L, chkT u = true → fldB u.n = fldB t.n → ¬ Earl u t) := fun D hD => alP_good h1 hD
          have hE1 : E1.length ≤ L.length := by
            have := h1.le
            rwa [tys_len] at this
          clear HX HY HPu HX6 HY6 h1 h2 HAll hk'
          go_wp2_with fail
          refine hA1.mono ?_
          rintro e wa ⟨a1, c1, D1, M1, rfl, hD1, hM1, hT1, hb⟩
          have Ba : Hid (Below wr.heap.size wr wa) := hb
          have HD1 : Hid (SrtK E1 D1) := hD1
          have HM1 : Hid (tys M1 = D1.map (tyK E1 X1)) := hM1
          have HI1 : Hid (∀ W, Below wa.heap.size wa W → IsTys W (.slice a1 M1.length c1) M1) := fun W h => hT1.below h
          have hm1 : M1.length ≤ 10 := by
            have e1 := congrArg List.length hM1
            rw [tys_len, List.length_map, hD1.1.length_eq, List.length_map] at e1
            omega
          clear hb hD1 hM1 hT1 hA1
          go_wp2_with fail
          refine (HA2.out wa Ba.out).mono ?_
          rintro e wb ⟨a2, c2, D2, M2, rfl, hD2, hM2, hT2, hb⟩
          have Bb : Hid (Below wa.heap.size wa wb) := hb
          have hMM : tys M1 = tys M2 := by rw [HM1.out, hM2, HEq.out D1 D2 HD1.out hD2]
          have hlen : M2.length = M1.length := by rw [← tys_len M2, ← hMM, tys_len]
          have HI2 : Hid (∀ W, Below wb.heap.size wb W → IsTys W (.slice a2 M2.length c2) M2) := fun W h => hT2.below h
          have HI1b : Hid (∀ W, Below wb.heap.size wb W → IsTys W (.slice a1 M1.length c1) M1) := fun W h => HI1.out W (Bb.out.trans (h.mono Bb.out.size))
          have HMt : Hid (∀ (i : Nat) (h : i < M1.length) (h' : i < M2.length), M1[i].t = M2[i].t) := fun i h h' => by
            rw [← tys_at M1 i h, ← tys_at M2 i h']
            simp only [hMM]
          have HGm : Hid (∀ (i : Nat) (h : i < M1.length), (SmT M1[i].t ∧ M1[i].t.n.size ≤ 200) ∧ ∀ u ∈ tys L, chkT u = true → fldB u.n = fldB M1[i].t.n → ¬ Earl u M1[i].t) := fun i h => by
            have hm : M1[i].t ∈ D1.map (tyK E1 X1) := by rw [← HM1.out, ← tys_at M1 i h]; exact List.getElem_mem _
            obtain ⟨g1, g2⟩ := HGd.out D1 HD1.out _ hm
            exact ⟨HSz.out _ g1, g2⟩
          have HBb : Hid (Below w.heap.size w wb) := HB.out.trans ((Ba.out.trans (Bb.out.mono Ba.out.size)).mono HB.out.size)
          have HCk : Hid (∀ (k : Nat) (hk : k < L.length) W, Below w.heap.size w W → Calls Tryz.prog 17 #[ltV L[k]] W fun e w' => e = .returned (.bool (chkT L[k].t)) ∧ Below W.heap.size W w') := fun k hk W hb => checkT_any _ _ _ _ W ((HL.out W hb).2 _ (List.getElem_mem hk)) (HNm.out _ (List.getElem_mem hk)) (HT.out W hb).1 (HT.out W hb).2
          clear hb hD2 hM2 hT2 HA2 HEq HGd HD1 HM1 HI1 Ba Bb HB hMM HSz
          rw [hlen] at HI2 ⊢
          go_wp2_with fail
          go_loopw [10] (fun i wr => ∃ k : Nat, k ≤ M1.length ∧ i = .int .i64 (k : Int) ∧ Hid (Below wb.heap.size wb wr)) (fun i _ => M1.length - (intOf i).toNat)
          case atStart => exact ⟨0, Nat.zero_le _, rfl, Below.refl _ _⟩
          case round =>
            obtain ⟨i, hi, rfl, HB⟩ := hrel
            by_cases hlk : i < M1.length
            · have di : decide ((i : Int) < (M1.length : Int)) = true := by simp; omega
              have hi2 : i < M2.length := by omega
              obtain ⟨b1, o1, hb1, hx1⟩ := tys_all HI1b.out (by omega)
              obtain ⟨b2, o2, hb2, hx2⟩ := tys_all (L := M2) (fun W h => by rw [hlen]; exact HI2.out W h) (by omega)
              have HCx : Hid (∀ W, Below wr.heap.size wr W → TyAt W b1 o1 i M1[i] ∧ TyAt W b2 o2 i M2[i]) := fun W h => ⟨hx1 W (HB.out.trans (h.mono HB.out.size)) i hlk, hx2 W (HB.out.trans (h.mono HB.out.size)) i hi2⟩
              have HSx : Hid (∀ W, Below wr.heap.size wr W → Calls Tryz.prog 14 #[ltV M1[i], ltV M2[i]] W fun e w' => e = .returned (.bool true) ∧ Below W.heap.size W w') := fun W h => by
                obtain ⟨z1, z2, z3⟩ := (HGm.out i hlk).1.1
                have e := HMt.out i hlk hi2
                have hW := HB.out.trans (h.mono HB.out.size)
                have := sameT_any M1[i] M2[i] W ((HI1b.out W hW).2 _ (List.getElem_mem hlk)) ((HI2.out W hW).2 _ (List.getElem_mem hi2)) ⟨by omega, by omega, by omega⟩ ⟨by rw [← e]; omega, by rw [← e]; omega, by rw [← e]; omega⟩
                rw [(sameT_iff _ _).2 e] at this
                exact this
              have HGi := HGm.out i hlk
              have HGi' : Hid ((SmT M1[i].t ∧ M1[i].t.n.size ≤ 200) ∧ ∀ u ∈ tys L, chkT u = true → fldB u.n = fldB M1[i].t.n → ¬ Earl u M1[i].t) := HGi
              subst hb1 hb2
              unfold TyAt at HCx
              have q1 : (0 : Int) ≤ (i : Int) := by omega
              have q2 : (i : Int) < (M1.length : Int) := by omega
              generalize M1[i]'hlk = x at *
              generalize M2[i]'hi2 = y at *
              obtain ⟨t1, ao, co, aa, ca, ac, cc⟩ := x
              obtain ⟨t2, bo, bp, ba, bq, bc, br⟩ := y
              dsimp only [LT.vo, LT.va, LT.vc] at HCx HSx HGi'
              clear hx1 hx2 HGi
              go_wp2_with fail
              refine wp_region_quiet (C := fun w' => Below wr.heap.size wr w') (by kernel_rfl) (by kernel_rfl) ((Below.refl _ _).drew) ?_
              dsimp only
              repeat (first
                | go_big_quiet_skip
                | (go_big_quiet_want
                   apply Exists.intro
                   refine ⟨fun W' hW' => ?_, ?_⟩
                   · have hw : Below wr.heap.size wr W' := hW'
                     obtain ⟨⟨⟨r0, r1, r2, r3⟩, r4, r5, r6, r7⟩, ⟨⟨g0, g1, g2, g3⟩, g4, g5, g6, g7⟩⟩ := HCx.out W' hw
                     go_simp
                     first
                       | done
                       | rfl
                       | (go_at_call 14; (with_reducible refine Calls.mono (HSx.out W' hw) ?_); rintro e w'' ⟨rfl, hb⟩; exact ⟨rfl, hw.trans (hb.mono hw.size)⟩)
                   go_big_quiet_on
                   try simp only [Act.put, List.setIfInBounds_toArray, List.set_cons_zero, List.set_cons_succ]))
              refine wpQuiet_nil ?_
              intro wq hqw
              have Bq : Hid (Below wr.heap.size wr wq) := hqw
              clear hqw
              have HBq : Hid (Below wb.heap.size wb wq) := HB.out.trans (Bq.out.mono HB.out.size)
              have HCa : Hid (∀ W, Below wq.heap.size wq W → W.cell? ⟨b1, o1 + i * 8, none⟩ = some (.string t1.n) ∧ W.cell? ⟨b1, o1 + i * 8 + 5, none⟩ = some (.int .i64 t1.nd) ∧ W.cell? ⟨b1, o1 + i * 8 + 6, none⟩ = some (.int .i64 t1.lf) ∧ W.cell? ⟨b1, o1 + i * 8 + 7, none⟩ = some (.int .i64 t1.sq)) := fun W h => by
                obtain ⟨⟨⟨r0, -, -, -⟩, -, r5, r6, r7⟩, -⟩ := HCx.out W (Bq.out.trans (h.mono Bq.out.size))
                exact ⟨r0, r5, r6, r7⟩
              clear HCx HSx HB
              go_wp2_with fail
              go_loopw [11] (fun j wr => ∃ k : Nat, k ≤ L.length ∧ j = .int .i64 (k : Int) ∧ Hid (Below wq.heap.size wq wr)) (fun j _ => L.length - (intOf j).toNat)
              case atStart => exact ⟨0, Nat.zero_le _, rfl, Below.refl _ _⟩
              case round =>
                obtain ⟨k, hk, rfl, HBk⟩ := hrel
                by_cases hkl : k < L.length
                · have dk2 : decide ((k : Int) < (L.length : Int)) = true := by simp; omega
                  obtain ⟨b, off, hal, hc⟩ := HAt.out (by omega)
                  have HBw : Hid (Below w.heap.size w wr) := HBb.out.trans ((HBq.out.trans (HBk.out.mono HBq.out.size)).mono HBb.out.size)
                  have HCl : Hid (∀ W, Below wr.heap.size wr W → TyAt W b off k L[k]) := fun W h => hc W (HBw.out.trans (h.mono HBw.out.size)) k hkl
                  have HCy : Hid (∀ W, Below wr.heap.size wr W → W.cell? ⟨b1, o1 + i * 8, none⟩ = some (.string t1.n) ∧ W.cell? ⟨b1, o1 + i * 8 + 5, none⟩ = some (.int .i64 t1.nd) ∧ W.cell? ⟨b1, o1 + i * 8 + 6, none⟩ = some (.int .i64 t1.lf) ∧ W.cell? ⟨b1, o1 + i * 8 + 7, none⟩ = some (.int .i64 t1.sq)) := fun W h => HCa.out W (HBk.out.trans (h.mono HBk.out.size))
                  have HCh : Hid (∀ W, Below wr.heap.size wr W → Calls Tryz.prog 17 #[ltV L[k]] W fun e w' => e = .returned (.bool (chkT L[k].t)) ∧ Below W.heap.size W w') := fun W h => HCk.out k hkl W (HBw.out.trans (h.mono HBw.out.size))
                  have HAl : Hid (∀ W, Calls Tryz.prog 18 #[.string L[k].t.n, .string t1.n] W fun e w' => e = .returned (.bool (sameL L[k].t.n.data.toList t1.n.data.toList)) ∧ Below W.heap.size W w') := fun W => alikeU_any _ _ W (by have := HN2.out _ (List.getElem_mem hkl); omega) (by have := HGi'.out.1.2; omega)
                  have HOr : Hid (∀ W, Calls Tryz.prog 19 #[idV L[k].t.nd L[k].t.lf L[k].t.sq, idV t1.nd t1.lf t1.sq] W fun e w' => e = .returned (.int .i64 (or3 (ordI L[k].t.nd t1.nd) (ordI L[k].t.lf t1.lf) (ordI L[k].t.sq t1.sq))) ∧ Below W.heap.size W w') := fun W => order_any _ _ _ _ _ _ W
                  have HNe : Hid (chkT L[k].t = true → sameL L[k].t.n.data.toList t1.n.data.toList = true → decide (or3 (ordI L[k].t.nd t1.nd) (ordI L[k].t.lf t1.lf) (ordI L[k].t.sq t1.sq) < 0) = false) := fun g1 g2 => decide_eq_false (HGi'.out.2 _ (List.mem_map.2 ⟨_, List.getElem_mem hkl, rfl⟩) g1 ((fldB_same _ _).2 g2))
                  have p1 : (0 : Int) ≤ (k : Int) := by omega
                  have p2 : (k : Int) < (L.length : Int) := by omega
                  subst hal
                  unfold TyAt at HCl
                  generalize L[k]'hkl = x at *
                  obtain ⟨t3, bo3, bp3, ba3, bq3, bc3, br3⟩ := x
                  dsimp only [LT.vo, LT.va, LT.vc] at HCl HCh HAl HOr HNe
                  obtain ⟨C, hC⟩ : ∃ C, chkT t3 = C := ⟨_, rfl⟩
                  obtain ⟨A, hA⟩ : ∃ A, sameL t3.n.data.toList t1.n.data.toList = A := ⟨_, rfl⟩
                  obtain ⟨o, ho⟩ : ∃ o, or3 (ordI t3.nd t1.nd) (ordI t3.lf t1.lf) (ordI t3.sq t1.sq) = o := ⟨_, rfl⟩
                  rw [hC] at HCh HNe
                  rw [hA] at HAl HNe
                  rw [ho] at HOr HNe
                  clear hc hC hA ho HGi' HL HAt HGm HI1b HI2 HCk
                  cases C
                  · clear HNe HAl HOr
                    go_wp2_with fail
                    refine wp_region_quiet (C := fun w' => Below wr.heap.size wr w') (by kernel_rfl) (by kernel_rfl) ((Below.refl _ _).drew) ?_
                    dsimp only
                    repeat (first
                      | go_big_quiet_skip
                      | (go_big_quiet_want
                         apply Exists.intro
                         refine ⟨fun W' hW' => ?_, ?_⟩
                         · have hw : Below wr.heap.size wr W' := hW'
                           obtain ⟨⟨r0, r1, r2, r3⟩, r4, r5, r6, r7⟩ := HCl.out W' hw
                           obtain ⟨g0, g5, g6, g7⟩ := HCy.out W' hw
                           go_simp
                           first
                             | done
                             | rfl
                             | (go_at_call 17; (with_reducible refine Calls.mono (HCh.out W' hw) ?_); rintro e w'' ⟨rfl, hb⟩; exact ⟨rfl, hw.trans (hb.mono hw.size)⟩)
                         go_big_quiet_on
                         try simp only [Act.put, List.setIfInBounds_toArray, List.set_cons_zero, List.set_cons_succ]))
                    refine wpQuiet_nil ?_
                    intro wv hqw
                    have Bv : Hid (Below wr.heap.size wr wv) := hqw
                    clear hqw
                    have HBz : Hid (Below wq.heap.size wq wv) := HBk.out.trans (Bv.out.mono HBk.out.size)
                    clear HCl HCy
                    go_wp2
                    go_roundw
                    case rel => exact ⟨k + 1, by omega, by simp, HBz⟩
                    case measure => simp [intOf]; omega
                  cases A
                  · clear HNe HOr
                    go_wp2_with fail
                    refine wp_region_quiet (C := fun w' => Below wr.heap.size wr w') (by kernel_rfl) (by kernel_rfl) ((Below.refl _ _).drew) ?_
                    dsimp only
                    repeat (first
                      | go_big_quiet_skip
                      | (go_big_quiet_want
                         apply Exists.intro
                         refine ⟨fun W' hW' => ?_, ?_⟩
                         · have hw : Below wr.heap.size wr W' := hW'
                           obtain ⟨⟨r0, r1, r2, r3⟩, r4, r5, r6, r7⟩ := HCl.out W' hw
                           obtain ⟨g0, g5, g6, g7⟩ := HCy.out W' hw
                           go_simp
                           first
                             | done
                             | rfl
                             | (go_at_call 17; (with_reducible refine Calls.mono (HCh.out W' hw) ?_); rintro e w'' ⟨rfl, hb⟩; exact ⟨rfl, hw.trans (hb.mono hw.size)⟩)
                             | (go_at_call 18; (with_reducible refine Calls.mono (HAl.out W') ?_); rintro e w'' ⟨rfl, hb⟩; exact ⟨rfl, hw.trans (hb.mono hw.size)⟩)
                         go_big_quiet_on
                         try simp only [Act.put, List.setIfInBounds_toArray, List.set_cons_zero, List.set_cons_succ]))
                    refine wpQuiet_nil ?_
                    intro wv hqw
                    have Bv : Hid (Below wr.heap.size wr wv) := hqw
                    clear hqw
                    have HBz : Hid (Below wq.heap.size wq wv) := HBk.out.trans (Bv.out.mono HBk.out.size)
                    clear HCl HCy
                    go_wp2
                    go_roundw
                    case rel => exact ⟨k + 1, by omega, by simp, HBz⟩
                    case measure => simp [intOf]; omega
                  have dO := HNe.out rfl rfl
                  clear HNe
                  go_wp2_with fail
                  refine wp_region_quiet (C := fun w' => Below wr.heap.size wr w') (by kernel_rfl) (by kernel_rfl) ((Below.refl _ _).drew) ?_
                  dsimp only
                  repeat (first
                    | go_big_quiet_skip
                    | (go_big_quiet_want
                       apply Exists.intro
                       refine ⟨fun W' hW' => ?_, ?_⟩
                       · have hw : Below wr.heap.size wr W' := hW'
                         obtain ⟨⟨r0, r1, r2, r3⟩, r4, r5, r6, r7⟩ := HCl.out W' hw
                         obtain ⟨g0, g5, g6, g7⟩ := HCy.out W' hw
                         go_simp
                         first
                           | done
                           | rfl
                           | (go_at_call 17; (with_reducible refine Calls.mono (HCh.out W' hw) ?_); rintro e w'' ⟨rfl, hb⟩; exact ⟨rfl, hw.trans (hb.mono hw.size)⟩)
                           | (go_at_call 18; (with_reducible refine Calls.mono (HAl.out W') ?_); rintro e w'' ⟨rfl, hb⟩; exact ⟨rfl, hw.trans (hb.mono hw.size)⟩)
                           | (go_at_call 19; (with_reducible refine Calls.mono (HOr.out W') ?_); rintro e w'' ⟨rfl, hb⟩; exact ⟨rfl, hw.trans (hb.mono hw.size)⟩)
                       go_big_quiet_on
                       try simp only [Act.put, List.setIfInBounds_toArray, List.set_cons_zero, List.set_cons_succ]))
                  refine wpQuiet_nil ?_
                  intro wv hqw
                  have Bv : Hid (Below wr.heap.size wr wv) := hqw
                  clear hqw
                  have HBz : Hid (Below wq.heap.size wq wv) := HBk.out.trans (Bv.out.mono HBk.out.size)
                  clear HCl HCy
                  go_wp2
                  go_roundw
                  case rel => exact ⟨k + 1, by omega, by simp, HBz⟩
                  case measure => simp [intOf]; omega
                · have hk' : k = L.length := by omega
                  have dk2 : decide ((k : Int) < (L.length : Int)) = false := by simp; omega
                  have HBz : Hid (Below wb.heap.size wb wr) := HBq.out.trans (HBk.out.mono HBq.out.size)
                  clear hk' HCa HGi' HL HAt HCk
                  go_wp2
                  go_roundw
                  case rel => exact ⟨i + 1, by omega, by simp, HBz⟩
                  case measure => simp [intOf]; omega
            · have di : decide ((i : Int) < (M1.length : Int)) = false := by simp; omega
              have HBz : Hid (Below w.heap.size w wr) := HBb.out.trans (HB.out.mono HBb.out.size)
              clear HL HAt HCk HGm HI1b HI2 HMt
              go_wp2
              go_ret
              exact ⟨rfl, HBz.out⟩
end Go.Proofs.YthdbnlpbidkojaaGreatDoor
