/- QueueCounts: its walk. -/
import Derived.Test.YtnldibcfpbignaaDoorQqA
namespace Go.Proofs.YtnldibcfpbignaaDoor
open Go.RowKit Go.ChangeMaps

abbrev aB (N : Nat) (C : Array Value) : Nat × Obj := (N, .cells C 62 (0, 0))
/-- How all stands behind k offers. -/
def CS (w : World) (r : Int) (g No Nt : Nat) (k : Nat) (la : Int) (W : World) : Prop := ∃ Q fo ft Co Ct, CI k Q.l fo ft Q.ov la ∧ Q.r = r ∧ (Q.l.length : Int) ≤ r ∧ Arr Co fo ∧ Arr Ct ft ∧ QS w Q g [aB Nt Ct, aB No Co] W
/-- Midway through what was taken: j of them are counted. -/
def CM (w : World) (g No Nt : Nat) (k : Nat) (Q : Qu) (fo : Int → Int) (Co : Array Value) (K1 : List (Nat × Obj)) (P R : List Gv) (j : Nat) (la : Int) (W : World) : Prop := ∃ ft Ct, CI k (P.drop j ++ R) fo ft Q.ov la ∧ Arr Ct ft ∧ QS w Q g (aB Nt Ct :: aB No Co :: K1) W
theorem CM.start {w W : World} {g No Nt k : Nat} {Q : Qu} {fo ft : Int → Int} {Co Ct : Array Value} {K1 : List (Nat × Obj)} {P R : List Gv} {la : Int} (h : CI k (P ++ R) fo ft Q.ov la) (ha : Arr Ct ft) (hq : QS w Q g (K1 ++ [aB Nt Ct, aB No Co]) W) : CM w g No Nt k Q fo Co K1 P R 0 la W :=
  ⟨ft, Ct, by rw [List.drop_zero]; exact h, ha, hq.perm (List.perm_append_comm (l₁ := [aB Nt Ct, aB No Co]))⟩
/-- The j-th one, and what counting it needs. -/
theorem CM.at {w W : World} {g No Nt k : Nat} {Q : Qu} {fo : Int → Int} {Co : Array Value} {K1 : List (Nat × Obj)} {P R : List Gv} {j : Nat} {la : Int} (h : CM w g No Nt k Q fo Co K1 P R j la W) (hj : j < P.length) :
    ∃ (s : Nat) (q f : Int), P[j] = gk (s : Int) q ∧ 1 ≤ s ∧ s ≤ 4 ∧ la < q ∧ 0 ≤ f ∧ f < k ∧ W.cell? ⟨Nt, s, none⟩ = some (.int .i64 f) ∧ (∀ o, W.frozen? ⟨Nt, o, none⟩ = false) ∧ CM w g No Nt k Q fo Co K1 P R (j + 1) q (W.setCell ⟨Nt, s, none⟩ (.int .i64 (f + 1))) := by
  obtain ⟨ft, Ct, hc, ha, hq⟩ := h
  rw [List.drop_eq_getElem_cons hj, List.cons_append] at hc
  obtain ⟨s, q, e, h1, h2, h3, h4⟩ := hc.el P[j] (List.mem_cons_self ..)
  obtain ⟨c1, -, -, -, c5⟩ := hc.eat
  obtain ⟨n, rfl⟩ : ∃ n : Nat, s = (n : Int) := ⟨s.toNat, by omega⟩
  have es : P[j].s = (n : Int) := by rw [e]
  have eq : P[j].q = q := by rw [e]
  rw [es, eq] at c1
  rw [es] at c5
  have hb := hq.blk (aB Nt Ct) (List.mem_cons_self ..)
  obtain ⟨k1, k2⟩ := arr_cell ha hb (s := n) (by omega) (by omega)
  exact ⟨n, q, ft n, e, by omega, by omega, h3, (hc.fb n).1, c5, k1, k2, _, _, c1, ha.up _ (by omega), hq.set _ _⟩
theorem CM.row {w W : World} {g No Nt k : Nat} {Q : Qu} {fo : Int → Int} {Co : Array Value} {K1 : List (Nat × Obj)} {P R : List Gv} {j : Nat} {la : Int} {rr : Value} (h : CM w g No Nt k Q fo Co K1 P R j la W) (hr : RowB K1 rr P) : IsRow W 7 rr P.length (gCells P) := by
  obtain ⟨ft, Ct, hc, ha, hq⟩ := h
  exact hq.row hr fun p hp => List.mem_cons_of_mem _ (List.mem_cons_of_mem _ hp)
theorem CM.done {w W : World} {r : Int} {g No Nt k : Nat} {Q : Qu} {fo : Int → Int} {Co : Array Value} {K1 : List (Nat × Obj)} {P : List Gv} {la : Int} (h : CM w g No Nt k Q fo Co K1 P Q.l P.length la W) (ha : Arr Co fo) (hr : Q.r = r) (hl : (Q.l.length : Int) ≤ r) : CS w r g No Nt k la W := by
  obtain ⟨ft, Ct, hc, ha', hq⟩ := h
  rw [List.drop_of_length_le (Nat.le_refl _), List.nil_append] at hc
  exact ⟨Q, fo, ft, Co, Ct, hc, hr, hl, ha, ha', hq.sub (by simp)⟩
set_option maxRecDepth 100000 in
set_option maxHeartbeats 4000000 in
theorem queueCounts_walk (room : Int) (v : Value) (l : List Int) (v2 : Value) (l2 : List Int) (w : World) (hr : IsRow w 1 v l.length (u8C l)) (hl : l.length ≤ 140737488355328) (hy : ∀ y ∈ l, 0 ≤ y ∧ y ≤ 255) (hr2 : IsRow w 1 v2 l2.length (u8C l2)) (hl2 : l2.length ≤ 140737488355328) (hy2 : ∀ y ∈ l2, 0 ≤ y ∧ y ≤ 255) :
    Calls Tryd.prog 4 #[.int .i64 room, v, v2] w fun e w' => e = .returned (.bool true) ∧ Below w.heap.size w w' := by
  obtain ⟨a0, cap0, rfl⟩ := hr.form
  obtain ⟨a2, cap2, rfl⟩ := hr2.form
  have HR : Hid (IsRow w 1 (.slice a0 l.length cap0) l.length (u8C l)) := hr
  have HY : Hid (∀ y ∈ l, 0 ≤ y ∧ y ≤ 255) := hy
  have HR2 : Hid (IsRow w 1 (.slice a2 l2.length cap2) l2.length (u8C l2)) := hr2
  have HY2 : Hid (∀ y ∈ l2, 0 ≤ y ∧ y ≤ 255) := hy2
  obtain ⟨wz1, wz2, wz3, wz4⟩ := rm_wraps room
  have hri := rmZ_in room
  have HN : Hid (Calls Tryd.prog 7 #[.int .i64 (rmZ room)] w fun e w' => ∃ g, e = .returned (qP g) ∧ QS w (newQ (rmZ room)) g [] w') := qs_new _ w hri.1 hri.2
  have HA : Hid (∀ w, Calls Tryd.prog 8 #[] w fun e w' => e = .returned (.bool true) ∧ Below w.heap.size w w') := awake18_any
  have H1 : Hid (∀ q w, Calls Tryd.prog 23 #[.int .i64 q] w fun e w' => e = .returned (evV q) ∧ Below w.heap.size w w') := oneV_ok
  clear hr hy hr2 hy2
  generalize hrr : rmZ room = r at *
  clear hrr
  go_enter Tryd.func4, Tryd.ntmps4
  go_wp2_with fail
  refine HN.out.mono ?_
  rintro e W0 ⟨g, rfl, M0⟩
  clear HN wz1 wz2 wz3 wz4
  go_wp2_with fail
  refine (HA.out _).mono ?_
  rintro e W1 ⟨rfl, hb1⟩
  have M1 := M0.below hb1
  have HM3 : Hid (CS w r g W1.heap.size (W1.heap.size + 1) 0 0 ((W1.alloc (.cells #[.int .i64 0, .int .i64 0, .int .i64 0, .int .i64 0, .int .i64 0] 62)).alloc (.cells #[.int .i64 0, .int .i64 0, .int .i64 0, .int .i64 0, .int .i64 0] 62))) := by
    have h2 := (M1.alloc (.cells #[.int .i64 0, .int .i64 0, .int .i64 0, .int .i64 0, .int .i64 0] 62)).alloc (.cells #[.int .i64 0, .int .i64 0, .int .i64 0, .int .i64 0, .int .i64 0] 62)
    refine ⟨newQ r, _, _, _, _, CI.new, rfl, by simp [newQ]; omega, Arr.zero, Arr.zero, ?_⟩
    simpa using h2
  clear M0 hb1 HA M1
  go_upto_block 0 with fail
  generalize (W1.alloc (.cells #[.int .i64 0, .int .i64 0, .int .i64 0, .int .i64 0, .int .i64 0] 62)).alloc (.cells #[.int .i64 0, .int .i64 0, .int .i64 0, .int .i64 0, .int .i64 0] 62) = W2 at *
  generalize hNo : W1.heap.size = No at *
  generalize hNt : No + 1 = Nt at *
  clear hNo hNt
  go_cut [10, 11] (fun la i wx => ∃ (k : Nat) (z : Int), la = .int .i64 z ∧ i = i ∧ k ≤ 100 ∧ CS w r g No Nt k z wx)
  case first =>
    go_wp2_with fail
    go_loopw [10, 11] (fun la i wr => ∃ (k : Nat) (z : Int), la = .int .i64 z ∧ i = .int .i64 (k : Int) ∧ k ≤ 100 ∧ k ≤ l.length ∧ CS w r g No Nt k z wr) (fun _ i _ => 100 - (intOf i).toNat)
    case atStart => exact ⟨0, 0, rfl, rfl, by omega, by omega, HM3.out⟩
    case round =>
      obtain ⟨k, z, rfl, rfl, hk100, hkl, M⟩ := hrel
      clear HM3
      by_cases hlk : k < l.length
      · have dk : decide ((k : Int) < l.length) = true := by simp; omega
        have dk' : decide (k < l.length) = true := by simp; omega
        by_cases h100 : k < 100
        · have d6 : decide ((k : Int) < 100) = true := by simp; omega
          obtain ⟨Q, fo, ft, Co, Ct, hCI, hQr, hQl, hAo, hAt, hQS⟩ := M
          obtain ⟨b, off, rfl, hlt, -, hc⟩ := u8_at HR.out (by omega)
          have y0 : wr.cell? ⟨b, off + k, none⟩ = some (.int .u8 l[k]) := (hQS.to.cell (p := ⟨b, off + k, none⟩) hlt).trans (hc k hlk)
          obtain ⟨p1, p2⟩ := HY.out l[k] (List.getElem_mem hlk)
          obtain ⟨s1, s2, s3, s4, s5⟩ := sub_wraps p1
          rw [Int.tmod_eq_emod_of_nonneg p1] at s1 s2 s3 s4 s5
          generalize l[k]'hlk = y at *
          obtain ⟨sn, hsn⟩ : ∃ sn : Nat, 1 + y % 4 = (sn : Int) := ⟨(1 + y % 4).toNat, by omega⟩
          rw [hsn] at s3
          have hn1 : 1 ≤ sn := by omega
          have hn4 : sn ≤ 4 := by omega
          have hbo := hQS.blk (aB No Co) (by simp)
          obtain ⟨c0, fz⟩ := arr_cell hAo hbo hn1 hn4
          have wk : IntKind.i64.wrap ((k : Int) + 1) = (k : Int) + 1 := wrapI (by omega) (by omega)
          have i1 : (0 : Int) ≤ (k : Int) := by omega
          have i2 : (k : Int) < (l.length : Int) := by omega
          have i3 : (0 : Int) ≤ (sn : Int) := by omega
          have i4 : (sn : Int) < 5 := by omega
          have hfo := hCI.fb (sn : Int)
          have hfo0 : 0 ≤ fo (sn : Int) := by have := hCI.ct sn (by omega) (by omega); have := cnS_pos sn Q.l; have := (hCI.ob sn).1; omega
          have wf : IntKind.i64.wrap (fo (sn : Int) + 1) = fo (sn : Int) + 1 := wrapI (by omega) (by omega)
          have HS : Hid (QS w Q g [aB Nt Ct, aB No (Co.setIfInBounds sn (.int .i64 (fo (sn : Int) + 1)))] (wr.setCell ⟨No, sn, none⟩ (.int .i64 (fo (sn : Int) + 1)))) := hQS.set2 _ _
          have HAo : Hid (Arr (Co.setIfInBounds sn (.int .i64 (fo (sn : Int) + 1))) (upI fo (sn : Int) (fo (sn : Int) + 1))) := hAo.up _ hn4
          have HAt : Hid (Arr Ct ft) := hAt
          have HCI : Hid (CI (k + 1) (offQ Q (gk (sn : Int) ((k : Int) + 1))).l (upI fo (sn : Int) (fo (sn : Int) + 1)) ft (offQ Q (gk (sn : Int) ((k : Int) + 1))).ov z) := hCI.off (by omega) (by omega)
          obtain ⟨o1, o2, o3⟩ := off_len (by rw [hQr]; exact hQl) (gk (sn : Int) ((k : Int) + 1))
          rw [hQr] at o2
          rw [o2] at o1
          have hlQ : Q.l.length ≤ 100 := by omega
          have HOf : Hid (∀ W, QS w Q g [aB Nt Ct, aB No (Co.setIfInBounds sn (.int .i64 (fo (sn : Int) + 1)))] W → Calls Tryd.prog 13 #[qP g, gV (gk (sn : Int) ((k : Int) + 1))] W fun e w' => e = .returned (.int .i64 (offE Q)) ∧ QS w (offQ Q (gk (sn : Int) ((k : Int) + 1))) g [aB Nt Ct, aB No (Co.setIfInBounds sn (.int .i64 (fo (sn : Int) + 1)))] w') := fun W hW => hW.offer _ _ (by omega) (by omega) (by omega) (by omega) (hCI.ob _).1 (by have := (hCI.ob (sn : Int)).2; omega)
          clear hc hCI hQl hAo hAt hQS hbo
          generalize offQ Q (gk (sn : Int) ((k : Int) + 1)) = Q2 at *
          generalize offE Q = eo at *
          generalize upI fo (sn : Int) (fo (sn : Int) + 1) = fo2 at *
          generalize fo (sn : Int) = f0 at *
          generalize Co.setIfInBounds sn (.int .i64 (f0 + 1)) = Co2 at *
          go_wp2_with fail
          refine (H1.out _ _).mono ?_
          rintro e w5 ⟨rfl, hb5⟩
          have M5 := HS.out.below hb5
          clear HS hb5
          go_wp2_with fail
          refine (HOf.out _ M5).mono ?_
          rintro e w6 ⟨rfl, M6⟩
          clear M5 HOf
          by_cases hp : k < l2.length
          · have dp : decide ((l2.length : Int) ≤ (k : Int)) = false := by simp; omega
            have dp' : decide (l2.length ≤ k) = false := by simp; omega
            obtain ⟨b2, off2, rfl, hlt2, -, hc2⟩ := u8_at HR2.out (by omega)
            have y2 : w6.cell? ⟨b2, off2 + k, none⟩ = some (.int .u8 l2[k]) := (M6.to.cell (p := ⟨b2, off2 + k, none⟩) hlt2).trans (hc2 k hp)
            obtain ⟨q1, q2⟩ := HY2.out l2[k] (List.getElem_mem hp)
            obtain ⟨t1, t2, t3, t4, t5⟩ := sub_wraps q1
            rw [Int.tmod_eq_emod_of_nonneg q1] at t1 t2 t3 t4 t5
            generalize l2[k]'hp = y2v at *
            have i5 : (k : Int) < (l2.length : Int) := by omega
            have HPo : Hid (∀ W, QS w Q2 g [aB Nt Ct, aB No Co2] W → Calls Tryd.prog 16 #[qP g, .int .i64 (y2v % 4)] W fun e w' => ∃ r K1, e = .returned r ∧ QS w ⟨Q2.r, Q2.l.drop (polN Q2 (y2v % 4)), Q2.ov⟩ g (K1 ++ [aB Nt Ct, aB No Co2]) w' ∧ RowB K1 r (Q2.l.take (polN Q2 (y2v % 4)))) := fun W h => h.poll (by omega) _
            have HM6 : Hid (QS w Q2 g [aB Nt Ct, aB No Co2] w6) := M6
            clear hc2 M6 c0 fz y0 hsn s1 s2 s3
            go_wp2_with fail
            refine (HPo.out _ HM6.out).mono ?_
            rintro e w7 ⟨rw7, K1, rfl, M7, hrow⟩
            clear HPo HM6
            generalize polN Q2 (y2v % 4) = n at *
            have HRow : Hid (RowB K1 rw7 (Q2.l.take n)) := hrow
            have HCM : Hid (CM w g No Nt (k + 1) ⟨Q2.r, Q2.l.drop n, Q2.ov⟩ fo2 Co2 K1 (Q2.l.take n) (Q2.l.drop n) 0 z w7) := CM.start (by rw [List.take_append_drop]; exact HCI.out) HAt.out M7
            have HDn : Hid (∀ la W, CM w g No Nt (k + 1) ⟨Q2.r, Q2.l.drop n, Q2.ov⟩ fo2 Co2 K1 (Q2.l.take n) (Q2.l.drop n) (Q2.l.take n).length la W → CS w r g No Nt (k + 1) la W) := fun la W h => CM.done (Q := ⟨Q2.r, Q2.l.drop n, Q2.ov⟩) h HAo.out o2 (by show ((Q2.l.drop n).length : Int) ≤ r; rw [List.length_drop]; omega)
            obtain ⟨ra, rc, rfl⟩ := (HCM.out.row hrow).form
            have hPl : (Q2.l.take n).length ≤ 1000 := by rw [List.length_take]; omega
            clear M7 hrow HAt HAo HCI
            generalize Q2.l.take n = P at *
            generalize Q2.l.drop n = R at *
            obtain ⟨wa, rfl⟩ : ∃ wa, wa = wr := ⟨_, rfl⟩
            go_wp2_with fail
            go_loopw [10, 14] (fun la i wr => ∃ (j : Nat) (z : Int), la = .int .i64 z ∧ i = .int .i64 (j : Int) ∧ j ≤ P.length ∧ CM w g No Nt (k + 1) ⟨Q2.r, R, Q2.ov⟩ fo2 Co2 K1 P R j z wr) (fun _ i _ => P.length - (intOf i).toNat)
            case atStart => exact ⟨0, z, rfl, rfl, by omega, HCM.out⟩
            case round =>
              obtain ⟨j, z, rfl, rfl, hj, M⟩ := hrel
              by_cases hjl : j < P.length
              · have dj : decide ((j : Int) < P.length) = true := by simp; omega
                obtain ⟨b3, off3, rfl, hb3, -, hcap3, hc3⟩ := g_at (M.row HRow.out) (by omega)
                obtain ⟨z0, z1, z2, z3, z4, z5, z6⟩ := hc3 j hjl
                obtain ⟨s, q, f, hx, h1, h4, hq, hf0, hf1, ca, fa, M'⟩ := M.at hjl
                rw [hx] at z0 z4
                have d1 : decide (q ≤ z) = false := by simp; omega
                have d2 : decide ((s : Int) < 1) = false := by simp; omega
                have d3 : decide ((4 : Int) < (s : Int)) = false := by simp; omega
                have i6 : (0 : Int) ≤ (j : Int) := by omega
                have i7 : (j : Int) < (P.length : Int) := by omega
                have i8 : (0 : Int) ≤ (s : Int) := by omega
                have i9 : (s : Int) < 5 := by omega
                have wj : IntKind.i64.wrap ((j : Int) + 1) = (j : Int) + 1 := wrapI (by omega) (by omega)
                have wf : IntKind.i64.wrap (f + 1) = f + 1 := wrapI (by omega) (by omega)
                have HM' : Hid (CM w g No Nt (k + 1) ⟨Q2.r, R, Q2.ov⟩ fo2 Co2 K1 P R (j + 1) q (wr.setCell ⟨Nt, s, none⟩ (.int .i64 (f + 1)))) := M'
                clear M M' hx hc3 z1 z2 z3 z5 z6
                go_wp2
                go_roundw
                case rel => exact ⟨j + 1, q, rfl, by simp, by omega, HM'.out⟩
                case measure => simp [intOf]; omega
              · obtain rfl : j = P.length := by omega
                have dj : decide ((P.length : Int) < P.length) = false := by simp
                have HE : Hid (CS w r g No Nt (k + 1) z wr) := HDn.out z wr M
                clear M
                go_wp2
                go_roundw
                case rel => exact ⟨k + 1, z, rfl, by simp, by omega, by omega, HE.out⟩
                case measure => simp [intOf]; omega
          · have dp : decide ((l2.length : Int) ≤ (k : Int)) = true := by simp; omega
            have dp' : decide (l2.length ≤ k) = true := by simp; omega
            have HE : Hid (CS w r g No Nt (k + 1) z w6) := ⟨Q2, fo2, ft, Co2, Ct, HCI.out, o2, o1, HAo.out, HAt.out, M6⟩
            clear M6 c0 fz y0 hsn s1 s2 s3
            go_wp2
            go_roundw
            case rel => exact ⟨k + 1, z, rfl, by simp, by omega, by omega, HE.out⟩
            case measure => simp [intOf]; omega
        · have d6 : decide ((k : Int) < 100) = false := by simp; omega
          have HM : Hid (CS w r g No Nt k z wr) := M
          clear M
          go_wp2
          go_meet
          exact ⟨k, z, rfl, trivial, by omega, HM.out⟩
      · obtain rfl : k = l.length := by omega
        have dk : decide ((l.length : Int) < l.length) = false := by simp
        have HM : Hid (CS w r g No Nt l.length z wr) := M
        clear M
        go_wp2
        go_meet
        exact ⟨l.length, z, rfl, trivial, by omega, HM.out⟩
  case rest =>
  obtain ⟨k, z, rfl, -, hk, Q, fo, ft, Co, Ct, hCI, hQr, hQl, hAo, hAt, hQS⟩ := hcut
  have HPk : Hid (∀ W, QS w Q g [aB Nt Ct, aB No Co] W → Calls Tryd.prog 22 #[qP g] W fun e w' => ∃ r K1, e = .returned r ∧ QS w Q g (K1 ++ [aB Nt Ct, aB No Co]) w' ∧ RowB K1 r Q.l) := fun W h => h.peek (by omega) hCI.gs
  have HCI : Hid (CI k (Q.l ++ []) fo ft Q.ov z) := by show CI _ _ _ _ _ _; rw [List.append_nil]; exact hCI
  have HAo : Hid (Arr Co fo) := hAo
  have HAt : Hid (Arr Ct ft) := hAt
  have hQl1 : Q.l.length ≤ 1000 := by omega
  clear hCI hAo hAt HM3 HR HY HR2 HY2 H1
  go_wp2_with fail
  refine (HPk.out _ hQS).mono ?_
  rintro e w7 ⟨rw7, K1, rfl, M7, hrow⟩
  have HRow : Hid (RowB K1 rw7 Q.l) := hrow
  have HCM : Hid (CM w g No Nt k Q fo Co K1 Q.l [] 0 z w7) := CM.start HCI.out HAt.out M7
  obtain ⟨ra, rc, rfl⟩ := (HCM.out.row hrow).form
  clear HPk hQS M7 hrow HCI HAt
  go_upto_block 4 with fail
  go_cut [10, 16] (fun a b wx => a = a ∧ b = b ∧ ∃ z, CM w g No Nt k Q fo Co K1 Q.l [] Q.l.length z wx)
  case first =>
    as_aux_lemma =>
    go_wp2_with fail
    go_loopw [10, 16] (fun la i wr => ∃ (j : Nat) (z : Int), la = .int .i64 z ∧ i = .int .i64 (j : Int) ∧ j ≤ Q.l.length ∧ CM w g No Nt k Q fo Co K1 Q.l [] j z wr) (fun _ i _ => Q.l.length - (intOf i).toNat)
    case atStart => exact ⟨0, z, rfl, rfl, by omega, HCM.out⟩
    case round =>
      clear HCM
      obtain ⟨j, z, rfl, rfl, hj, M⟩ := hrel
      by_cases hjl : j < Q.l.length
      · have dj : decide ((j : Int) < Q.l.length) = true := by simp; omega
        obtain ⟨b3, off3, rfl, hb3, -, hcap3, hc3⟩ := g_at (M.row HRow.out) (by omega)
        obtain ⟨z0, z1, z2, z3, z4, z5, z6⟩ := hc3 j hjl
        obtain ⟨s, q, f, hx, h1, h4, hq, hf0, hf1, ca, fa, M'⟩ := M.at hjl
        rw [hx] at z0 z4
        have d1 : decide (q ≤ z) = false := by simp; omega
        have d2 : decide ((s : Int) < 1) = false := by simp; omega
        have d3 : decide ((4 : Int) < (s : Int)) = false := by simp; omega
        have i6 : (0 : Int) ≤ (j : Int) := by omega
        have i7 : (j : Int) < (Q.l.length : Int) := by omega
        have i8 : (0 : Int) ≤ (s : Int) := by omega
        have i9 : (s : Int) < 5 := by omega
        have wj : IntKind.i64.wrap ((j : Int) + 1) = (j : Int) + 1 := wrapI (by omega) (by omega)
        have wf : IntKind.i64.wrap (f + 1) = f + 1 := wrapI (by omega) (by omega)
        have HM' : Hid (CM w g No Nt k Q fo Co K1 Q.l [] (j + 1) q (wr.setCell ⟨Nt, s, none⟩ (.int .i64 (f + 1)))) := M'
        clear M M' hx hc3 z1 z2 z3 z5 z6
        go_wp2
        go_roundw
        case rel => exact ⟨j + 1, q, rfl, by simp, by omega, HM'.out⟩
        case measure => simp [intOf]; omega
      · obtain rfl : j = Q.l.length := by omega
        have dj : decide ((Q.l.length : Int) < Q.l.length) = false := by simp
        have HE : Hid (CM w g No Nt k Q fo Co K1 Q.l [] Q.l.length z wr) := M
        clear M
        go_wp2
        go_meet
        exact ⟨trivial, trivial, z, HE.out⟩
  case rest =>
  obtain ⟨-, -, z2, ft2, Ct2, hC2, hA2, hQ2⟩ := hcut
  rw [List.drop_of_length_le (Nat.le_refl _), List.nil_append] at hC2
  have HQ2 : Hid (QS w Q g (aB Nt Ct2 :: aB No Co :: K1) wc) := hQ2
  have HEq : Hid (∀ s : Nat, 1 ≤ s → s ≤ 4 → fo (s : Int) = ft2 (s : Int) + Q.ov (s : Int) ∧ 0 ≤ ft2 (s : Int) ∧ 0 ≤ Q.ov (s : Int) ∧ Q.ov (s : Int) ≤ 1000 ∧ fo (s : Int) ≤ 1000) := fun s h1 h4 => by
    have := hC2.ct s (by omega) (by omega)
    rw [cnS_nil] at this
    have a := hC2.fb (s : Int)
    have b := hC2.ob (s : Int)
    exact ⟨by omega, a.1, b.1, by omega, by omega⟩
  have HA2 : Hid (Arr Ct2 ft2) := hA2
  clear hC2 hA2 hQ2 HCM HRow
  go_upto_block 6 with fail
  go_cut [17] (fun a wx => a = a ∧ Below wc.heap.size wc wx)
  case first =>
    as_aux_lemma =>
    go_wp2_with fail
    go_loopw [17] (fun a wr => ∃ s : Nat, 1 ≤ s ∧ s ≤ 5 ∧ a = .int .i64 (s : Int) ∧ Below wc.heap.size wc wr) (fun a _ => 5 - (intOf a).toNat)
    case atStart => exact ⟨1, by omega, by omega, rfl, Below.refl _ _⟩
    case round =>
      obtain ⟨s, hs1, hs5, rfl, hB⟩ := hrel
      have HB : Hid (∀ n, Below wc.heap.size wc (wr.drewN n)) := fun n => ⟨hB.os, hB.tape, hB.output, hB.size, hB.block⟩
      have M := HQ2.out.below hB
      clear hB
      by_cases h4 : s ≤ 4
      · have d4 : decide ((s : Int) ≤ 4) = true := by simp; omega
        have i1 : (0 : Int) ≤ (s : Int) := by omega
        have i2 : (s : Int) < 5 := by omega
        have wk : IntKind.i64.wrap ((s : Int) + 1) = (s : Int) + 1 := wrapI (by omega) (by omega)
        obtain ⟨c0, -⟩ := arr_cell HAo.out (M.blk (aB No Co) (by simp)) hs1 h4
        obtain ⟨c1, -⟩ := arr_cell HA2.out (M.blk (aB Nt Ct2) (by simp)) hs1 h4
        obtain ⟨e1, e2, e3, e4, e5⟩ := HEq.out s hs1 h4
        have HO : Hid (∀ W, Below wr.heap.size wr W → Calls Tryd.prog 20 #[qP g, .int .i64 (s : Int)] W fun e w' => e = .returned (.int .i64 (Q.ov (s : Int))) ∧ w' = W) := fun W h => (M.below h).over _
        have wf : IntKind.i64.wrap (ft2 (s : Int) + Q.ov (s : Int)) = fo (s : Int) := by rw [e1]; exact wrapI (by omega) (by omega)
        have n0 : (fo (s : Int) != fo (s : Int)) = false := by simp
        clear M e1 e2 e3 e4 e5
        generalize fo (s : Int) = x0 at *
        generalize ft2 (s : Int) = x1 at *
        generalize Q.ov (s : Int) = x2 at *
        go_wp2_with fail
        go_quiet ((go_at_call 20; exact Calls.quiet_of_same (HO.out _ ⟨rfl, rfl, rfl, Nat.le_refl _, fun _ _ => rfl⟩)))
        go_wp2
        go_roundw
        case rel => exact ⟨s + 1, by omega, by omega, by simp, HB.out _⟩
        case measure => simp [intOf]; omega
      · have d4 : decide ((s : Int) ≤ 4) = false := by simp; omega
        clear M
        go_wp2
        go_meet
        exact ⟨trivial, HB.out 0⟩
  case rest =>
  obtain ⟨-, hB7⟩ := hcut
  have M := HQ2.out.below hB7
  have HL : Hid (Calls Tryd.prog 19 #[qP g] wc fun e w' => e = .returned (.int .i64 Q.l.length) ∧ w' = wc) := M.len
  have HRm : Hid (Calls Tryd.prog 9 #[qP g] wc fun e w' => e = .returned (.int .i64 r) ∧ w' = wc) := by rw [← hQr]; exact M.room
  have HF : Hid (Below w.heap.size w wc) := M.to
  have dd : decide ((Q.l.length : Int) ≤ r) = true := decide_eq_true hQl
  clear M hB7 HQ2 hQl
  go_wp2_with fail
  refine HL.out.mono ?_
  rintro e w8 ⟨rfl, h8⟩
  obtain rfl := h8.symm
  go_wp2_with fail
  refine HRm.out.mono ?_
  rintro e w8 ⟨rfl, h8⟩
  obtain rfl := h8.symm
  clear HL HRm
  go_wp2
  go_ret
  exact ⟨rfl, HF.out⟩
end Go.Proofs.YtnldibcfpbignaaDoor
