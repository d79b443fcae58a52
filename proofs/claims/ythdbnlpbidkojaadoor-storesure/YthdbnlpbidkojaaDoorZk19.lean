/- StoreSure: its walk. -/
import Derived.Test.YthdbnlpbidkojaaDoorZk11
import Derived.Test.YthdbnlpbidkojaaDoorZk18
import Derived.Test.YthdbnlpbidkojaaDoorZk5
import Derived.Shelf.GgSortFunc.SW
namespace Go.Proofs.YthdbnlpbidkojaaDoor
open Go.RowKit Go.ChangeMaps

theorem int_keep {base : Nat} {w w' : World} {g : Nat} {C : Array Value} {z : Nat × Nat} {v : Value} {n : Nat} {xs : List Value} (h : w.ownsRow base 3 1 v n xs) (hg : w.heap[g]? = some (.cells C 71 z)) (hs : Stp w (fun k => k = g) (fun k => k = g) w') : w'.ownsRow base 3 1 v n xs :=
  own_keep h fun j C' z' hj => hs.block j (Array.getElem?_eq_some_iff.1 hj).1 fun e => by
    rw [e, hg] at hj
    exact absurd (Obj.cells.inj (Option.some.inj hj)).2.1 (by decide)
/-- What Find leaves of the type that is kept. -/
def FsP (L : List Int) (w : World) (e : Ending) (w' : World) : Prop := ∃ a1 c1 a2 c2 a3 c3 a4 c4, e = .returned (.tuple #[.agg #[.string ⟨#[97, 46, 98]⟩, .string ⟨#[]⟩, .slice a1 0 c1, .slice a2 0 c2, .slice a3 1 c3, .int .i64 3, .int .i64 2, .int .i64 9, .bool (decide (L = [])), .slice a4 L.length c4], .bool true]) ∧ w'.ownsRow w.heap.size 3 1 (.slice a4 L.length c4) L.length (iCells L) ∧ Below w.heap.size w w'
theorem findSu_any {base : Nat} {w : World} {s m g : Nat} {X : Nat → Kp} {L : List Int} (h : StV base w s m [(suK, g)] X) (hX : X g = ⟨suT, decide (L = []), inW L⟩) (hP : NodesP L) (hT : UT w) :
    Calls Tryd.prog 14 #[stP s, .string ⟨#[97, 46, 98]⟩] w fun e w' => FsP L w e w' := by
  have hl := findS_some h ⟨#[97, 46, 98]⟩ (by decide) (g := g) (by rw [suLk]; exact if_pos (by kernel_rfl)) (by rw [hX]; exact (by decide : suT.own.length ≤ 1000)) (by rw [hX]; exact (by decide : suT.all.length ≤ 1000)) (by rw [hX]; exact (by decide : suT.ch.length ≤ 1000)) hT
  refine hl.mono ?_
  rintro e w' ⟨v1, v2, v3, vw, rfl, ho, hw, hb⟩
  rw [hX] at ho hw ⊢
  dsimp only at ho hw ⊢
  rw [nodK_in hP] at hw
  obtain ⟨a1, c1, rfl⟩ := (IsRow.own ho.1).form
  obtain ⟨a2, c2, rfl⟩ := (IsRow.own ho.2.1).form
  obtain ⟨a3, c3, rfl⟩ := (IsRow.own ho.2.2).form
  obtain ⟨a4, c4, rfl⟩ := (IsRow.own hw).form
  exact ⟨a1, c1, a2, c2, a3, c3, a4, c4, rfl, hw, hb⟩
set_option maxRecDepth 100000 in
set_option maxHeartbeats 8000000 in
theorem storeSure_walk (vn : Value) (nodes : List Int) (vw : Value) (words : List Ac) (w : World) (hrn : IsRow w 1 vn nodes.length (iCells nodes)) (hln : nodes.length ≤ 140737488355328) (hrw : IsRow w 15 vw words.length (acCells words)) (hlw : words.length ≤ 140737488355328) (hT : UT w) (hM : ML w) :
    Calls Tryd.prog 3 #[vn, vw] w fun e w' => e = .returned (.bool true) ∧ Below w.heap.size w w' := by
  obtain ⟨an, cn, rfl⟩ := hrn.form
  obtain ⟨aw, cw, rfl⟩ := hrw.form
  have HRn : Hid (∀ W, Below w.heap.size w W → IsRow W 1 (.slice an nodes.length cn) nodes.length (iCells nodes)) := fun W hb => hrn.below hb
  have HRw : Hid (∀ W, Below w.heap.size w W → IsRow W 15 (.slice aw words.length cw) words.length (acCells words)) := fun W hb => hrw.below hb
  have HFar : Hid (nodes ≠ [] → ∀ p a c, Value.slice an nodes.length cn = .slice (some p) a c → p.block < w.heap.size) := fun hn p a c e => by
    obtain ⟨b0, off0, cap0, hv, hlt, -⟩ := hrn.open (by have := List.length_pos_iff.2 hn; omega)
    rw [hv] at e
    cases e
    exact hlt
  have HT : Hid (∀ W, Below w.heap.size w W → UT W ∧ ML W) := fun W hb => ⟨Utf8Tabs_below hT hb, ML_below hM hb⟩
  have HAw : Hid (∀ W, Below w.heap.size w W → Calls Tryd.prog 7 #[] W fun e w' => e = .returned (.bool true) ∧ Below W.heap.size W w') := fun W hb => awake17_any W (HT.out W hb).1 (HT.out W hb).2
  have HRo : Hid (∀ W, Below w.heap.size w W → Calls Tryd.prog 5 #[.string ⟨#[97, 46, 98]⟩, .slice none 0 0, idV 3 2 9] W fun e w' => MkP (suT, 0) W e w') := fun W hb => suRoot ▸ root_any ⟨#[97, 46, 98]⟩ (.slice none 0 0) [] 3 2 9 W (by decide) (IsRow.nil _ _) (by decide) (fun x hx => by simp at hx) (HT.out W hb).1 (HT.out W hb).2
  have HAl : Hid (∀ n : ByteArray, n.size ≤ 1000000 → ∀ W, Calls Tryd.prog 11 #[.string n, .string ⟨#[97, 46, 98]⟩] W fun e w' => e = .returned (.bool (sameL n.data.toList [97, 46, 98])) ∧ Below W.heap.size W w') := fun n hn W => alikeU_any n ⟨#[97, 46, 98]⟩ W hn (by decide)
  have HRf : Hid (¬ NodesP nodes → ∀ W, Below w.heap.size w W → Calls Tryd.prog 10 #[.slice an nodes.length cn] W fun e w' => e = .returned (.bool false) ∧ Below W.heap.size W w') := fun hP W hb => by
    have := refNodesG_any _ nodes W (hrn.below hb) hln
    rw [nodesB_false hP] at this
    exact this
  obtain ⟨w1, hw1⟩ : ∃ w1, w1 = w.alloc (.cells #[.int .i64 3, .int .i64 2, .int .i64 9] 25) := ⟨_, rfl⟩
  have B1 : Hid (Below w.heap.size w w1) := by show Below _ _ _; rw [hw1]; exact al_b _ _
  have hn1 : w1.heap[w.heap.size]? = some (.cells #[.int .i64 3, .int .i64 2, .int .i64 9] 25 (0, 0)) := by rw [hw1]; exact new_at _ _
  have HI : Hid (∀ W, Below w1.heap.size w1 W → W.cell? ⟨w.heap.size, 0, none⟩ = some (.int .i64 3) ∧ W.cell? ⟨w.heap.size, 1, none⟩ = some (.int .i64 2) ∧ W.cell? ⟨w.heap.size, 2, none⟩ = some (.int .i64 9)) := fun W hb => by
    have hk := (hb.block _ (Array.getElem?_eq_some_iff.1 hn1).1).trans hn1
    exact ⟨by rw [Lib.cell_of_heap hk]; rfl, by rw [Lib.cell_of_heap hk]; rfl, by rw [Lib.cell_of_heap hk]; rfl⟩
  clear hn1 hT hM hrn hrw
  obtain ⟨i0, i1, i2⟩ := HI.out w1 (Below.refl _ _)
  rw [hw1] at i0 i1 i2
  go_enter Tryd.func3, Tryd.ntmps3
  go_wp2_with fail
  rw [← hw1]
  clear hw1 i0 i1 i2
  refine (HRo.out _ B1.out).mono ?_
  rintro e w2 ⟨⟨t, ao, co, aa, ca, ac, cc⟩, rfl, ht, hty, hnew, hb⟩
  dsimp only at ht hty
  subst ht
  have D2 : Hid (Below w1.heap.size w1 w2) := hb
  have HTy : Hid (∀ W, CKp w2 W → IsTy W suT (.slice ao suT.own.length co) (.slice aa suT.all.length ca) (.slice ac suT.ch.length cc)) := fun W h => h.ty hty
  clear hb hty hnew
  obtain ⟨w3, hw3⟩ : ∃ w3, w3 = w2.alloc (.cells (tyA suT (.slice ao suT.own.length co) (.slice aa suT.all.length ca) (.slice ac suT.ch.length cc)) 29) := ⟨_, rfl⟩
  have D3 : Hid (Below w2.heap.size w2 w3) := by show Below _ _ _; rw [hw3]; exact al_b _ _
  have hn3 : w3.heap[w2.heap.size]? = some (.cells (tyA suT (.slice ao suT.own.length co) (.slice aa suT.all.length ca) (.slice ac suT.ch.length cc)) 29 (0, 0)) := by rw [hw3]; exact new_at _ _
  have B3 : Hid (Below w1.heap.size w1 w3) := D2.out.trans (D3.out.mono D2.out.size)
  have A3 : Hid (Below w.heap.size w w3) := B1.out.trans (B3.out.mono B1.out.size)
  go_wp2_with fail
  rw [← hw3]
  clear hw3
  refine (storeNew_any w3 (fun _ => ⟨suT, false, zW⟩)).mono ?_
  rintro e w4 ⟨s, m, rfl, hS, hb⟩
  have D4 : Hid (Below w3.heap.size w3 w4) := hb
  have HS4 : Hid (StV w3.heap.size w4 s m [] (fun _ => ⟨suT, false, zW⟩)) := hS
  have A4 : Hid (Below w.heap.size w w4) := A3.out.trans (D4.out.mono A3.out.size)
  clear hb hS
  go_wp2_with fail
  refine (HAw.out _ A4.out).mono ?_
  rintro e w5 ⟨rfl, hb⟩
  have D5 : Hid (Below w4.heap.size w4 w5) := hb
  have D35 : Hid (Below w3.heap.size w3 w5) := D4.out.trans (hb.mono D4.out.size)
  have A5 : Hid (Below w.heap.size w w5) := A4.out.trans (hb.mono A4.out.size)
  clear hb HAw HRo
  obtain ⟨⟨p0, p1, p2, p3⟩, p4, p5, p6, p7⟩ := BxT.of ((D35.out.block _ (Array.getElem?_eq_some_iff.1 hn3).1).trans hn3)
  have hPu := put_new (HS4.out.below D5.out) (Nat.le_trans D4.out.size D5.out.size) suT _ _ _ (HTy.out w5 ((CKp.of D3.out).trans (CKp.of D35.out))) (by decide) (by decide) (by decide) suNm (HT.out w5 A5.out).1 (HT.out w5 A5.out).2 suChk (fun _ => by decide) (fun g0 h => by cases h)
  have hlm : w3.heap.size ≤ m := HS4.out.lm
  clear hn3 HTy HS4
  go_wp2_with fail
  clear p0 p1 p2 p3 p4 p5 p6 p7
  refine hPu.mono ?_
  rintro e w6 ⟨g, v1, v2, v3, rfl, hS6, hg6, hs6, -⟩
  have hbg : w3.heap.size ≤ g := Nat.le_trans D35.out.size hg6
  have D6 : Hid (Below w3.heap.size w3 w6) := D35.out.trans (hs6.below D35.out.size fun k hk => by omega)
  have A6 : Hid (Below w.heap.size w w6) := A3.out.trans (D6.out.mono A3.out.size)
  have hE : stS [] (fldB suT.n) g = [(suK, g)] := by simp [stS, lkS, suK, suT]
  rw [hE] at hS6
  have HS6 : Hid (∃ X, StV w3.heap.size w6 s m [(suK, g)] X ∧ X g = ⟨suT, false, zW⟩) := ⟨_, hS6, if_pos rfl⟩
  have hlk : lkS [(suK, g)] (fldB ⟨#[65, 46, 66]⟩) = some g := by rw [suK_up]; simp [lkS]
  clear hPu hS6 hs6 hE hg6 D4 D5 A4
  by_cases hP : NodesP nodes
  rotate_left
  · have hBe := beginG_bad w6 s ⟨#[65, 46, 66]⟩ _ nodes (HRn.out w6 A6.out) hln hP
    have hRf := HRf.out hP
    have HRf' : Hid (∀ W, Below w.heap.size w W → Calls Tryd.prog 10 #[.slice an nodes.length cn] W fun e w' => e = .returned (.bool false) ∧ Below W.heap.size W w') := hRf
    clear hP hRf HRf HRn HRw HI HAl HFar HS6 hlk hlm hbg
    go_wp2_with fail
    refine hBe.mono ?_
    rintro e w7 ⟨rfl, rfl⟩
    go_wp2_with fail
    refine (HRf'.out _ A6.out).mono ?_
    rintro e w8 ⟨rfl, hb⟩
    have A8 : Hid (Below w.heap.size w w8) := A6.out.trans (hb.mono A6.out.size)
    clear hb
    go_wp2
    go_ret
    exact ⟨rfl, A8.out⟩
  have hl15 := nodes_len hP
  obtain ⟨X6, hS6, hX6⟩ := HS6.out
  have hBe := begin_new hS6 ⟨#[65, 46, 66]⟩ (by decide) (g := g) hlk _ nodes (HRn.out w6 A6.out) (by omega) hP (fun hn p a c e => by have := HFar.out hn p a c e; have := A3.out.size; omega) (HT.out w6 A6.out).1
  have HP0 : Hid (NodesP nodes) := hP
  have HX6 : Hid (X6 g = ⟨suT, false, zW⟩) := hX6
  clear HS6 hP hX6 hS6 HRf HFar
  go_wp2_with fail
  refine hBe.mono ?_
  rintro e w7 ⟨rfl, hS7, hs7⟩
  have D7 : Hid (Below w3.heap.size w3 w7) := D6.out.trans (hs7.below D6.out.size fun k hk => by omega)
  have A7 : Hid (Below w.heap.size w w7) := A3.out.trans (D7.out.mono A3.out.size)
  have HS7 : Hid (∃ X, StV w3.heap.size w7 s m [(suK, g)] X ∧ X g = ⟨suT, decide (nodes = []), inW nodes⟩) := ⟨_, hS7, by show upX _ _ _ _ = _; unfold upX; rw [if_pos rfl, HX6.out]⟩
  have hs37 := D7.out.size
  clear hBe hS7 hs7 HX6 D6 A6
  have HRn7 := HRn.out w7 A7.out
  have hd0 : ((nodes.length : Int) == 0) = decide (nodes = []) := by
    cases nodes with
    | nil => rfl
    | cons x r =>
      rw [decide_eq_false (by simp), beq_eq_false_iff_ne, List.length_cons]
      omega
  go_upto_region 12 with (at_builtin; go_loud (refine wpl_ins w7 rfl (.tmp 56) (.tmp 57) rfl w7.heap.size (.slice none 0 0) _ [] nodes rfl rfl (World.ownsRow_nil _ _ _ _) HRn7 (by rw [List.length_nil]; omega) (Nat.le_refl _) ?_; intro v8 w8 ho8 hb8; rw [List.nil_append] at ho8; obtain ⟨va8, vc8, rfl⟩ := (IsRow.own ho8).form))
  have D8 : Hid (Below w3.heap.size w3 w8) := D7.out.trans (hb8.mono hs37)
  have HO8 : Hid (w8.ownsRow w3.heap.size 3 1 (.slice va8 nodes.length vc8) nodes.length (iCells nodes)) := own_leT ho8 hs37
  have HS8 : Hid (∃ X, StV w3.heap.size w8 s m [(suK, g)] X ∧ X g = ⟨suT, decide (nodes = []), inW nodes⟩) := by
    obtain ⟨X, h1, h2⟩ := HS7.out
    exact ⟨X, h1.below hb8, h2⟩
  clear ho8 hb8 HRn7 HS7 D7 A7
  go_wp2_with fail
  clear hd0
  go_loopw [11, 12] (fun lv i wr => ∃ (k : Nat) (L : List Int) (va : Option Addr) (vc : Nat), k ≤ words.length ∧ k ≤ 40 ∧ lv = .slice va L.length vc ∧ i = .int .i64 (k : Int) ∧ Hid (NodesP L) ∧ Hid (∃ X, StV w3.heap.size wr s m [(suK, g)] X ∧ X g = ⟨suT, decide (L = []), inW L⟩) ∧ Hid (wr.ownsRow w3.heap.size 3 1 (.slice va L.length vc) L.length (iCells L)) ∧ Hid (Below w3.heap.size w3 wr)) (fun _ i _ => words.length - (intOf i).toNat)
  case atStart => exact ⟨0, nodes, va8, vc8, Nat.zero_le _, Nat.zero_le _, rfl, rfl, HP0, HS8, HO8, D8⟩
  case round =>
    obtain ⟨k, L, va, vc, hk, hk40, rfl, rfl, HP, HS, HO, HD⟩ := hrel
    clear HS8 HO8 D8 HP0 D35
    by_cases hlk2 : k < words.length
    rotate_left
    · have dk : decide ((k : Int) < (words.length : Int)) = false := by simp; omega
      have HBz : Hid (Below w.heap.size w wr) := A3.out.trans (HD.out.mono A3.out.size)
      clear HP HS HO
      go_wp2
      go_ret
      exact ⟨rfl, HBz.out⟩
    have dk : decide ((k : Int) < (words.length : Int)) = true := by simp; omega
    by_cases hk4 : k < 40
    rotate_left
    · have dk4 : decide ((k : Int) < 40) = false := by simp; omega
      have HBz : Hid (Below w.heap.size w wr) := A3.out.trans (HD.out.mono A3.out.size)
      clear HP HS HO
      go_wp2
      go_ret
      exact ⟨rfl, HBz.out⟩
    have dk4 : decide ((k : Int) < 40) = true := by simp; omega
    have HBr : Hid (Below w.heap.size w wr) := A3.out.trans (HD.out.mono A3.out.size)
    obtain ⟨bq, off, hac, hltb, hc⟩ := ac_at (HRw.out wr HBr.out) (by omega)
    have q1 : (0 : Int) ≤ (k : Int) := by omega
    have q2 : (k : Int) < (words.length : Int) := by omega
    have hcc := hc k hlk2
    generalize words[k]'hlk2 = x at *
    obtain ⟨kd, ⟨t, ao, co, aa, ca, ac, cc⟩, n, lp, lc, l, a, b, c, N⟩ := x
    subst hac
    have y0 := hcc 0 _ rfl
    have y1 := hcc 1 _ rfl
    have y2 := hcc 2 _ rfl
    have y3 := hcc 3 _ rfl
    have y4 := hcc 4 _ rfl
    have y5 := hcc 5 _ rfl
    have y6 := hcc 6 _ rfl
    have y7 := hcc 7 _ rfl
    have y8 := hcc 8 _ rfl
    have y9 := hcc 9 _ rfl
    have y10 := hcc 10 _ rfl
    have y11 := hcc 11 _ rfl
    have y12 := hcc 12 _ rfl
    have y13 := hcc 13 _ rfl
    have y14 := hcc 14 _ rfl
    rw [Nat.add_zero] at y0
    dsimp only [LT.vo, LT.va, LT.vc] at y0 y1 y2 y3 y4 y5 y6 y7 y8 y9 y10 y11 y12 y13 y14
    clear hc hcc
    have hd0 : ((L.length : Int) == 0) = decide (L = []) := by
      cases L with
      | nil => rfl
      | cons x r =>
        rw [decide_eq_false (by simp), beq_eq_false_iff_ne, List.length_cons]
        omega
    have hL15 := nodes_len HP.out
    have HUT : Hid (∀ W, Below wr.heap.size wr W → UT W) := fun W hb => (HT.out W (HBr.out.trans (hb.mono HBr.out.size))).1
    have HIW : Hid (∀ W, Below wr.heap.size wr W → W.cell? ⟨w.heap.size, 0, none⟩ = some (.int .i64 3) ∧ W.cell? ⟨w.heap.size, 1, none⟩ = some (.int .i64 2) ∧ W.cell? ⟨w.heap.size, 2, none⟩ = some (.int .i64 9)) := fun W hb => HI.out W (B3.out.trans ((HD.out.trans (hb.mono HD.out.size)).mono B3.out.size))
    have HSd : Hid (∀ W, Below wr.heap.size wr W → n.size ≤ 1000000 → Calls Tryd.prog 13 #[stP s, .string n, idV a b c, .int .i64 N] W fun e w' => SdP w3.heap.size W s m g (cntW n a b c N L) (witho L N) e w') := fun W hb hn => by
      obtain ⟨X, h1, h2⟩ := HS.out
      exact stored_any (h1.below hb) h2 HP.out n hn a b c N (HUT.out W hb)
    have HFd : Hid (∀ W, Below wr.heap.size wr W → Calls Tryd.prog 14 #[stP s, .string ⟨#[97, 46, 98]⟩] W fun e w' => FsP L W e w') := fun W hb => by
      obtain ⟨X, h1, h2⟩ := HS.out
      exact findSu_any (h1.below hb) h2 HP.out (HUT.out W hb)
    have HHs : Hid (∀ W, Below wr.heap.size wr W → Calls Tryd.prog 12 #[.slice va L.length vc, .int .i64 N] W fun e w' => e = .returned (.bool (decide (N ∈ L))) ∧ w' = W) := fun W hb => has_any _ L N W ((IsRow.own HO.out).below hb) (by omega)
    have HSa : Hid (∀ W v, Below wr.heap.size wr W → IsRow W 1 v L.length (iCells L) → Calls Tryd.prog 15 #[v, .slice va L.length vc] W fun e w' => e = .returned (.bool true) ∧ Below W.heap.size W w') := fun W v hb hv => same_eq v _ L W hv ((IsRow.own HO.out).below hb) (by omega)
    obtain ⟨w101, hw101⟩ : ∃ w101, w101 = wr.alloc (.cells (acA ⟨kd, ⟨t, ao, co, aa, ca, ac, cc⟩, n, lp, lc, l, a, b, c, N⟩) 41) := ⟨_, rfl⟩
    have B101 : Hid (Below wr.heap.size wr w101) := by show Below _ _ _; rw [hw101]; exact al_b _ _
    have hn101 : w101.heap[wr.heap.size]? = some (.cells (acA ⟨kd, ⟨t, ao, co, aa, ca, ac, cc⟩, n, lp, lc, l, a, b, c, N⟩) 41 (0, 0)) := by rw [hw101]; exact new_at _ _
    have C101 : Hid (∀ W, Below w101.heap.size w101 W → W.heap[wr.heap.size]? = some (.cells (acA ⟨kd, ⟨t, ao, co, aa, ca, ac, cc⟩, n, lp, lc, l, a, b, c, N⟩) 41 (0, 0))) := fun W h => (h.block _ (Array.getElem?_eq_some_iff.1 hn101).1).trans hn101
    clear hn101
    have hk := C101.out w101 (Below.refl _ _)
    have c101_9 : w101.cell? ⟨wr.heap.size, 9, none⟩ = some (.string n) := by rw [Lib.cell_of_heap hk]; rfl
    clear hk
    by_cases hn2 : n.size ≤ 200
    rotate_left
    · have d2 : decide ((200 : Int) < (n.size : Int)) = true := by simp; omega
      have HSz : Hid (∃ X, StV w3.heap.size w101 s m [(suK, g)] X ∧ X g = ⟨suT, decide (L = []), inW L⟩) := by
        obtain ⟨X, h1, h2⟩ := HS.out
        exact ⟨X, h1.below B101.out, h2⟩
      have HOz : Hid (w101.ownsRow w3.heap.size 3 1 (.slice va L.length vc) L.length (iCells L)) := own_belowE HO.out B101.out
      have HDz : Hid (Below w3.heap.size w3 w101) := HD.out.trans (B101.out.mono HD.out.size)
      clear HSd HFd HHs HSa HUT HIW HS HO HD hn2
      rw [hw101] at c101_9
      go_wp2
      rw [← hw101]
      go_roundw
      case rel => exact ⟨k + 1, L, va, vc, by omega, by omega, rfl, by simp, HP, HSz, HOz, HDz⟩
      case measure => simp [intOf]; omega
    have d2 : decide ((200 : Int) < (n.size : Int)) = false := by simp; omega
    have hnm : n.size ≤ 1000000 := by omega
    have HAn := HAl.out n hnm
    have HAn' : Hid (∀ W, Calls Tryd.prog 11 #[.string n, .string ⟨#[97, 46, 98]⟩] W fun e w' => e = .returned (.bool (sameL n.data.toList [97, 46, 98])) ∧ Below W.heap.size W w') := HAn
    have HSd' : Hid (∀ W, Below wr.heap.size wr W → Calls Tryd.prog 13 #[stP s, .string n, idV a b c, .int .i64 N] W fun e w' => SdP w3.heap.size W s m g (cntW n a b c N L) (witho L N) e w') := fun W hb => HSd.out W hb hnm
    clear HAn HSd hn2 hnm
    obtain ⟨A, hA⟩ : ∃ A, sameL n.data.toList [97, 46, 98] = A := ⟨_, rfl⟩
    have HCn : Hid (cntW n a b c N L = (A && (decide (a = 3 ∧ b = 2 ∧ c = 9) && decide (N ∈ L)))) := by show _ = _; unfold cntW; rw [hA]
    rw [hA] at HAn'
    clear hA
    generalize cntW n a b c N L = cnt at *
    rw [hw101] at c101_9
    go_wp2_with fail
    rw [← hw101]
    clear hw101 y0 y1 y2 y3 y4 y5 y6 y7 y8 y9 y10 y11 y12 y13 y14
    clear c101_9
    refine (HAn'.out _).mono ?_
    rintro e w102 ⟨rfl, hb⟩
    have B102 : Hid (Below w101.heap.size w101 w102) := hb
    clear hb HAn'
    cases A
    · have hcf : cnt = false := by rw [HCn.out, Bool.false_and]
      clear HHs HCn HIW
      have hk := C101.out w102 B102.out
      have c101_9 : w102.cell? ⟨wr.heap.size, 9, none⟩ = some (.string n) := by rw [Lib.cell_of_heap hk]; rfl
      have c101_11 : w102.cell? ⟨wr.heap.size, 11, none⟩ = some (.int .i64 a) := by rw [Lib.cell_of_heap hk]; rfl
      have c101_12 : w102.cell? ⟨wr.heap.size, 12, none⟩ = some (.int .i64 b) := by rw [Lib.cell_of_heap hk]; rfl
      have c101_13 : w102.cell? ⟨wr.heap.size, 13, none⟩ = some (.int .i64 c) := by rw [Lib.cell_of_heap hk]; rfl
      have c101_14 : w102.cell? ⟨wr.heap.size, 14, none⟩ = some (.int .i64 N) := by rw [Lib.cell_of_heap hk]; rfl
      clear hk
      go_wp2_with fail
      clear c101_9 c101_11 c101_12 c101_13 c101_14
      refine (HSd'.out _ (bTS B101.out B102.out)).mono ?_
      rintro e ws hSd
      obtain ⟨rfl, hb⟩ := hSd.1 hcf
      have Bs : Hid (Below w102.heap.size w102 ws) := hb
      clear hb hSd HSd' hcf
      go_wp2_with fail
      refine (HFd.out _ (bTS (bTS B101.out B102.out) Bs.out)).mono ?_
      rintro e wf ⟨a1, c1, a2, c2, a3, c3, a4, c4, rfl, how, hb⟩
      have Bf : Hid (Below ws.heap.size ws wf) := hb
      have HOw : Hid (wf.ownsRow ws.heap.size 3 1 (.slice a4 L.length c4) L.length (iCells L)) := how
      clear hb how HFd
      obtain ⟨w103, hw103⟩ : ∃ w103, w103 = wf.alloc (.cells #[.string ⟨#[97, 46, 98]⟩, .string ⟨#[]⟩, .slice a1 0 c1, .slice a2 0 c2, .slice a3 1 c3, .int .i64 3, .int .i64 2, .int .i64 9, .bool (decide (L = [])), .slice a4 L.length c4] 46) := ⟨_, rfl⟩
      have B103 : Hid (Below wf.heap.size wf w103) := by show Below _ _ _; rw [hw103]; exact al_b _ _
      have hn103 : w103.heap[wf.heap.size]? = some (.cells #[.string ⟨#[97, 46, 98]⟩, .string ⟨#[]⟩, .slice a1 0 c1, .slice a2 0 c2, .slice a3 1 c3, .int .i64 3, .int .i64 2, .int .i64 9, .bool (decide (L = [])), .slice a4 L.length c4] 46 (0, 0)) := by rw [hw103]; exact new_at _ _
      have C103 : Hid (∀ W, Below w103.heap.size w103 W → W.heap[wf.heap.size]? = some (.cells #[.string ⟨#[97, 46, 98]⟩, .string ⟨#[]⟩, .slice a1 0 c1, .slice a2 0 c2, .slice a3 1 c3, .int .i64 3, .int .i64 2, .int .i64 9, .bool (decide (L = [])), .slice a4 L.length c4] 46 (0, 0))) := fun W h => (h.block _ (Array.getElem?_eq_some_iff.1 hn103).1).trans hn103
      clear hn103
      go_upto_region 32 with fail
      rw [← hw103]
      clear hw103
      have hk := C103.out w103 (Below.refl _ _)
      have c103_8 : w103.cell? ⟨wf.heap.size, 8, none⟩ = some (.bool (decide (L = []))) := by rw [Lib.cell_of_heap hk]; rfl
      have c103_9 : w103.cell? ⟨wf.heap.size, 9, none⟩ = some (.slice a4 L.length c4) := by rw [Lib.cell_of_heap hk]; rfl
      clear hk
      go_wp2_with fail
      clear c103_8 c103_9
      refine (HSa.out _ _ (bTS (bTS (bTS (bTS B101.out B102.out) Bs.out) Bf.out) B103.out) ((IsRow.own HOw.out).below B103.out)).mono ?_
      rintro e w104 ⟨rfl, hb⟩
      have B104 : Hid (Below w103.heap.size w103 w104) := hb
      clear hb HSa HOw
      have HSz : Hid (∃ X, StV w3.heap.size w104 s m [(suK, g)] X ∧ X g = ⟨suT, decide (L = []), inW L⟩) := by
        obtain ⟨X, h1, h2⟩ := HS.out
        exact ⟨X, h1.below (bTS (bTS (bTS (bTS (bTS B101.out B102.out) Bs.out) Bf.out) B103.out) B104.out), h2⟩
      have HOz : Hid (w104.ownsRow w3.heap.size 3 1 (.slice va L.length vc) L.length (iCells L)) := own_belowE HO.out (bTS (bTS (bTS (bTS (bTS B101.out B102.out) Bs.out) Bf.out) B103.out) B104.out)
      have HDz : Hid (Below w3.heap.size w3 w104) := HD.out.trans (Below.mono (bTS (bTS (bTS (bTS (bTS B101.out B102.out) Bs.out) Bf.out) B103.out) B104.out) HD.out.size)
      clear HUT HS HO HD
      go_wp2
      go_roundw
      case rel => exact ⟨k + 1, L, va, vc, by omega, by omega, rfl, by simp, HP, HSz, HOz, HDz⟩
      case measure => simp [intOf]; omega
    by_cases hB : a = 3 ∧ b = 2 ∧ c = 9
    rotate_left
    · have hcf : cnt = false := by rw [HCn.out, decide_eq_false hB, Bool.false_and, Bool.and_false]
      have HE : ∀ W : World, (if a = 3 then if b = 2 then if c = 9 then Result.ok (Next.value (Value.bool true)) W else Result.ok (Next.value (Value.bool false)) W else Result.ok (Next.value (Value.bool false)) W else Result.ok (Next.value (Value.bool false)) W) = (Result.ok (Next.value (Value.bool false)) W : Result Next) := fun W => by
        by_cases h1 : a = 3
        · by_cases h2 : b = 2
          · by_cases h3 : c = 9
            · exact absurd ⟨h1, h2, h3⟩ hB
            · simp [h1, h2, h3]
          · simp [h1, h2]
        · simp [h1]
      obtain ⟨z0, z1, z2⟩ := HIW.out w102 (bTS B101.out B102.out)
      clear HHs HCn hB HIW

      have hk := C101.out w102 B102.out
      have c101_9 : w102.cell? ⟨wr.heap.size, 9, none⟩ = some (.string n) := by rw [Lib.cell_of_heap hk]; rfl
      have c101_11 : w102.cell? ⟨wr.heap.size, 11, none⟩ = some (.int .i64 a) := by rw [Lib.cell_of_heap hk]; rfl
      have c101_12 : w102.cell? ⟨wr.heap.size, 12, none⟩ = some (.int .i64 b) := by rw [Lib.cell_of_heap hk]; rfl
      have c101_13 : w102.cell? ⟨wr.heap.size, 13, none⟩ = some (.int .i64 c) := by rw [Lib.cell_of_heap hk]; rfl
      have c101_14 : w102.cell? ⟨wr.heap.size, 14, none⟩ = some (.int .i64 N) := by rw [Lib.cell_of_heap hk]; rfl
      clear hk
      go_wp2_with fail
      clear z0 z1 z2 HE
      clear c101_9 c101_11 c101_12 c101_13 c101_14
      refine (HSd'.out _ (bTS B101.out B102.out)).mono ?_
      rintro e ws hSd
      obtain ⟨rfl, hb⟩ := hSd.1 hcf
      have Bs : Hid (Below w102.heap.size w102 ws) := hb
      clear hb hSd HSd' hcf
      go_wp2_with fail
      refine (HFd.out _ (bTS (bTS B101.out B102.out) Bs.out)).mono ?_
      rintro e wf ⟨a1, c1, a2, c2, a3, c3, a4, c4, rfl, how, hb⟩
      have Bf : Hid (Below ws.heap.size ws wf) := hb
      have HOw : Hid (wf.ownsRow ws.heap.size 3 1 (.slice a4 L.length c4) L.length (iCells L)) := how
      clear hb how HFd
      obtain ⟨w103, hw103⟩ : ∃ w103, w103 = wf.alloc (.cells #[.string ⟨#[97, 46, 98]⟩, .string ⟨#[]⟩, .slice a1 0 c1, .slice a2 0 c2, .slice a3 1 c3, .int .i64 3, .int .i64 2, .int .i64 9, .bool (decide (L = [])), .slice a4 L.length c4] 46) := ⟨_, rfl⟩
      have B103 : Hid (Below wf.heap.size wf w103) := by show Below _ _ _; rw [hw103]; exact al_b _ _
      have hn103 : w103.heap[wf.heap.size]? = some (.cells #[.string ⟨#[97, 46, 98]⟩, .string ⟨#[]⟩, .slice a1 0 c1, .slice a2 0 c2, .slice a3 1 c3, .int .i64 3, .int .i64 2, .int .i64 9, .bool (decide (L = [])), .slice a4 L.length c4] 46 (0, 0)) := by rw [hw103]; exact new_at _ _
      have C103 : Hid (∀ W, Below w103.heap.size w103 W → W.heap[wf.heap.size]? = some (.cells #[.string ⟨#[97, 46, 98]⟩, .string ⟨#[]⟩, .slice a1 0 c1, .slice a2 0 c2, .slice a3 1 c3, .int .i64 3, .int .i64 2, .int .i64 9, .bool (decide (L = [])), .slice a4 L.length c4] 46 (0, 0))) := fun W h => (h.block _ (Array.getElem?_eq_some_iff.1 hn103).1).trans hn103
      clear hn103
      go_upto_region 32 with fail
      rw [← hw103]
      clear hw103
      have hk := C103.out w103 (Below.refl _ _)
      have c103_8 : w103.cell? ⟨wf.heap.size, 8, none⟩ = some (.bool (decide (L = []))) := by rw [Lib.cell_of_heap hk]; rfl
      have c103_9 : w103.cell? ⟨wf.heap.size, 9, none⟩ = some (.slice a4 L.length c4) := by rw [Lib.cell_of_heap hk]; rfl
      clear hk
      go_wp2_with fail
      clear c103_8 c103_9
      refine (HSa.out _ _ (bTS (bTS (bTS (bTS B101.out B102.out) Bs.out) Bf.out) B103.out) ((IsRow.own HOw.out).below B103.out)).mono ?_
      rintro e w104 ⟨rfl, hb⟩
      have B104 : Hid (Below w103.heap.size w103 w104) := hb
      clear hb HSa HOw
      have HSz : Hid (∃ X, StV w3.heap.size w104 s m [(suK, g)] X ∧ X g = ⟨suT, decide (L = []), inW L⟩) := by
        obtain ⟨X, h1, h2⟩ := HS.out
        exact ⟨X, h1.below (bTS (bTS (bTS (bTS (bTS B101.out B102.out) Bs.out) Bf.out) B103.out) B104.out), h2⟩
      have HOz : Hid (w104.ownsRow w3.heap.size 3 1 (.slice va L.length vc) L.length (iCells L)) := own_belowE HO.out (bTS (bTS (bTS (bTS (bTS B101.out B102.out) Bs.out) Bf.out) B103.out) B104.out)
      have HDz : Hid (Below w3.heap.size w3 w104) := HD.out.trans (Below.mono (bTS (bTS (bTS (bTS (bTS B101.out B102.out) Bs.out) Bf.out) B103.out) B104.out) HD.out.size)
      clear HUT HS HO HD
      go_wp2
      go_roundw
      case rel => exact ⟨k + 1, L, va, vc, by omega, by omega, rfl, by simp, HP, HSz, HOz, HDz⟩
      case measure => simp [intOf]; omega
    obtain ⟨rfl, rfl, rfl⟩ := hB
    obtain ⟨z0, z1, z2⟩ := HIW.out w102 (bTS B101.out B102.out)
    have hHs := HHs.out w102 (bTS B101.out B102.out)
    obtain ⟨H, hH⟩ : ∃ H, decide (N ∈ L) = H := ⟨_, rfl⟩
    rw [hH] at hHs HCn
    have HCn' : Hid (cnt = H) := by show _ = _; rw [HCn.out, decide_eq_true (show (3 : Int) = 3 ∧ (2 : Int) = 2 ∧ (9 : Int) = 9 from ⟨rfl, rfl, rfl⟩), Bool.true_and, Bool.true_and]
    clear HCn HHs hH HIW
    have hk := C101.out w102 B102.out
    have c101_9 : w102.cell? ⟨wr.heap.size, 9, none⟩ = some (.string n) := by rw [Lib.cell_of_heap hk]; rfl
    have c101_11 : w102.cell? ⟨wr.heap.size, 11, none⟩ = some (.int .i64 3) := by rw [Lib.cell_of_heap hk]; rfl
    have c101_12 : w102.cell? ⟨wr.heap.size, 12, none⟩ = some (.int .i64 2) := by rw [Lib.cell_of_heap hk]; rfl
    have c101_13 : w102.cell? ⟨wr.heap.size, 13, none⟩ = some (.int .i64 9) := by rw [Lib.cell_of_heap hk]; rfl
    have c101_14 : w102.cell? ⟨wr.heap.size, 14, none⟩ = some (.int .i64 N) := by rw [Lib.cell_of_heap hk]; rfl
    clear hk
    go_wp2_with fail
    refine hHs.mono ?_
    rintro e wh ⟨rfl, rfl⟩
    clear z0 z1 z2 hHs
    cases H
    · have hcf : cnt = false := HCn'.out
      clear HCn'
      go_wp2_with fail
      clear c101_9 c101_11 c101_12 c101_13 c101_14
      refine (HSd'.out _ (bTS B101.out B102.out)).mono ?_
      rintro e ws hSd
      obtain ⟨rfl, hb⟩ := hSd.1 hcf
      have Bs : Hid (Below wh.heap.size wh ws) := hb
      clear hb hSd HSd' hcf
      go_wp2_with fail
      refine (HFd.out _ (bTS (bTS B101.out B102.out) Bs.out)).mono ?_
      rintro e wf ⟨a1, c1, a2, c2, a3, c3, a4, c4, rfl, how, hb⟩
      have Bf : Hid (Below ws.heap.size ws wf) := hb
      have HOw : Hid (wf.ownsRow ws.heap.size 3 1 (.slice a4 L.length c4) L.length (iCells L)) := how
      clear hb how HFd
      obtain ⟨w103, hw103⟩ : ∃ w103, w103 = wf.alloc (.cells #[.string ⟨#[97, 46, 98]⟩, .string ⟨#[]⟩, .slice a1 0 c1, .slice a2 0 c2, .slice a3 1 c3, .int .i64 3, .int .i64 2, .int .i64 9, .bool (decide (L = [])), .slice a4 L.length c4] 46) := ⟨_, rfl⟩
      have B103 : Hid (Below wf.heap.size wf w103) := by show Below _ _ _; rw [hw103]; exact al_b _ _
      have hn103 : w103.heap[wf.heap.size]? = some (.cells #[.string ⟨#[97, 46, 98]⟩, .string ⟨#[]⟩, .slice a1 0 c1, .slice a2 0 c2, .slice a3 1 c3, .int .i64 3, .int .i64 2, .int .i64 9, .bool (decide (L = [])), .slice a4 L.length c4] 46 (0, 0)) := by rw [hw103]; exact new_at _ _
      have C103 : Hid (∀ W, Below w103.heap.size w103 W → W.heap[wf.heap.size]? = some (.cells #[.string ⟨#[97, 46, 98]⟩, .string ⟨#[]⟩, .slice a1 0 c1, .slice a2 0 c2, .slice a3 1 c3, .int .i64 3, .int .i64 2, .int .i64 9, .bool (decide (L = [])), .slice a4 L.length c4] 46 (0, 0))) := fun W h => (h.block _ (Array.getElem?_eq_some_iff.1 hn103).1).trans hn103
      clear hn103
      go_upto_region 32 with fail
      rw [← hw103]
      clear hw103
      have hk := C103.out w103 (Below.refl _ _)
      have c103_8 : w103.cell? ⟨wf.heap.size, 8, none⟩ = some (.bool (decide (L = []))) := by rw [Lib.cell_of_heap hk]; rfl
      have c103_9 : w103.cell? ⟨wf.heap.size, 9, none⟩ = some (.slice a4 L.length c4) := by rw [Lib.cell_of_heap hk]; rfl
      clear hk
      go_wp2_with fail
      clear c103_8 c103_9
      refine (HSa.out _ _ (bTS (bTS (bTS (bTS B101.out B102.out) Bs.out) Bf.out) B103.out) ((IsRow.own HOw.out).below B103.out)).mono ?_
      rintro e w104 ⟨rfl, hb⟩
      have B104 : Hid (Below w103.heap.size w103 w104) := hb
      clear hb HSa HOw
      have HSz : Hid (∃ X, StV w3.heap.size w104 s m [(suK, g)] X ∧ X g = ⟨suT, decide (L = []), inW L⟩) := by
        obtain ⟨X, h1, h2⟩ := HS.out
        exact ⟨X, h1.below (bTS (bTS (bTS (bTS (bTS B101.out B102.out) Bs.out) Bf.out) B103.out) B104.out), h2⟩
      have HOz : Hid (w104.ownsRow w3.heap.size 3 1 (.slice va L.length vc) L.length (iCells L)) := own_belowE HO.out (bTS (bTS (bTS (bTS (bTS B101.out B102.out) Bs.out) Bf.out) B103.out) B104.out)
      have HDz : Hid (Below w3.heap.size w3 w104) := HD.out.trans (Below.mono (bTS (bTS (bTS (bTS (bTS B101.out B102.out) Bs.out) Bf.out) B103.out) B104.out) HD.out.size)
      clear HUT HS HO HD
      go_wp2
      go_roundw
      case rel => exact ⟨k + 1, L, va, vc, by omega, by omega, rfl, by simp, HP, HSz, HOz, HDz⟩
      case measure => simp [intOf]; omega
    have hct : cnt = true := HCn'.out
    clear HCn'
    go_wp2_with fail
    refine (HSd'.out _ (bTS B101.out B102.out)).mono ?_
    clear c101_9 c101_11 c101_12 c101_13 c101_14
    rintro e ws hSd
    obtain ⟨rfl, hSs, hst⟩ := hSd.2 hct
    obtain ⟨L2, hL2⟩ : ∃ L2, L2 = witho L N := ⟨_, rfl⟩
    have HW2 : Hid (L2 = witho L N) := hL2
    rw [← hL2] at hSs ⊢
    have HS2 : Hid (∃ X, StV w3.heap.size ws s m [(suK, g)] X ∧ X g = ⟨suT, decide (L2 = []), inW L2⟩) := hSs
    have HP2 : Hid (NodesP L2) := by show NodesP _; rw [hL2]; exact witho_nodes HP.out N
    have hd2 : ((L2.length : Int) == 0) = decide (L2 = []) := by
      cases L2 with
      | nil => rfl
      | cons x r =>
        rw [decide_eq_false (by simp), beq_eq_false_iff_ne, List.length_cons]
        omega
    have hL25 := nodes_len HP2.out
    have HDs : Hid (Below w3.heap.size w3 ws) := by
      have h0 : Below w3.heap.size w3 wh := HD.out.trans (Below.mono (bTS B101.out B102.out) HD.out.size)
      exact h0.trans (hst.below h0.size fun k hk => by omega)
    have HOs : Hid (ws.ownsRow w3.heap.size 3 1 (.slice va L.length vc) L.length (iCells L)) := by
      obtain ⟨X, h1, -⟩ := HS.out
      obtain ⟨-, vo', va', vc', hgk, -⟩ := (h1.below (bTS B101.out B102.out)).kp _ (List.mem_singleton.2 rfl)
      exact int_keep (own_belowE HO.out (bTS B101.out B102.out)) hgk hst
    have hNc : ws.cell? ⟨wr.heap.size, 14, none⟩ = some (.int .i64 N) := by
      obtain ⟨X, h1, -⟩ := HS.out
      have hgl := (h1.lt (k := g) (.inr (by simp))).2
      have hk := C101.out wh B102.out
      unfold World.cell?
      dsimp only
      rw [hst.block wr.heap.size (Array.getElem?_eq_some_iff.1 hk).1 (by omega), hk]
      rfl
    have hNl : wr.heap.size < ws.heap.size := by
      have hk := C101.out wh B102.out
      exact Nat.lt_of_lt_of_le (Array.getElem?_eq_some_iff.1 hk).1 hst.size
    have HNc : Hid (∀ W, Below ws.heap.size ws W → W.cell? ⟨wr.heap.size, 14, none⟩ = some (.int .i64 N)) := fun W hb => (hb.cell (p := ⟨wr.heap.size, 14, none⟩) hNl).trans hNc
    have HUT2 : Hid (∀ W, Below ws.heap.size ws W → UT W) := fun W hb => (HT.out W (A3.out.trans ((HDs.out.trans (hb.mono HDs.out.size)).mono A3.out.size))).1
    have HFd2 : Hid (∀ W, Below ws.heap.size ws W → Calls Tryd.prog 14 #[stP s, .string ⟨#[97, 46, 98]⟩] W fun e w' => FsP L2 W e w') := fun W hb => by
      obtain ⟨X, h1, h2⟩ := HS2.out
      exact findSu_any (h1.below hb) h2 HP2.out (HUT2.out W hb)
    have hs3s := HDs.out.size
    clear hSd hSs hst hL2 hct HSd' HFd HSa HUT HS HO HD hd0 hNc
    obtain ⟨i0, hi0, hz0, hz1, hz2⟩ := info_parts info_inS
    generalize hgb : wr.heap.size = gb at HNc ⊢
    clear hgb
    go_wp2_with fail
    go_loopw [17, 18] (fun lv i wi => ∃ (j : Nat) (ua : Option Addr) (uc : Nat), j ≤ L.length ∧ i = .int .i64 (j : Int) ∧ lv = .slice ua (witho (L.take j) N).length uc ∧ Hid (wi.ownsRow ws.heap.size 3 1 (.slice ua (witho (L.take j) N).length uc) (witho (L.take j) N).length (iCells (witho (L.take j) N))) ∧ Hid (Below ws.heap.size ws wi)) (fun _ i _ => L.length - (intOf i).toNat)
    case atStart => exact ⟨0, none, 0, Nat.zero_le _, rfl, rfl, World.ownsRow_nil _ _ _ _, Below.refl _ _⟩
    case round =>
      obtain ⟨j, ua, uc, hj, rfl, rfl, HV, HE⟩ := hrel
      by_cases hjl : j < L.length
      · have dj : decide ((j : Int) < (L.length : Int)) = true := by simp; omega
        obtain ⟨b1, off1, hva, -, hlt1, hcap1, hc1⟩ := iCells_at ((IsRow.own HOs.out).below HE.out) (by omega)
        have e1 := hc1 j hjl
        have cN := HNc.out wr HE.out
        have p1 : (0 : Int) ≤ (j : Int) := by omega
        have p2 : (j : Int) < (L.length : Int) := by omega
        have hwl := witho_len (L.take j) N
        have htl : (L.take j).length ≤ 15 := by rw [List.length_take]; omega
        have hszi := HE.out.size
        have HYes : Hid (L[j] ≠ N → witho (L.take (j + 1)) N = witho (L.take j) N ++ [L[j]]) := fun h => by
          unfold witho
          rw [List.take_succ_eq_append_getElem hjl, List.filter_append, List.filter_cons, if_pos (by simp [h]), List.filter_nil]
        have HNo : Hid (L[j] = N → witho (L.take (j + 1)) N = witho (L.take j) N) := fun h => by
          unfold witho
          rw [List.take_succ_eq_append_getElem hjl, List.filter_append, List.filter_cons, if_neg (by simp [h]), List.filter_nil, List.append_nil]
        subst hva
        obtain ⟨V, hV⟩ : ∃ V, V = witho (L.take j) N := ⟨_, rfl⟩
        rw [← hV] at HV HYes HNo hwl ⊢
        generalize L[j]'hjl = y at *
        clear hc1 hV
        by_cases hy : y = N
        · have HEq := HNo.out hy
          have HEq' : Hid (witho (L.take (j + 1)) N = V) := HEq
          have dy : (y != N) = false := by simp [hy]
          have dy2 : (y == N) = true := by simp [hy]
          clear HYes HNo hy HEq
          go_wp2_with fail
          go_region
          go_wp2
          go_roundw
          case rel => exact ⟨j + 1, ua, uc, by omega, by simp, by rw [HEq'.out], by rw [HEq'.out]; exact own_belowE HV.out (Below.refl _ _).drew, HE.out.drew⟩
          case measure => simp [intOf]; omega
        · have HEq := HYes.out hy
          have HEq' : Hid (witho (L.take (j + 1)) N = V ++ [y]) := HEq
          have dy : (y != N) = true := by simp [hy]
          have dy2 : (y == N) = false := by simp [hy]
          clear HYes HNo hy HEq
          go_wp2_with fail
          go_region
          have HVd : Hid (wr.drew.ownsRow ws.heap.size 3 1 (.slice ua V.length uc) V.length (iCells V)) := own_belowE HV.out (Below.refl _ _).drew
          have hszd : ws.heap.size ≤ wr.drew.heap.size := hszi
          go_wp2_with (at_builtin; go_loud (refine wpl_appE wr.drew rfl (.tmp 122) (.tmp 127) 22 3 rfl i0 _ 1 8 Tryd.underlying22 hi0 hz0 hz1 hz2 rfl (by decide) ws.heap.size (.slice ua V.length uc) V.length (iCells V) rfl HVd.out [.int .i64 y] rfl _ rfl rfl (by simp [Value.oneCell']) (by omega) (by unfold maxLen; omega) hszd ?_; intro v4 w4 ho4 hb4; obtain ⟨va4, vc4, rfl⟩ := (IsRow.own ho4).form))
          have HB4 : Hid (Below ws.heap.size ws w4) := HE.out.drew.trans hb4
          have HO4 : Hid (w4.ownsRow ws.heap.size 3 1 (.slice va4 (V.length + 1) vc4) (V.length + 1) (iCells V ++ [.int .i64 y])) := ho4
          clear ho4 hb4 HV HVd
          go_wp2
          go_roundw
          case rel => exact ⟨j + 1, va4, vc4, by omega, by simp, by rw [HEq'.out, List.length_append, List.length_singleton], by show World.ownsRow _ _ _ _ _ _ _; rw [HEq'.out, List.length_append, List.length_singleton, iCells, List.map_append]; exact HO4.out, HB4⟩
          case measure => simp [intOf]; omega
      · obtain rfl : j = L.length := by omega
        have dj : decide ((L.length : Int) < (L.length : Int)) = false := by simp
        rw [List.take_length, ← HW2.out] at HV ⊢
        have HSa2 : Hid (∀ W v, Below wr.heap.size wr W → IsRow W 1 v L2.length (iCells L2) → Calls Tryd.prog 15 #[v, .slice ua L2.length uc] W fun e w' => e = .returned (.bool true) ∧ Below W.heap.size W w') := fun W v hb hv => same_eq v _ L2 W hv ((IsRow.own HV.out).below hb) (by omega)
        clear HNc HOs
        go_wp2_with fail
        refine (HFd2.out _ HE.out).mono ?_
        rintro e wf ⟨a1, c1, a2, c2, a3, c3, a4, c4, rfl, how, hb⟩
        have Bf : Hid (Below wr.heap.size wr wf) := hb
        have HOw : Hid (wf.ownsRow wr.heap.size 3 1 (.slice a4 L2.length c4) L2.length (iCells L2)) := how
        clear hb how HFd2
        obtain ⟨w201, hw201⟩ : ∃ w201, w201 = wf.alloc (.cells #[.string ⟨#[97, 46, 98]⟩, .string ⟨#[]⟩, .slice a1 0 c1, .slice a2 0 c2, .slice a3 1 c3, .int .i64 3, .int .i64 2, .int .i64 9, .bool (decide (L2 = [])), .slice a4 L2.length c4] 46) := ⟨_, rfl⟩
        have B201 : Hid (Below wf.heap.size wf w201) := by show Below _ _ _; rw [hw201]; exact al_b _ _
        have hn201 : w201.heap[wf.heap.size]? = some (.cells #[.string ⟨#[97, 46, 98]⟩, .string ⟨#[]⟩, .slice a1 0 c1, .slice a2 0 c2, .slice a3 1 c3, .int .i64 3, .int .i64 2, .int .i64 9, .bool (decide (L2 = [])), .slice a4 L2.length c4] 46 (0, 0)) := by rw [hw201]; exact new_at _ _
        have C201 : Hid (∀ W, Below w201.heap.size w201 W → W.heap[wf.heap.size]? = some (.cells #[.string ⟨#[97, 46, 98]⟩, .string ⟨#[]⟩, .slice a1 0 c1, .slice a2 0 c2, .slice a3 1 c3, .int .i64 3, .int .i64 2, .int .i64 9, .bool (decide (L2 = [])), .slice a4 L2.length c4] 46 (0, 0))) := fun W h => (h.block _ (Array.getElem?_eq_some_iff.1 hn201).1).trans hn201
        clear hn201
        go_upto_region 32 with fail
        rw [← hw201]
        clear hw201
        have hk := C201.out w201 (Below.refl _ _)
        have c201_8 : w201.cell? ⟨wf.heap.size, 8, none⟩ = some (.bool (decide (L2 = []))) := by rw [Lib.cell_of_heap hk]; rfl
        have c201_9 : w201.cell? ⟨wf.heap.size, 9, none⟩ = some (.slice a4 L2.length c4) := by rw [Lib.cell_of_heap hk]; rfl
        clear hk
        go_wp2_with fail
        clear c201_8 c201_9
        refine (HSa2.out _ _ (bTS Bf.out B201.out) ((IsRow.own HOw.out).below B201.out)).mono ?_
        rintro e w202 ⟨rfl, hb⟩
        have B202 : Hid (Below w201.heap.size w201 w202) := hb
        clear hb HSa2 HOw
        have HEz : Hid (Below ws.heap.size ws w202) := HE.out.trans (Below.mono (bTS (bTS Bf.out B201.out) B202.out) HE.out.size)
        have HSz : Hid (∃ X, StV w3.heap.size w202 s m [(suK, g)] X ∧ X g = ⟨suT, decide (L2 = []), inW L2⟩) := by
          obtain ⟨X, h1, h2⟩ := HS2.out
          exact ⟨X, h1.below HEz.out, h2⟩
        have HOz : Hid (w202.ownsRow w3.heap.size 3 1 (.slice ua L2.length uc) L2.length (iCells L2)) := own_leT (own_belowE HV.out (bTS (bTS Bf.out B201.out) B202.out)) hs3s
        have HDz : Hid (Below w3.heap.size w3 w202) := HDs.out.trans (HEz.out.mono HDs.out.size)
        clear HS2 HV HE HDs HUT2
        go_wp2
        go_roundw
        case rel => exact ⟨k + 1, L2, ua, uc, by omega, by omega, rfl, by simp, HP2, HSz, HOz, HDz⟩
        case measure => simp [intOf]; omega
end Go.Proofs.YthdbnlpbidkojaaDoor
/- What a call that has but drawn and grown leaves. -/
namespace Go.Proofs.YthdbnlpbidkojaaDoor
open Go.RowKit

/-- What leaves all there was, and has asked the tape no less often, has but drawn and grown. -/
theorem grow_of {w w' : World} (h : Below w.heap.size w w') (hd : w.drawn ≤ w'.drawn) : ∃ q os, w' = Sort.grow (w.drewN q) os := by
  refine ⟨w'.drawn - w.drawn, w'.heap.extract w.heap.size w'.heap.size, ?_⟩
  have h1 := h.os
  have h2 := h.tape
  have h3 := h.output
  have h4 := h.size
  have h5 := h.block
  obtain ⟨hp, tp, dr, os, ou⟩ := w
  obtain ⟨hp', tp', dr', os', ou'⟩ := w'
  dsimp only at *
  subst h1 h2 h3
  have e1 : hp' = hp ++ hp'.extract hp.size hp'.size := by
    apply Array.ext_getElem?
    intro i
    by_cases hi : i < hp.size
    · rw [Array.getElem?_append_left hi, h5 i hi]
    · rw [Array.getElem?_append_right (by omega), Array.getElem?_extract]
      by_cases h2 : i < hp'.size
      · rw [if_pos (by omega)]
        congr 1
        omega
      · rw [if_neg (by omega), Array.getElem?_eq_none (by omega)]
  have e2 : dr' = dr + (dr' - dr) := by omega
  unfold Sort.grow World.drewN
  dsimp only
  congr
end Go.Proofs.YthdbnlpbidkojaaDoor
