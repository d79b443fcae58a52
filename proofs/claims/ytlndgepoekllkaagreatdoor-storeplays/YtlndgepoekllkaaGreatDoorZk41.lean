/- StorePlays: its walk. -/
import Derived.Test.YtlndgepoekllkaaGreatDoorZk40
import Derived.Test.YtlndgepoekllkaaGreatDoorZk17
import Derived.Deep.DeepCutAuto
namespace Go.Proofs.YtlndgepoekllkaaGreatDoor
open Go.RowKit Go.ChangeMaps

/-- Between two acts: the store, and the block that holds what the document says. -/
def SpI (w : World) (s m R : Nat) (wx : World) : Prop := ∃ E X va vc M, RS w wx s m E X (.slice va (List.length M) vc) M ∧ wx.heap[R]? = some (.cells #[.slice va (List.length M) vc] 27 (0, 0)) ∧ ¬ SF m E R ∧ w.heap.size ≤ R
theorem SpI.below {w wx wy : World} {s m R : Nat} (h : SpI w s m R wx) (hb : Below wx.heap.size wx wy) : SpI w s m R wy := by
  obtain ⟨E, X, va, vc, M, h1, h2, h3, h4⟩ := h
  exact ⟨E, X, va, vc, M, h1.below hb, (hb.block _ (Array.getElem?_eq_some_iff.1 h2).1).trans h2, h3, h4⟩
/-- Behind do: what it leaves, and the block where it lies. -/
def SpD (w wx : World) (s m R : Nat) (p : Value) (wy : World) : Prop := ∃ g E X va vc M va0 n0 vc0, p = .pointer (some ⟨g, 0, none⟩) ∧ Hid (RS w wy s m E X (.slice va (List.length M) vc) M) ∧ Hid (wy.heap[g]? = some (.cells #[.slice va (List.length M) vc] 27 (0, 0))) ∧ Hid (wy.heap[R]? = some (.cells #[.slice va0 n0 vc0] 27 (0, 0))) ∧ Hid (¬ SF m E R) ∧ Hid (g ≠ R) ∧ Hid (wx.heap.size ≤ wy.heap.size)
theorem setD1 {w : World} {g : Nat} {u0 : Value} {ty : TypeId} {z : Nat × Nat} (h : w.heap[g]? = some (.cells #[u0] ty z)) (v : Value) : (w.setCell ⟨g, 0, none⟩ v).heap[g]? = some (.cells #[v] ty z) := by
  have := heap_setD h 0 v
  have e : (#[u0] : Array Value).setIfInBounds 0 v = #[v] := by kernel_rfl
  rw [e] at this
  exact this
theorem setD_ne {w : World} {g b : Nat} (h : b ≠ g) (v : Value) : (w.setCell ⟨g, 0, none⟩ v).heap[b]? = w.heap[b]? := Below.heap_setCell _ _ _ _ h
/-- The block is laid behind do. -/
theorem spd_a {w wx w5 : World} {s m R : Nat} {E E' : List (ByteArray × Nat)} {X' : Nat → Kp} {va va0 : Option Addr} {vc n0 vc0 : Nat} {M' : List KR} (h : RS w w5 s m E' X' (.slice va M'.length vc) M') (hS : Stp wx (SF m E) (SF m E') w5) (hR : wx.heap[R]? = some (.cells #[.slice va0 n0 vc0] 27 (0, 0))) (hn : ¬ SF m E R) : SpD w wx s m R (.pointer (some ⟨w5.heap.size, 0, none⟩)) ((w5.alloc (.cells #[.slice none 0 0] 27 (0, 0))).setCell ⟨w5.heap.size, 0, none⟩ (.slice va M'.length vc)) := by
  have hlt := (Array.getElem?_eq_some_iff.1 hR).1
  obtain ⟨f1, f2⟩ := hS.far hlt hn
  have hb : Below w5.heap.size w5 ((w5.alloc (.cells #[.slice none 0 0] 27 (0, 0))).setCell ⟨w5.heap.size, 0, none⟩ (.slice va M'.length vc)) := (al_b w5 _).setCell (p := ⟨w5.heap.size, 0, none⟩) (Nat.le_refl _) _
  have hlt5 : R < w5.heap.size := Nat.lt_of_lt_of_le hlt hS.size
  exact ⟨_, E', X', va, vc, M', va0, n0, vc0, rfl, h.below hb, setD1 (new_at w5 _) _, (hb.block _ hlt5).trans (f1.trans hR), f2, Nat.ne_of_gt hlt5, Nat.le_trans hS.size hb.size⟩
/-- The block is laid ahead of do. -/
theorem spd_b {w wd w5 : World} {s m R : Nat} {E E' : List (ByteArray × Nat)} {X' : Nat → Kp} {va va0 : Option Addr} {vc n0 vc0 : Nat} {M' : List KR} (h : RS w w5 s m E' X' (.slice va M'.length vc) M') (hS : Stp (wd.alloc (.cells #[.slice none 0 0] 27 (0, 0))) (SF m E) (SF m E') w5) (hR : wd.heap[R]? = some (.cells #[.slice va0 n0 vc0] 27 (0, 0))) (hn : ¬ SF m E R) (hF : ∀ k, SF m E k → k < wd.heap.size) (h0 : w.heap.size ≤ wd.heap.size) : SpD w wd s m R (.pointer (some ⟨wd.heap.size, 0, none⟩)) (w5.setCell ⟨wd.heap.size, 0, none⟩ (.slice va M'.length vc)) := by
  have hlt := (Array.getElem?_eq_some_iff.1 hR).1
  have ha := al_b wd (.cells #[.slice none 0 0] 27 (0, 0))
  have hg := new_at wd (.cells #[.slice none 0 0] 27 (0, 0))
  have hR2 := (ha.block _ hlt).trans hR
  obtain ⟨f1, f2⟩ := hS.far (Nat.lt_of_lt_of_le hlt ha.size) hn
  obtain ⟨g1, g2⟩ := hS.far (Array.getElem?_eq_some_iff.1 hg).1 (fun e => by have := hF _ e; omega)
  have hne : R ≠ wd.heap.size := Nat.ne_of_lt hlt
  refine ⟨_, E', X', va, vc, M', va0, n0, vc0, rfl, h.put (g1.trans hg) h0 _, setD1 (g1.trans hg) _, (setD_ne hne _).trans (f1.trans hR2), f2, hne.symm, ?_⟩
  rw [set_sz]
  exact Nat.le_trans ha.size hS.size
theorem SpD.from {w wd w4 wy : World} {s m R : Nat} {p : Value} (h : SpD w wd s m R p wy) (hz : wd.heap.size = w4.heap.size) : SpD w w4 s m R p wy := by
  obtain ⟨g, E, X, va, vc, M, va0, n0, vc0, h1, h2, h3, h4, h5, h6, h7⟩ := h
  exact ⟨g, E, X, va, vc, M, va0, n0, vc0, h1, h2, h3, h4, h5, h6, by rw [← hz]; exact h7⟩
set_option maxRecDepth 100000 in
set_option maxHeartbeats 8000000 in
theorem storePlays_walk (vw : Value) (L : List Ac) (n : ByteArray) (w : World) (hr : IsRow w 15 vw L.length (acCells L)) (hl : L.length ≤ 140737488355328) (ho : ∀ x ∈ L, OkAc w x) (hT : UT w) (hM : ML w) :
    Calls Tryz.prog 3 #[vw, .string n] w fun e w' => e = .returned (.bool true) ∧ Below w.heap.size w w' := by
  obtain ⟨a0, c0, rfl⟩ := hr.form
  have HT : Hid (∀ W, Below w.heap.size w W → UT W ∧ ML W) := fun W hb => ⟨Utf8Tabs_below hT hb, ML_below hM hb⟩
  have HAw : Hid (∀ W, Below w.heap.size w W → Calls Tryz.prog 5 #[] W fun e w' => e = .returned (.bool true) ∧ Below W.heap.size W w') := fun W hb => awake17_any W (HT.out W hb).1 (HT.out W hb).2
  have HNw : Hid (Calls Tryz.prog 4 #[] w fun e w' => ∃ s m, e = .returned (stP s) ∧ StV w.heap.size w' s m [] (fun _ => ⟨zT, false, zW⟩) ∧ Below w.heap.size w w') := storeNew_any w _
  have HRw : Hid (∀ W, Below w.heap.size w W → IsRow W 15 (.slice a0 L.length c0) L.length (acCells L)) := fun W hb => hr.below hb
  have HOk : Hid (∀ x ∈ L, OkAc w x) := ho
  clear hr ho hT hM
  go_enter Tryz.func3, Tryz.ntmps3
  go_wp2_with fail
  refine HNw.out.mono ?_
  rintro e w1 ⟨s, m, rfl, hst, hb1⟩
  obtain ⟨w2, hw2⟩ : ∃ w2, w2 = w1.alloc (.cells #[.slice none 0 0] 27) := ⟨_, rfl⟩
  have hb2 : Below w1.heap.size w1 w2 := by rw [hw2]; exact al_b _ _
  have hn2 : w2.heap[w1.heap.size]? = some (.cells #[.slice none 0 0] 27 (0, 0)) := by rw [hw2]; exact new_at _ _
  have HSp : Hid (SpI w s m w1.heap.size w2) := ⟨[], _, none, 0, [], (rs_nil hst hb1).below hb2, hn2, fun e => by have := (hst.sf e).2; omega, hb1.size⟩
  have B2 : Hid (Below w.heap.size w w2) := hb1.trans (hb2.mono hb1.size)
  clear hst hb1 hb2 hn2 HNw
  go_wp2_with fail
  rw [← hw2]
  clear hw2
  generalize w1.heap.size = R at *
  refine (HAw.out _ B2.out).mono ?_
  rintro e w3 ⟨rfl, hb⟩
  have B3 : Hid (Below w.heap.size w w3) := B2.out.trans (hb.mono B2.out.size)
  have HS3 : Hid (SpI w s m R w3) := HSp.out.below hb
  clear hb HSp B2
  by_cases h2 : n.size ≤ 200
  rotate_left
  · have d2 : decide ((200 : Int) < (n.size : Int)) = true := by simp; omega
    have d3 : decide (200 < n.size) = true := by simp; omega
    clear HS3 HRw HOk HT
    go_wp2_with fail
    refine (HAw.out _ B3.out).mono ?_
    rintro e wz ⟨rfl, hb⟩
    have HBz : Hid (Below w.heap.size w wz) := B3.out.trans (hb.mono B3.out.size)
    clear hb HAw
    go_wp2
    go_ret
    exact ⟨rfl, HBz.out⟩
  have d2 : decide ((200 : Int) < (n.size : Int)) = false := by simp; omega
  have d3 : decide (200 < n.size) = false := by simp; omega
  have d4 : ¬ (200 : Int) < (n.size : Int) := by omega
  have Hn : Hid (n.size ≤ 200) := h2
  clear h2 HAw
  go_upto_block 0 with fail
  clear d2 d3 d4
  go_cut [7] (fun i wx => i = i ∧ SpI w s m R wx)
  case first =>
    go_wp2_with fail
    go_loopw [7] (fun i wr => ∃ j : Nat, j ≤ L.length ∧ j ≤ 40 ∧ i = .int .i64 (j : Int) ∧ Hid (SpI w s m R wr)) (fun i _ => L.length - (intOf i).toNat)
    case atStart => exact ⟨0, by omega, by omega, rfl, HS3.out⟩
    case round =>
      obtain ⟨i, hi, hi40, rfl, HI⟩ := hrel
      clear HS3
      by_cases hlk : i < L.length
      rotate_left
      · have dj : decide ((i : Int) < (L.length : Int)) = false := by simp; omega
        have dk : ¬ i < L.length := hlk
        clear HRw HOk HT
        go_wp2
        go_meet
        exact ⟨by first | rfl | trivial, HI.out⟩
      have dj : decide ((i : Int) < (L.length : Int)) = true := by simp; omega
      by_cases h40 : i < 40
      rotate_left
      · have dk : decide ((i : Int) < 40) = false := by simp; omega
        have dk2 : ¬ i < 40 := h40
        clear HRw HOk HT
        go_wp2
        go_meet
        exact ⟨by first | rfl | trivial, HI.out⟩
      have dk : decide ((i : Int) < 40) = true := by simp; omega
      have q1 : (0 : Int) ≤ (i : Int) := by omega
      have q2 : (i : Int) < (L.length : Int) := by omega
      have HR1 : Hid (i + 1 ≤ L.length ∧ i + 1 ≤ 40) := ⟨hlk, h40⟩
      obtain ⟨E, X, va, vc, M, h1, h2, h3, h4⟩ := HI.out
      have HRs : Hid (RS w wr s m E X (.slice va (List.length M) vc) M) := h1
      have HRr : Hid (wr.heap[R]? = some (.cells #[.slice va (List.length M) vc] 27 (0, 0))) := h2
      have HRn : Hid (¬ SF m E R ∧ w.heap.size ≤ R ∧ ∀ k, SF m E k → k < wr.heap.size) := ⟨h3, h4, fun k hk => (h1.st.sf hk).2⟩
      have Bwr : Hid (Below w.heap.size w wr) := h1.bel
      obtain ⟨b0, o0, rfl, hlt, hc⟩ := ac_at (HRw.out w (Below.refl _ _)) (by omega)
      obtain ⟨y, hy⟩ : ∃ y, y = L[i]'hlk := ⟨_, rfl⟩
      have HCa : Hid (∀ W, Below w.heap.size w W → (W.cell? ⟨b0, o0 + i * 15, none⟩ = some (.int .i64 y.kd) ∧ W.cell? ⟨b0, o0 + i * 15 + 1, none⟩ = some (.string y.z.t.n) ∧ W.cell? ⟨b0, o0 + i * 15 + 2, none⟩ = some (.string y.z.t.p) ∧ W.cell? ⟨b0, o0 + i * 15 + 3, none⟩ = some (y.z.vo) ∧ W.cell? ⟨b0, o0 + i * 15 + 4, none⟩ = some (y.z.va) ∧ W.cell? ⟨b0, o0 + i * 15 + 5, none⟩ = some (y.z.vc) ∧ W.cell? ⟨b0, o0 + i * 15 + 6, none⟩ = some (.int .i64 y.z.t.nd) ∧ W.cell? ⟨b0, o0 + i * 15 + 7, none⟩ = some (.int .i64 y.z.t.lf) ∧ W.cell? ⟨b0, o0 + i * 15 + 8, none⟩ = some (.int .i64 y.z.t.sq) ∧ W.cell? ⟨b0, o0 + i * 15 + 9, none⟩ = some (.string y.n) ∧ W.cell? ⟨b0, o0 + i * 15 + 10, none⟩ = some (.slice y.lp y.l.length y.lc) ∧ W.cell? ⟨b0, o0 + i * 15 + 11, none⟩ = some (.int .i64 y.a) ∧ W.cell? ⟨b0, o0 + i * 15 + 12, none⟩ = some (.int .i64 y.b) ∧ W.cell? ⟨b0, o0 + i * 15 + 13, none⟩ = some (.int .i64 y.c) ∧ W.cell? ⟨b0, o0 + i * 15 + 14, none⟩ = some (.int .i64 y.i))) := fun W hW => by
        have c : ∀ (j : Nat) (u : Value), (enAc y)[j]? = some u → W.cell? ⟨b0, o0 + i * 15 + j, none⟩ = some u := fun j u hu => (hW.cell (p := ⟨b0, _, none⟩) hlt).trans (hc i hlk j u (hy ▸ hu))
        exact ⟨c 0 _ rfl, c 1 _ rfl, c 2 _ rfl, c 3 _ rfl, c 4 _ rfl, c 5 _ rfl, c 6 _ rfl, c 7 _ rfl, c 8 _ rfl, c 9 _ rfl, c 10 _ rfl, c 11 _ rfl, c 12 _ rfl, c 13 _ rfl, c 14 _ rfl⟩
      have HOi : Hid (OkAc w y) := by show OkAc w y; rw [hy]; exact HOk.out _ (List.getElem_mem hlk)
      have Hlt : Hid (b0 < w.heap.size) := hlt
      clear h1 h2 h3 h4 hlt hc hy HRw HOk HI
      have HFw : Hid (Calls Tryz.prog 6 #[acV y] wr fun e w' => e = .returned (.bool (few17B y)) ∧ Below wr.heap.size wr w') := few17_any y wr (HOi.out.below Bwr.out)
      obtain ⟨t0_, t1_, t2_, t3_, t4_, t5_, t6_, t7_, t8_, t9_, t10_, t11_, t12_, t13_, t14_⟩ := HCa.out wr Bwr.out
      go_wp2_with fail
      clear t0_ t1_ t2_ t3_ t4_ t5_ t6_ t7_ t8_ t9_ t10_ t11_ t12_ t13_ t14_
      refine HFw.out.mono ?_
      rintro e w4 ⟨rfl, hb⟩
      have B4 : Hid (Below wr.heap.size wr w4) := hb
      clear hb HFw
      cases hfw : few17B y with
      | false =>
        have HI4 : Hid (SpI w s m R w4) := SpI.below ⟨E, X, va, vc, M, HRs.out, HRr.out, HRn.out.1, HRn.out.2.1⟩ B4.out
        clear HRs HRr HRn Bwr HCa HOi HT hfw B4
        go_wp2
        go_roundw
        case rel => exact ⟨i + 1, HR1.out.1, HR1.out.2, by simp, HI4.out⟩
        case measure => simp [intOf]; omega
      | true =>
      have HR4 : Hid (RS w w4 s m E X (.slice va (List.length M) vc) M) := HRs.out.below B4.out
      have HRr4 : Hid (w4.heap[R]? = some (.cells #[.slice va (List.length M) vc] 27 (0, 0))) := (B4.out.block _ (Array.getElem?_eq_some_iff.1 HRr.out).1).trans HRr.out
      have HRn4 : Hid (¬ SF m E R ∧ w.heap.size ≤ R ∧ ∀ k, SF m E k → k < w4.heap.size) := ⟨HRn.out.1, HRn.out.2.1, fun k hk => Nat.lt_of_lt_of_le (HRn.out.2.2 k hk) B4.out.size⟩
      have Bw4 : Hid (Below w.heap.size w w4) := Bwr.out.trans (B4.out.mono Bwr.out.size)
      have HDo : Hid (∀ W, Below w4.heap.size w4 W → Calls Tryz.prog 7 #[stP s, .agg #[.slice va (List.length M) vc], acV y] W fun e w' => DoQ w W s m E e w') := fun W hb => do17_any (HR4.out.below hb) y HOi.out hfw HT.out
      have HS : Hid (∀ W, Below w4.heap.size w4 W → (W.cell? ⟨R, 0, none⟩ = some (.slice va (List.length M) vc) ∧ W.cell? ⟨b0, o0 + i * 15, none⟩ = some (.int .i64 y.kd) ∧ W.cell? ⟨b0, o0 + i * 15 + 1, none⟩ = some (.string y.z.t.n) ∧ W.cell? ⟨b0, o0 + i * 15 + 2, none⟩ = some (.string y.z.t.p) ∧ W.cell? ⟨b0, o0 + i * 15 + 3, none⟩ = some (y.z.vo) ∧ W.cell? ⟨b0, o0 + i * 15 + 4, none⟩ = some (y.z.va) ∧ W.cell? ⟨b0, o0 + i * 15 + 5, none⟩ = some (y.z.vc) ∧ W.cell? ⟨b0, o0 + i * 15 + 6, none⟩ = some (.int .i64 y.z.t.nd) ∧ W.cell? ⟨b0, o0 + i * 15 + 7, none⟩ = some (.int .i64 y.z.t.lf) ∧ W.cell? ⟨b0, o0 + i * 15 + 8, none⟩ = some (.int .i64 y.z.t.sq) ∧ W.cell? ⟨b0, o0 + i * 15 + 9, none⟩ = some (.string y.n) ∧ W.cell? ⟨b0, o0 + i * 15 + 10, none⟩ = some (.slice y.lp y.l.length y.lc) ∧ W.cell? ⟨b0, o0 + i * 15 + 11, none⟩ = some (.int .i64 y.a) ∧ W.cell? ⟨b0, o0 + i * 15 + 12, none⟩ = some (.int .i64 y.b) ∧ W.cell? ⟨b0, o0 + i * 15 + 13, none⟩ = some (.int .i64 y.c) ∧ W.cell? ⟨b0, o0 + i * 15 + 14, none⟩ = some (.int .i64 y.i))) := fun W hb => ⟨by rw [Lib.cell_of_heap ((hb.block _ (Array.getElem?_eq_some_iff.1 HRr4.out).1).trans HRr4.out)]; rfl, HCa.out W (Bw4.out.trans (hb.mono Bw4.out.size))⟩
      have HCa5 := HCa
      clear HRs HRr HRn Bwr HCa HOi hfw B4
      go_upto_region 9 with fail
      go_cut [8, 9] (fun p t wx => t = .bool true ∧ SpD w w4 s m R p wx)
      case first =>
        have HDk : Hid (Below w4.heap.size w4 w4.drew) := (Below.refl _ _).drew
        have HRd : Hid (w4.drew.heap[R]? = some (.cells #[.slice va (List.length M) vc] 27 (0, 0))) := HRr4.out
        have HDz : Hid (w4.drew.heap.size = w4.heap.size) := rfl
        go_wp2_with fail
        refine wp_region_held_drew (S := fun W => W.cell? ⟨R, 0, none⟩ = some (.slice va (List.length M) vc) ∧ W.cell? ⟨b0, o0 + i * 15, none⟩ = some (.int .i64 y.kd) ∧ W.cell? ⟨b0, o0 + i * 15 + 1, none⟩ = some (.string y.z.t.n) ∧ W.cell? ⟨b0, o0 + i * 15 + 2, none⟩ = some (.string y.z.t.p) ∧ W.cell? ⟨b0, o0 + i * 15 + 3, none⟩ = some (y.z.vo) ∧ W.cell? ⟨b0, o0 + i * 15 + 4, none⟩ = some (y.z.va) ∧ W.cell? ⟨b0, o0 + i * 15 + 5, none⟩ = some (y.z.vc) ∧ W.cell? ⟨b0, o0 + i * 15 + 6, none⟩ = some (.int .i64 y.z.t.nd) ∧ W.cell? ⟨b0, o0 + i * 15 + 7, none⟩ = some (.int .i64 y.z.t.lf) ∧ W.cell? ⟨b0, o0 + i * 15 + 8, none⟩ = some (.int .i64 y.z.t.sq) ∧ W.cell? ⟨b0, o0 + i * 15 + 9, none⟩ = some (.string y.n) ∧ W.cell? ⟨b0, o0 + i * 15 + 10, none⟩ = some (.slice y.lp y.l.length y.lc) ∧ W.cell? ⟨b0, o0 + i * 15 + 11, none⟩ = some (.int .i64 y.a) ∧ W.cell? ⟨b0, o0 + i * 15 + 12, none⟩ = some (.int .i64 y.b) ∧ W.cell? ⟨b0, o0 + i * 15 + 13, none⟩ = some (.int .i64 y.c) ∧ W.cell? ⟨b0, o0 + i * 15 + 14, none⟩ = some (.int .i64 y.i)) (by kernel_rfl) (HS.out _ HDk.out) (fun hHeld => ?_)
        generalize w4.drew = wd at *
        refine wpAnyH_take (i := 0) (v := ?_) rfl (by kernel_rfl) (by kernel_rfl) (by kernel_rfl) (fun _ _ _ h => h) (Or.inl ⟨by rfl, ?_⟩) hHeld ?_
        rotate_left 1
        · intro w9 hSw; obtain ⟨s0, g0, g1, g2, g3, g4, g5, g6, g7, g8, g9, g10, g11, g12, g13, g14⟩ := hSw; go_simp; try with_reducible rfl
        change wpAnyH _ _ _ _ _ _ _ (Act.put _ (some 43) _) _
        simp only [Act.put, List.setIfInBounds_toArray, List.set_cons_zero, List.set_cons_succ]
        refine wpAnyH_take (i := 1) (v := ?_) rfl (by kernel_rfl) (by kernel_rfl) (by kernel_rfl) (fun _ _ _ h => h) (Or.inl ⟨by rfl, ?_⟩) hHeld ?_
        rotate_left 1
        · intro w9 hSw; obtain ⟨s0, g0, g1, g2, g3, g4, g5, g6, g7, g8, g9, g10, g11, g12, g13, g14⟩ := hSw; go_simp; try with_reducible rfl
        change wpAnyH _ _ _ _ _ _ _ (Act.put _ (some 44) _) _
        simp only [Act.put, List.setIfInBounds_toArray, List.set_cons_zero, List.set_cons_succ]
        refine wpAnyH_take (i := 2) (v := ?_) rfl (by kernel_rfl) (by kernel_rfl) (by kernel_rfl) (fun _ _ _ h => h) (Or.inl ⟨by rfl, ?_⟩) hHeld ?_
        rotate_left 1
        · intro w9 hSw; obtain ⟨s0, g0, g1, g2, g3, g4, g5, g6, g7, g8, g9, g10, g11, g12, g13, g14⟩ := hSw; go_simp; try with_reducible rfl
        change wpAnyH _ _ _ _ _ _ _ (Act.put _ (some 45) _) _
        simp only [Act.put, List.setIfInBounds_toArray, List.set_cons_zero, List.set_cons_succ]
        refine wpAnyH_take (i := 3) (v := ?_) rfl (by kernel_rfl) (by kernel_rfl) (by kernel_rfl) (fun _ _ _ h => h) (Or.inl ⟨by rfl, ?_⟩) hHeld ?_
        rotate_left 1
        · intro w9 hSw; obtain ⟨s0, g0, g1, g2, g3, g4, g5, g6, g7, g8, g9, g10, g11, g12, g13, g14⟩ := hSw; go_simp; try with_reducible rfl
        change wpAnyH _ _ _ _ _ _ _ (Act.put _ (some 46) _) _
        simp only [Act.put, List.setIfInBounds_toArray, List.set_cons_zero, List.set_cons_succ]
        refine wpAnyH_take (i := 4) (v := ?_) rfl (by kernel_rfl) (by kernel_rfl) (by kernel_rfl) (fun _ _ _ h => h) (Or.inl ⟨by rfl, ?_⟩) hHeld ?_
        rotate_left 1
        · intro w9 hSw; obtain ⟨s0, g0, g1, g2, g3, g4, g5, g6, g7, g8, g9, g10, g11, g12, g13, g14⟩ := hSw; go_simp; try with_reducible rfl
        change wpAnyH _ _ _ _ _ _ _ (Act.put _ (some 47) _) _
        simp only [Act.put, List.setIfInBounds_toArray, List.set_cons_zero, List.set_cons_succ]
        refine wpAnyH_take (i := 5) (v := ?_) rfl (by kernel_rfl) (by kernel_rfl) (by kernel_rfl) (fun _ _ _ h => h) (Or.inl ⟨by rfl, ?_⟩) hHeld ?_
        rotate_left 1
        · intro w9 hSw; obtain ⟨s0, g0, g1, g2, g3, g4, g5, g6, g7, g8, g9, g10, g11, g12, g13, g14⟩ := hSw; go_simp; try with_reducible rfl
        change wpAnyH _ _ _ _ _ _ _ (Act.put _ (some 48) _) _
        simp only [Act.put, List.setIfInBounds_toArray, List.set_cons_zero, List.set_cons_succ]
        refine wpAnyH_ready (rs := [6, 10]) (by kernel_rfl) (by simp) ?_
        refine AllReadyH.cons rfl (fun K9 hK => ?_) (AllReadyH.cons rfl (fun K9 hK => ?_) AllReadyH.nil)
        · go_simp
          refine (HDo.out _ HDk.out).mono ?_
          rintro e w5 ⟨E', X', va', vc', M', rfl, hR5, hS5⟩
          have S5 : Hid (Stp w4 (SF m E) (SF m E) w5) := ((Stp.of (SF m E) HDk.out).trans hS5).same
          have HSk : Hid (w5.cell? ⟨R, 0, none⟩ = some (.slice va (List.length M) vc) ∧ w5.cell? ⟨b0, o0 + i * 15, none⟩ = some (.int .i64 y.kd) ∧ w5.cell? ⟨b0, o0 + i * 15 + 1, none⟩ = some (.string y.z.t.n) ∧ w5.cell? ⟨b0, o0 + i * 15 + 2, none⟩ = some (.string y.z.t.p) ∧ w5.cell? ⟨b0, o0 + i * 15 + 3, none⟩ = some (y.z.vo) ∧ w5.cell? ⟨b0, o0 + i * 15 + 4, none⟩ = some (y.z.va) ∧ w5.cell? ⟨b0, o0 + i * 15 + 5, none⟩ = some (y.z.vc) ∧ w5.cell? ⟨b0, o0 + i * 15 + 6, none⟩ = some (.int .i64 y.z.t.nd) ∧ w5.cell? ⟨b0, o0 + i * 15 + 7, none⟩ = some (.int .i64 y.z.t.lf) ∧ w5.cell? ⟨b0, o0 + i * 15 + 8, none⟩ = some (.int .i64 y.z.t.sq) ∧ w5.cell? ⟨b0, o0 + i * 15 + 9, none⟩ = some (.string y.n) ∧ w5.cell? ⟨b0, o0 + i * 15 + 10, none⟩ = some (.slice y.lp y.l.length y.lc) ∧ w5.cell? ⟨b0, o0 + i * 15 + 11, none⟩ = some (.int .i64 y.a) ∧ w5.cell? ⟨b0, o0 + i * 15 + 12, none⟩ = some (.int .i64 y.b) ∧ w5.cell? ⟨b0, o0 + i * 15 + 13, none⟩ = some (.int .i64 y.c) ∧ w5.cell? ⟨b0, o0 + i * 15 + 14, none⟩ = some (.int .i64 y.i)) := ⟨by rw [Lib.cell_of_heap ((S5.out.block _ (Array.getElem?_eq_some_iff.1 HRr4.out).1 HRn4.out.1).trans HRr4.out)]; rfl, (HCa5.out w5 (hR5.bel))⟩
          have hRlt5 : R < w5.heap.size := Nat.lt_of_lt_of_le (Array.getElem?_eq_some_iff.1 HRr4.out).1 S5.out.size
          go_simp
          refine hK.out _ _ HSk.out (fun hHeld => ?_)
          clear hK K9
          refine wpAnyH_take (i := 7) (v := ?_) rfl (by kernel_rfl) (by kernel_rfl) (by kernel_rfl) (fun _ _ _ h => h) (Or.inl ⟨by rfl, ?_⟩) hHeld ?_
          rotate_left 1
          · intro w9 hSw; obtain ⟨s0, g0, g1, g2, g3, g4, g5, g6, g7, g8, g9, g10, g11, g12, g13, g14⟩ := hSw; go_simp; try with_reducible rfl
          change wpAnyH _ _ _ _ _ _ _ (Act.put _ (some 42) _) _
          simp only [Act.put, List.setIfInBounds_toArray, List.set_cons_zero, List.set_cons_succ]
          refine wpAnyH_take (i := 8) (v := ?_) rfl (by kernel_rfl) (by kernel_rfl) (by kernel_rfl) (fun _ _ _ h => h) (Or.inl ⟨by rfl, ?_⟩) hHeld ?_
          rotate_left 1
          · intro w9 hSw; obtain ⟨s0, g0, g1, g2, g3, g4, g5, g6, g7, g8, g9, g10, g11, g12, g13, g14⟩ := hSw; go_simp; try with_reducible rfl
          change wpAnyH _ _ _ _ _ _ _ (Act.put _ (some 50) _) _
          simp only [Act.put, List.setIfInBounds_toArray, List.set_cons_zero, List.set_cons_succ]
          refine wpAnyH_take (i := 9) (v := ?_) rfl (by kernel_rfl) (by kernel_rfl) (by kernel_rfl) (fun _ _ _ h => h) (Or.inl ⟨by rfl, ?_⟩) hHeld ?_
          rotate_left 1
          · intro w9 hSw; obtain ⟨s0, g0, g1, g2, g3, g4, g5, g6, g7, g8, g9, g10, g11, g12, g13, g14⟩ := hSw; go_simp; try with_reducible rfl
          change wpAnyH _ _ _ _ _ _ _ (Act.put _ (some 51) _) _
          simp only [Act.put, List.setIfInBounds_toArray, List.set_cons_zero, List.set_cons_succ]
          refine wpAnyH_ready (rs := [10]) (by kernel_rfl) (by simp) ?_
          refine AllReadyH.cons rfl (fun K9 hK => ?_) AllReadyH.nil
          go_simp
          have HSa5 : Hid ((w5.alloc (.cells #[.slice none 0 0] 27)).cell? ⟨R, 0, none⟩ = some (.slice va (List.length M) vc) ∧ (w5.alloc (.cells #[.slice none 0 0] 27)).cell? ⟨b0, o0 + i * 15, none⟩ = some (.int .i64 y.kd) ∧ (w5.alloc (.cells #[.slice none 0 0] 27)).cell? ⟨b0, o0 + i * 15 + 1, none⟩ = some (.string y.z.t.n) ∧ (w5.alloc (.cells #[.slice none 0 0] 27)).cell? ⟨b0, o0 + i * 15 + 2, none⟩ = some (.string y.z.t.p) ∧ (w5.alloc (.cells #[.slice none 0 0] 27)).cell? ⟨b0, o0 + i * 15 + 3, none⟩ = some (y.z.vo) ∧ (w5.alloc (.cells #[.slice none 0 0] 27)).cell? ⟨b0, o0 + i * 15 + 4, none⟩ = some (y.z.va) ∧ (w5.alloc (.cells #[.slice none 0 0] 27)).cell? ⟨b0, o0 + i * 15 + 5, none⟩ = some (y.z.vc) ∧ (w5.alloc (.cells #[.slice none 0 0] 27)).cell? ⟨b0, o0 + i * 15 + 6, none⟩ = some (.int .i64 y.z.t.nd) ∧ (w5.alloc (.cells #[.slice none 0 0] 27)).cell? ⟨b0, o0 + i * 15 + 7, none⟩ = some (.int .i64 y.z.t.lf) ∧ (w5.alloc (.cells #[.slice none 0 0] 27)).cell? ⟨b0, o0 + i * 15 + 8, none⟩ = some (.int .i64 y.z.t.sq) ∧ (w5.alloc (.cells #[.slice none 0 0] 27)).cell? ⟨b0, o0 + i * 15 + 9, none⟩ = some (.string y.n) ∧ (w5.alloc (.cells #[.slice none 0 0] 27)).cell? ⟨b0, o0 + i * 15 + 10, none⟩ = some (.slice y.lp y.l.length y.lc) ∧ (w5.alloc (.cells #[.slice none 0 0] 27)).cell? ⟨b0, o0 + i * 15 + 11, none⟩ = some (.int .i64 y.a) ∧ (w5.alloc (.cells #[.slice none 0 0] 27)).cell? ⟨b0, o0 + i * 15 + 12, none⟩ = some (.int .i64 y.b) ∧ (w5.alloc (.cells #[.slice none 0 0] 27)).cell? ⟨b0, o0 + i * 15 + 13, none⟩ = some (.int .i64 y.c) ∧ (w5.alloc (.cells #[.slice none 0 0] 27)).cell? ⟨b0, o0 + i * 15 + 14, none⟩ = some (.int .i64 y.i)) := by
            obtain ⟨e0, e1⟩ := HSk.out
            exact ⟨((al_b w5 _).cell (p := ⟨R, 0, none⟩) hRlt5).trans e0, HCa5.out _ (hR5.bel.trans ((al_b w5 _).mono hR5.bel.size))⟩
          refine hK.out _ _ HSa5.out (fun hHeld => ?_)
          clear hK K9
          have hRg : R ≠ w5.heap.size := Nat.ne_of_lt hRlt5
          have hbg : b0 ≠ w5.heap.size := by have := hR5.bel.size; have := Hlt.out; omega
          have hkE : (w5.alloc (.cells #[.slice none 0 0] 27)).heap[w5.heap.size]? = some (.cells #[.slice none 0 0] 27 (0, 0)) := new_at w5 (.cells #[.slice none 0 0] 27)
          have m0 : (w5.alloc (.cells #[.slice none 0 0] 27)).cell? ⟨w5.heap.size, 0, none⟩ = some (.slice none 0 0) := by rw [Lib.cell_of_heap hkE]; rfl
          have mf : ∀ j, (w5.alloc (.cells #[.slice none 0 0] 27)).frozen? ⟨w5.heap.size, j, none⟩ = false := fun j => Lib.frozen_of_heap hkE j
          have HFi : Hid (SpD w w4 s m R (.pointer (some ⟨w5.heap.size, 0, none⟩)) ((w5.alloc (.cells #[.slice none 0 0] 27)).setCell ⟨w5.heap.size, 0, none⟩ (.slice va' (List.length M') vc'))) := spd_a hR5 ((Stp.of (SF m E) HDk.out).trans hS5) HRr4.out HRn4.out.1
          have HSe : Hid (((w5.alloc (.cells #[.slice none 0 0] 27)).setCell ⟨w5.heap.size, 0, none⟩ (.slice va' (List.length M') vc')).cell? ⟨R, 0, none⟩ = some (.slice va (List.length M) vc) ∧ ((w5.alloc (.cells #[.slice none 0 0] 27)).setCell ⟨w5.heap.size, 0, none⟩ (.slice va' (List.length M') vc')).cell? ⟨b0, o0 + i * 15, none⟩ = some (.int .i64 y.kd) ∧ ((w5.alloc (.cells #[.slice none 0 0] 27)).setCell ⟨w5.heap.size, 0, none⟩ (.slice va' (List.length M') vc')).cell? ⟨b0, o0 + i * 15 + 1, none⟩ = some (.string y.z.t.n) ∧ ((w5.alloc (.cells #[.slice none 0 0] 27)).setCell ⟨w5.heap.size, 0, none⟩ (.slice va' (List.length M') vc')).cell? ⟨b0, o0 + i * 15 + 2, none⟩ = some (.string y.z.t.p) ∧ ((w5.alloc (.cells #[.slice none 0 0] 27)).setCell ⟨w5.heap.size, 0, none⟩ (.slice va' (List.length M') vc')).cell? ⟨b0, o0 + i * 15 + 3, none⟩ = some (y.z.vo) ∧ ((w5.alloc (.cells #[.slice none 0 0] 27)).setCell ⟨w5.heap.size, 0, none⟩ (.slice va' (List.length M') vc')).cell? ⟨b0, o0 + i * 15 + 4, none⟩ = some (y.z.va) ∧ ((w5.alloc (.cells #[.slice none 0 0] 27)).setCell ⟨w5.heap.size, 0, none⟩ (.slice va' (List.length M') vc')).cell? ⟨b0, o0 + i * 15 + 5, none⟩ = some (y.z.vc) ∧ ((w5.alloc (.cells #[.slice none 0 0] 27)).setCell ⟨w5.heap.size, 0, none⟩ (.slice va' (List.length M') vc')).cell? ⟨b0, o0 + i * 15 + 6, none⟩ = some (.int .i64 y.z.t.nd) ∧ ((w5.alloc (.cells #[.slice none 0 0] 27)).setCell ⟨w5.heap.size, 0, none⟩ (.slice va' (List.length M') vc')).cell? ⟨b0, o0 + i * 15 + 7, none⟩ = some (.int .i64 y.z.t.lf) ∧ ((w5.alloc (.cells #[.slice none 0 0] 27)).setCell ⟨w5.heap.size, 0, none⟩ (.slice va' (List.length M') vc')).cell? ⟨b0, o0 + i * 15 + 8, none⟩ = some (.int .i64 y.z.t.sq) ∧ ((w5.alloc (.cells #[.slice none 0 0] 27)).setCell ⟨w5.heap.size, 0, none⟩ (.slice va' (List.length M') vc')).cell? ⟨b0, o0 + i * 15 + 9, none⟩ = some (.string y.n) ∧ ((w5.alloc (.cells #[.slice none 0 0] 27)).setCell ⟨w5.heap.size, 0, none⟩ (.slice va' (List.length M') vc')).cell? ⟨b0, o0 + i * 15 + 10, none⟩ = some (.slice y.lp y.l.length y.lc) ∧ ((w5.alloc (.cells #[.slice none 0 0] 27)).setCell ⟨w5.heap.size, 0, none⟩ (.slice va' (List.length M') vc')).cell? ⟨b0, o0 + i * 15 + 11, none⟩ = some (.int .i64 y.a) ∧ ((w5.alloc (.cells #[.slice none 0 0] 27)).setCell ⟨w5.heap.size, 0, none⟩ (.slice va' (List.length M') vc')).cell? ⟨b0, o0 + i * 15 + 12, none⟩ = some (.int .i64 y.b) ∧ ((w5.alloc (.cells #[.slice none 0 0] 27)).setCell ⟨w5.heap.size, 0, none⟩ (.slice va' (List.length M') vc')).cell? ⟨b0, o0 + i * 15 + 13, none⟩ = some (.int .i64 y.c) ∧ ((w5.alloc (.cells #[.slice none 0 0] 27)).setCell ⟨w5.heap.size, 0, none⟩ (.slice va' (List.length M') vc')).cell? ⟨b0, o0 + i * 15 + 14, none⟩ = some (.int .i64 y.i)) := by
            obtain ⟨e0, e1, e2, e3, e4, e5, e6, e7, e8, e9, e10, e11, e12, e13, e14, e15⟩ := HSa5.out
            have o : ∀ b j, b ≠ w5.heap.size → ((w5.alloc (.cells #[.slice none 0 0] 27)).setCell ⟨w5.heap.size, 0, none⟩ (.slice va' (List.length M') vc')).cell? ⟨b, j, none⟩ = (w5.alloc (.cells #[.slice none 0 0] 27)).cell? ⟨b, j, none⟩ := fun b j hb => World.cell?_setCell_other _ _ _ _ (by simp only [ne_eq, Addr.mk.injEq, not_and]; intro e; exact absurd e.symm hb)
            exact ⟨(o _ _ hRg).trans e0, (o _ _ hbg).trans e1, (o _ _ hbg).trans e2, (o _ _ hbg).trans e3, (o _ _ hbg).trans e4, (o _ _ hbg).trans e5, (o _ _ hbg).trans e6, (o _ _ hbg).trans e7, (o _ _ hbg).trans e8, (o _ _ hbg).trans e9, (o _ _ hbg).trans e10, (o _ _ hbg).trans e11, (o _ _ hbg).trans e12, (o _ _ hbg).trans e13, (o _ _ hbg).trans e14, (o _ _ hbg).trans e15⟩
          generalize hWE : (w5.alloc (.cells #[.slice none 0 0] 27)) = WE at *
          clear hWE hkE
          refine wpAnyH_ready (rs := [11]) (by kernel_rfl) (by simp) ?_
          refine AllReadyH.cons rfl (fun K9 hK => ?_) AllReadyH.nil
          go_simp
          refine hK.out _ _ HSe.out (fun hHeld => ?_)
          clear hK K9
          refine wpAnyH_ready (rs := [12]) (by kernel_rfl) (by simp) ?_
          refine AllReadyH.cons rfl (fun K9 hK => ?_) AllReadyH.nil
          go_simp
          refine hK.out _ _ hHeld (fun hHeld => ?_)
          clear hK K9
          refine wpAnyH_done (by kernel_rfl) ?_ _
          clear hHeld HS m0 mf HSe
          try go_wp2_with fail
          go_meet
          exact ⟨rfl, HFi.out⟩
        · go_simp
          have Ba : Hid (Below w4.heap.size w4 (wd.alloc (.cells #[.slice none 0 0] 27))) := HDk.out.trans ((al_b wd _).mono HDk.out.size)
          refine hK.out _ _ (HS.out _ Ba.out) (fun hHeld => ?_)
          clear hK K9
          refine wpAnyH_ready (rs := [6]) (by kernel_rfl) (by simp) ?_
          refine AllReadyH.cons rfl (fun K9 hK => ?_) AllReadyH.nil
          go_simp
          refine (HDo.out _ Ba.out).mono ?_
          rintro e w5 ⟨E', X', va', vc', M', rfl, hR5, hS5⟩
          have S5 : Hid (Stp w4 (SF m E) (SF m E) w5) := ((Stp.of (SF m E) Ba.out).trans hS5).same
          have HSk : Hid (w5.cell? ⟨R, 0, none⟩ = some (.slice va (List.length M) vc) ∧ w5.cell? ⟨b0, o0 + i * 15, none⟩ = some (.int .i64 y.kd) ∧ w5.cell? ⟨b0, o0 + i * 15 + 1, none⟩ = some (.string y.z.t.n) ∧ w5.cell? ⟨b0, o0 + i * 15 + 2, none⟩ = some (.string y.z.t.p) ∧ w5.cell? ⟨b0, o0 + i * 15 + 3, none⟩ = some (y.z.vo) ∧ w5.cell? ⟨b0, o0 + i * 15 + 4, none⟩ = some (y.z.va) ∧ w5.cell? ⟨b0, o0 + i * 15 + 5, none⟩ = some (y.z.vc) ∧ w5.cell? ⟨b0, o0 + i * 15 + 6, none⟩ = some (.int .i64 y.z.t.nd) ∧ w5.cell? ⟨b0, o0 + i * 15 + 7, none⟩ = some (.int .i64 y.z.t.lf) ∧ w5.cell? ⟨b0, o0 + i * 15 + 8, none⟩ = some (.int .i64 y.z.t.sq) ∧ w5.cell? ⟨b0, o0 + i * 15 + 9, none⟩ = some (.string y.n) ∧ w5.cell? ⟨b0, o0 + i * 15 + 10, none⟩ = some (.slice y.lp y.l.length y.lc) ∧ w5.cell? ⟨b0, o0 + i * 15 + 11, none⟩ = some (.int .i64 y.a) ∧ w5.cell? ⟨b0, o0 + i * 15 + 12, none⟩ = some (.int .i64 y.b) ∧ w5.cell? ⟨b0, o0 + i * 15 + 13, none⟩ = some (.int .i64 y.c) ∧ w5.cell? ⟨b0, o0 + i * 15 + 14, none⟩ = some (.int .i64 y.i)) := ⟨by rw [Lib.cell_of_heap ((S5.out.block _ (Array.getElem?_eq_some_iff.1 HRr4.out).1 HRn4.out.1).trans HRr4.out)]; rfl, (HCa5.out w5 (hR5.bel))⟩
          go_simp
          refine hK.out _ _ HSk.out (fun hHeld => ?_)
          clear hK K9
          refine wpAnyH_take (i := 7) (v := ?_) rfl (by kernel_rfl) (by kernel_rfl) (by kernel_rfl) (fun _ _ _ h => h) (Or.inl ⟨by rfl, ?_⟩) hHeld ?_
          rotate_left 1
          · intro w9 hSw; obtain ⟨s0, g0, g1, g2, g3, g4, g5, g6, g7, g8, g9, g10, g11, g12, g13, g14⟩ := hSw; go_simp; try with_reducible rfl
          change wpAnyH _ _ _ _ _ _ _ (Act.put _ (some 42) _) _
          simp only [Act.put, List.setIfInBounds_toArray, List.set_cons_zero, List.set_cons_succ]
          refine wpAnyH_take (i := 8) (v := ?_) rfl (by kernel_rfl) (by kernel_rfl) (by kernel_rfl) (fun _ _ _ h => h) (Or.inl ⟨by rfl, ?_⟩) hHeld ?_
          rotate_left 1
          · intro w9 hSw; obtain ⟨s0, g0, g1, g2, g3, g4, g5, g6, g7, g8, g9, g10, g11, g12, g13, g14⟩ := hSw; go_simp; try with_reducible rfl
          change wpAnyH _ _ _ _ _ _ _ (Act.put _ (some 50) _) _
          simp only [Act.put, List.setIfInBounds_toArray, List.set_cons_zero, List.set_cons_succ]
          refine wpAnyH_take (i := 9) (v := ?_) rfl (by kernel_rfl) (by kernel_rfl) (by kernel_rfl) (fun _ _ _ h => h) (Or.inl ⟨by rfl, ?_⟩) hHeld ?_
          rotate_left 1
          · intro w9 hSw; obtain ⟨s0, g0, g1, g2, g3, g4, g5, g6, g7, g8, g9, g10, g11, g12, g13, g14⟩ := hSw; go_simp; try with_reducible rfl
          change wpAnyH _ _ _ _ _ _ _ (Act.put _ (some 51) _) _
          simp only [Act.put, List.setIfInBounds_toArray, List.set_cons_zero, List.set_cons_succ]
          have hlt4 := (Array.getElem?_eq_some_iff.1 HRr4.out).1
          have hdz := HDk.out.size
          have hRg : R ≠ wd.heap.size := by omega
          have hbg : b0 ≠ wd.heap.size := by have := Bw4.out.size; have := Hlt.out; omega
          have hgn : ¬ SF m E wd.heap.size := fun e => by have := HRn4.out.2.2 _ e; omega
          have hkE : (w5).heap[wd.heap.size]? = some (.cells #[.slice none 0 0] 27 (0, 0)) := (hS5.far (Array.getElem?_eq_some_iff.1 (new_at wd (.cells #[.slice none 0 0] 27))).1 hgn).1.trans (new_at wd (.cells #[.slice none 0 0] 27))
          have m0 : (w5).cell? ⟨wd.heap.size, 0, none⟩ = some (.slice none 0 0) := by rw [Lib.cell_of_heap hkE]; rfl
          have mf : ∀ j, (w5).frozen? ⟨wd.heap.size, j, none⟩ = false := fun j => Lib.frozen_of_heap hkE j
          have HFi : Hid (SpD w w4 s m R (.pointer (some ⟨wd.heap.size, 0, none⟩)) ((w5).setCell ⟨wd.heap.size, 0, none⟩ (.slice va' (List.length M') vc'))) := (spd_b hR5 hS5 HRd.out HRn4.out.1 (fun k hk => Nat.lt_of_lt_of_le (HRn4.out.2.2 k hk) hdz) (Nat.le_trans Bw4.out.size hdz)).from HDz.out
          have HSe : Hid (((w5).setCell ⟨wd.heap.size, 0, none⟩ (.slice va' (List.length M') vc')).cell? ⟨R, 0, none⟩ = some (.slice va (List.length M) vc) ∧ ((w5).setCell ⟨wd.heap.size, 0, none⟩ (.slice va' (List.length M') vc')).cell? ⟨b0, o0 + i * 15, none⟩ = some (.int .i64 y.kd) ∧ ((w5).setCell ⟨wd.heap.size, 0, none⟩ (.slice va' (List.length M') vc')).cell? ⟨b0, o0 + i * 15 + 1, none⟩ = some (.string y.z.t.n) ∧ ((w5).setCell ⟨wd.heap.size, 0, none⟩ (.slice va' (List.length M') vc')).cell? ⟨b0, o0 + i * 15 + 2, none⟩ = some (.string y.z.t.p) ∧ ((w5).setCell ⟨wd.heap.size, 0, none⟩ (.slice va' (List.length M') vc')).cell? ⟨b0, o0 + i * 15 + 3, none⟩ = some (y.z.vo) ∧ ((w5).setCell ⟨wd.heap.size, 0, none⟩ (.slice va' (List.length M') vc')).cell? ⟨b0, o0 + i * 15 + 4, none⟩ = some (y.z.va) ∧ ((w5).setCell ⟨wd.heap.size, 0, none⟩ (.slice va' (List.length M') vc')).cell? ⟨b0, o0 + i * 15 + 5, none⟩ = some (y.z.vc) ∧ ((w5).setCell ⟨wd.heap.size, 0, none⟩ (.slice va' (List.length M') vc')).cell? ⟨b0, o0 + i * 15 + 6, none⟩ = some (.int .i64 y.z.t.nd) ∧ ((w5).setCell ⟨wd.heap.size, 0, none⟩ (.slice va' (List.length M') vc')).cell? ⟨b0, o0 + i * 15 + 7, none⟩ = some (.int .i64 y.z.t.lf) ∧ ((w5).setCell ⟨wd.heap.size, 0, none⟩ (.slice va' (List.length M') vc')).cell? ⟨b0, o0 + i * 15 + 8, none⟩ = some (.int .i64 y.z.t.sq) ∧ ((w5).setCell ⟨wd.heap.size, 0, none⟩ (.slice va' (List.length M') vc')).cell? ⟨b0, o0 + i * 15 + 9, none⟩ = some (.string y.n) ∧ ((w5).setCell ⟨wd.heap.size, 0, none⟩ (.slice va' (List.length M') vc')).cell? ⟨b0, o0 + i * 15 + 10, none⟩ = some (.slice y.lp y.l.length y.lc) ∧ ((w5).setCell ⟨wd.heap.size, 0, none⟩ (.slice va' (List.length M') vc')).cell? ⟨b0, o0 + i * 15 + 11, none⟩ = some (.int .i64 y.a) ∧ ((w5).setCell ⟨wd.heap.size, 0, none⟩ (.slice va' (List.length M') vc')).cell? ⟨b0, o0 + i * 15 + 12, none⟩ = some (.int .i64 y.b) ∧ ((w5).setCell ⟨wd.heap.size, 0, none⟩ (.slice va' (List.length M') vc')).cell? ⟨b0, o0 + i * 15 + 13, none⟩ = some (.int .i64 y.c) ∧ ((w5).setCell ⟨wd.heap.size, 0, none⟩ (.slice va' (List.length M') vc')).cell? ⟨b0, o0 + i * 15 + 14, none⟩ = some (.int .i64 y.i)) := by
            obtain ⟨e0, e1, e2, e3, e4, e5, e6, e7, e8, e9, e10, e11, e12, e13, e14, e15⟩ := HSk.out
            have o : ∀ b j, b ≠ wd.heap.size → ((w5).setCell ⟨wd.heap.size, 0, none⟩ (.slice va' (List.length M') vc')).cell? ⟨b, j, none⟩ = (w5).cell? ⟨b, j, none⟩ := fun b j hb => World.cell?_setCell_other _ _ _ _ (by simp only [ne_eq, Addr.mk.injEq, not_and]; intro e; exact absurd e.symm hb)
            exact ⟨(o _ _ hRg).trans e0, (o _ _ hbg).trans e1, (o _ _ hbg).trans e2, (o _ _ hbg).trans e3, (o _ _ hbg).trans e4, (o _ _ hbg).trans e5, (o _ _ hbg).trans e6, (o _ _ hbg).trans e7, (o _ _ hbg).trans e8, (o _ _ hbg).trans e9, (o _ _ hbg).trans e10, (o _ _ hbg).trans e11, (o _ _ hbg).trans e12, (o _ _ hbg).trans e13, (o _ _ hbg).trans e14, (o _ _ hbg).trans e15⟩
          generalize hWE : (w5) = WE at *
          clear hWE hkE
          refine wpAnyH_ready (rs := [11]) (by kernel_rfl) (by simp) ?_
          refine AllReadyH.cons rfl (fun K9 hK => ?_) AllReadyH.nil
          go_simp
          refine hK.out _ _ HSe.out (fun hHeld => ?_)
          clear hK K9
          refine wpAnyH_ready (rs := [12]) (by kernel_rfl) (by simp) ?_
          refine AllReadyH.cons rfl (fun K9 hK => ?_) AllReadyH.nil
          go_simp
          refine hK.out _ _ hHeld (fun hHeld => ?_)
          clear hK K9
          refine wpAnyH_done (by kernel_rfl) ?_ _
          clear hHeld HS m0 mf HSe
          try go_wp2_with fail
          go_meet
          exact ⟨rfl, HFi.out⟩
      case rest =>
        obtain ⟨rfl, g, E', X', va', vc', M', va0, n0, vc0, rfl, HR5, HG5, HRr5, HRn5, HNe5, HSz5⟩ := hcut
        have c8 : wc.cell? ⟨g, 0, none⟩ = some (.slice va' (List.length M') vc') := by rw [Lib.cell_of_heap HG5.out]; rfl
        have c6 : wc.cell? ⟨R, 0, none⟩ = some (.slice va0 n0 vc0) := by rw [Lib.cell_of_heap HRr5.out]; rfl
        have f6 : ∀ j, wc.frozen? ⟨R, j, none⟩ = false := fun j => Lib.frozen_of_heap HRr5.out j
        obtain ⟨w6, hw6⟩ : ∃ w6, w6 = wc.setCell ⟨R, 0, none⟩ (.slice va' (List.length M') vc') := ⟨_, rfl⟩
        have HR6 : Hid (RS w w6 s m E' X' (.slice va' (List.length M') vc') M') := by show RS _ _ _ _ _ _ _ _; rw [hw6]; exact HR5.out.put HRr5.out HRn4.out.2.1 _
        have hr6 : w6.heap[R]? = some (.cells #[.slice va' (List.length M') vc'] 27 (0, 0)) := by rw [hw6]; exact setD1 HRr5.out _
        have HI6 : Hid (SpI w s m R w6) := ⟨E', X', va', vc', M', HR6.out, hr6, HRn5.out, HRn4.out.2.1⟩
        have HSa : Hid (Calls Tryz.prog 8 #[stP s, .agg #[.slice va' (List.length M') vc']] w6 fun e w' => e = .returned (.bool true) ∧ Below w6.heap.size w6 w') := same17_any HR6.out HT.out
        have c7 : w6.cell? ⟨R, 0, none⟩ = some (.slice va' (List.length M') vc') := by rw [Lib.cell_of_heap hr6]; rfl
        rw [hw6] at c7
        clear HR5 HG5 HRr5 HRn5 HNe5 HSz5 HR4 HRr4 HRn4 Bw4 HDo HS HR6 hr6 HT
        go_wp2_with fail
        rw [← hw6]
        clear hw6 c6 c7 c8 f6
        refine HSa.out.mono ?_
        rintro e w7 ⟨rfl, hb⟩
        have HI7 : Hid (SpI w s m R w7) := HI6.out.below hb
        clear hb HI6 HSa
        go_wp2
        go_roundw
        case rel => exact ⟨i + 1, HR1.out.1, HR1.out.2, by simp, HI7.out⟩
        case measure => simp [intOf]; omega
  case rest =>
    obtain ⟨-, E, X, va, vc, M, h1, h2, h3, h4⟩ := hcut
    have HRr : Hid (wc.heap[R]? = some (.cells #[.slice va (List.length M) vc] 27 (0, 0))) := h2
    have Bwc : Hid (Below w.heap.size w wc) := h1.bel
    obtain ⟨bo, HFd⟩ : ∃ bo : Bool, Hid ((Calls Tryz.prog 9 #[stP s, .string n] wc fun e w' => ∃ s0 s1 a2 l2 c2 a3 l3 c3 a4 l4 c4 x5 x6 x7 b8 a9 l9 c9, e = .returned (.tuple #[.agg #[.string s0, .string s1, .slice a2 l2 c2, .slice a3 l3 c3, .slice a4 l4 c4, .int .i64 x5, .int .i64 x6, .int .i64 x7, .bool b8, .slice a9 l9 c9], .bool bo]) ∧ Below wc.heap.size wc w') ∧ ∀ W, Below wc.heap.size wc W → Calls Tryz.prog 10 #[.agg #[.slice va (List.length M) vc], .string n] W fun e w' => ∃ z : Int, e = .returned (.int .i64 z) ∧ decide (0 ≤ z) = bo ∧ Below W.heap.size W w') := by
      obtain ⟨n1, n2, n3⟩ := h1.names
      have hn := Hn.out
      have hRf : ∀ W, Below wc.heap.size wc W → Calls Tryz.prog 10 #[.agg #[.slice va (List.length M) vc], .string n] W fun e w' => e = .returned (.int .i64 (fndZ M n)) ∧ Below W.heap.size W w' := fun W hb => Find17_any _ M n W (h1.ks.below hb).get.1 (by omega) n3 (by omega)
      rcases h1.pl.find n with ⟨f1, f2⟩ | ⟨i, hi, g, f1, f2, f3, f4, f5, f6, f7⟩
      · refine ⟨false, (findS_none h1.st n (by omega) f1 (HT.out _ Bwc.out).1).mono ?_, fun W hb => (hRf W hb).mono ?_⟩
        · rintro e w' ⟨rfl, hb⟩
          exact ⟨_, _, _, _, _, _, _, _, _, _, _, _, _, _, _, _, _, _, rfl, hb⟩
        · rintro e w' ⟨rfl, hb⟩
          exact ⟨_, rfl, decide_eq_false (by omega), hb⟩
      · obtain ⟨-, -, ⟨s1, s2, s3⟩, -⟩ := one_okQ (h1.pl.ok _ (List.getElem_mem hi)).1
        refine ⟨true, (findS_some h1.st n (by omega) f2 (by rw [f4]; exact s1) (by rw [f4]; exact s2) (by rw [f4]; exact s3) (HT.out _ Bwc.out).1).mono ?_, fun W hb => (hRf W hb).mono ?_⟩
        · rintro e w' ⟨v1, v2, v3, vw, rfl, ⟨o1, o2, o3⟩, o4, hb⟩
          obtain ⟨_, _, rfl⟩ := (IsRow.own o1).form
          obtain ⟨_, _, rfl⟩ := (IsRow.own o2).form
          obtain ⟨_, _, rfl⟩ := (IsRow.own o3).form
          obtain ⟨_, _, rfl⟩ := (IsRow.own o4).form
          exact ⟨_, _, _, _, _, _, _, _, _, _, _, _, _, _, _, _, _, _, rfl, hb⟩
        · rintro e w' ⟨rfl, hb⟩
          exact ⟨_, rfl, decide_eq_true (by rw [f1]; omega), hb⟩
    clear h1 h2 h3 h4 HRw HOk HT HS3 Hn
    go_wp2_with fail
    refine HFd.out.1.mono ?_
    rintro e w5 ⟨s0, s1, a2, l2, c2, a3, l3, c3, a4, l4, c4, x5, x6, x7, b8, a9, l9, c9, rfl, hb⟩
    have B5 : Hid (Below wc.heap.size wc w5) := hb
    obtain ⟨w6, hw6⟩ : ∃ w6, w6 = w5.alloc (.cells #[.string s0, .string s1, .slice a2 l2 c2, .slice a3 l3 c3, .slice a4 l4 c4, .int .i64 x5, .int .i64 x6, .int .i64 x7, .bool b8, .slice a9 l9 c9] 43) := ⟨_, rfl⟩
    have B6 : Hid (Below wc.heap.size wc w6) := by show Below _ _ _; rw [hw6]; exact hb.trans ((al_b _ _).mono hb.size)
    have cr : w6.cell? ⟨R, 0, none⟩ = some (.slice va (List.length M) vc) := by rw [Lib.cell_of_heap ((B6.out.block _ (Array.getElem?_eq_some_iff.1 HRr.out).1).trans HRr.out)]; rfl
    clear hb
    rw [hw6] at cr
    go_wp2_with fail
    rw [← hw6]
    clear hw6 cr
    refine (HFd.out.2 _ B6.out).mono ?_
    rintro e w7 ⟨z, rfl, hz, hb⟩
    have HBz : Hid (Below w.heap.size w w7) := Bwc.out.trans ((B6.out.trans (hb.mono B6.out.size)).mono Bwc.out.size)
    clear hb HFd HRr B5 B6 Bwc
    cases bo with
    | false =>
      have dz : ¬ 0 ≤ z := of_decide_eq_false hz
      go_wp2
      go_ret
      exact ⟨by first | rfl | simp, HBz.out⟩
    | true =>
      have dz : 0 ≤ z := of_decide_eq_true hz
      go_wp2
      go_ret
      exact ⟨by first | rfl | simp, HBz.out⟩
end Go.Proofs.YtlndgepoekllkaaGreatDoor
