/- law17's same: its walk. -/
import Derived.Test.YtlndgepoekllkaaGreatDoorZk35
import Derived.Test.YtlndgepoekllkaaGreatDoorZk30
import Derived.Test.YtlndgepoekllkaaGreatDoorZk17
import Derived.Test.YtlndgepoekllkaaGreatDoorZk27
import Derived.Test.YtlndgepoekllkaaGreatDoorZk13
import Derived.Test.YtlndgepoekllkaaGreatDoorZk16
namespace Go.Proofs.YtlndgepoekllkaaGreatDoor
open Go.RowKit Go.ChangeMaps

theorem PlI.sm {E : List (ByteArray × Nat)} {X : Nat → Kp} {M : List KR} (h : PlI E X M) (hl : E.length ≤ 200) : SmE E X := by
  refine ⟨fun p hp => ?_, by omega⟩
  obtain ⟨k, hk, e⟩ := List.mem_map.1 (h.per.mem_iff.2 (List.mem_map.2 ⟨p, hp, rfl⟩))
  obtain ⟨j, hj, rfl⟩ := List.getElem_of_mem hk
  obtain ⟨g, g1, g2, -⟩ := h.kat j hj
  have hp2 : lkS E p.1 = some p.2 := lk_of h.nk hp
  rw [e, hp2] at g1
  obtain rfl := Option.some.inj g1
  obtain ⟨-, -, ⟨s1, s2, s3⟩, s4⟩ := one_okQ (h.ok _ hk).1
  rw [g2]
  refine ⟨?_, s1, s2, s3⟩
  rw [← e]
  have := fold_size M[j].y.t.n
  unfold fk fldB
  omega
abbrev C8 (b o : Nat) (x : LT) (W : World) : Prop := W.cell? ⟨b, o, none⟩ = some (.string x.t.n) ∧ W.cell? ⟨b, o + 1, none⟩ = some (.string x.t.p) ∧ W.cell? ⟨b, o + 2, none⟩ = some x.vo ∧ W.cell? ⟨b, o + 3, none⟩ = some x.va ∧ W.cell? ⟨b, o + 4, none⟩ = some x.vc ∧ W.cell? ⟨b, o + 5, none⟩ = some (.int .i64 x.t.nd) ∧ W.cell? ⟨b, o + 6, none⟩ = some (.int .i64 x.t.lf) ∧ W.cell? ⟨b, o + 7, none⟩ = some (.int .i64 x.t.sq)
abbrev C10 (b o : Nat) (x : KR) (W : World) : Prop := C8 b o x.y W ∧ W.cell? ⟨b, o + 8, none⟩ = some (.bool x.s) ∧ W.cell? ⟨b, o + 9, none⟩ = some x.vw
/-- The block of what Find has told. -/
abbrev CF (q : Nat) (x : LT) (sb : Bool) (vw : Value) (W : World) : Prop := W.cell? ⟨q, 0, none⟩ = some (.string x.t.n) ∧ W.cell? ⟨q, 1, none⟩ = some (.string x.t.p) ∧ W.cell? ⟨q, 2, none⟩ = some x.vo ∧ W.cell? ⟨q, 3, none⟩ = some x.va ∧ W.cell? ⟨q, 4, none⟩ = some x.vc ∧ W.cell? ⟨q, 5, none⟩ = some (.int .i64 x.t.nd) ∧ W.cell? ⟨q, 6, none⟩ = some (.int .i64 x.t.lf) ∧ W.cell? ⟨q, 7, none⟩ = some (.int .i64 x.t.sq) ∧ W.cell? ⟨q, 8, none⟩ = some (.bool sb) ∧ W.cell? ⟨q, 9, none⟩ = some vw
theorem FdP.lt {x : Kp} {w : World} {e : Ending} {w' : World} (h : FdP x w e w') (hP : ∀ l, x.f = inW l → NodesP l → nodK x.f 16 = l) {l : List Int} (hf : x.f = inW l) (hl : NodesP l) : ∃ (y : LT) (aw : Option Addr) (cw : Nat), y.t = x.t ∧ e = .returned (.tuple #[.agg #[.string y.t.n, .string y.t.p, y.vo, y.va, y.vc, .int .i64 y.t.nd, .int .i64 y.t.lf, .int .i64 y.t.sq, .bool x.s, .slice aw l.length cw], .bool true]) ∧ IsTy w' y.t y.vo y.va y.vc ∧ IsRow w' 1 (.slice aw l.length cw) l.length (iCells l) ∧ Below w.heap.size w w' := by
  obtain ⟨v1, v2, v3, vw, rfl, ho, hw, hb⟩ := h
  rw [hP l hf hl] at hw
  obtain ⟨a1, c1, rfl⟩ := (IsRow.own ho.1).form
  obtain ⟨a2, c2, rfl⟩ := (IsRow.own ho.2.1).form
  obtain ⟨a3, c3, rfl⟩ := (IsRow.own ho.2.2).form
  obtain ⟨a4, c4, rfl⟩ := (IsRow.own hw).form
  exact ⟨⟨x.t, a1, c1, a2, c2, a3, c3⟩, a4, c4, rfl, rfl, ⟨IsRow.own ho.1, IsRow.own ho.2.1, IsRow.own ho.2.2⟩, IsRow.own hw, hb⟩
set_option maxRecDepth 100000 in
set_option maxHeartbeats 16000000 in
theorem same17_any {w0 w : World} {s m : Nat} {E : List (ByteArray × Nat)} {X : Nat → Kp} {v : Value} {M : List KR} (h : RS w0 w s m E X v M) (hT : ∀ W, Below w0.heap.size w0 W → UT W ∧ ML W) :
    Calls Tryz.prog 8 #[stP s, .agg #[v]] w fun e w' => e = .returned (.bool true) ∧ Below w.heap.size w w' := by
  obtain ⟨a0, c0, rfl⟩ := h.ks.get.1.form
  obtain ⟨n1, n2, n3⟩ := h.names
  have hB : ∀ W, Below w.heap.size w W → Below w0.heap.size w0 W := fun W hb => h.bel.trans (hb.mono h.bel.size)
  have HAl : Hid (∀ W, Below w.heap.size w W → Calls Tryz.prog 25 #[stP s] W fun e w' => ∃ (a : Option Addr) (c : Nat) (K : List LT), e = .returned (.slice a K.length c) ∧ tys K = (M.map fun k => k.y.t) ∧ IsTys w' (.slice a K.length c) K ∧ Below W.heap.size W w') := fun W hb => (allS_any (h.st.below hb) (h.pl.sm h.le) (hT W (hB W hb)).1).mono fun e w' ⟨a, c, D, K, h1, h2, h3, h4, h5⟩ => ⟨a, c, K, h1, by rw [h3, h.pl.keys h2, h.pl.tyK], h4, h5⟩
  have HWs : Hid (∀ W, Below w.heap.size w W → Calls Tryz.prog 26 #[stP s] W fun e w' => e = .returned (.int .i64 ((M.countP fun r => decide (r.l ≠ []) : Nat) : Int)) ∧ Below W.heap.size W w') := fun W hb => by
    have := waits_any (h.st.below hb) (fun p hp => ((h.pl.sm h.le).1 p hp).1) (by have := h.le; omega)
    rw [h.pl.waits] at this
    exact this
  have HWr : Hid (∀ W, Below w.heap.size w W → Calls Tryz.prog 27 #[.agg #[.slice a0 M.length c0]] W fun e w' => e = .returned (.int .i64 ((M.countP fun r => decide (r.l ≠ []) : Nat) : Int)) ∧ Below W.heap.size W w') := fun W hb => waits17_any _ M W (h.ks.below hb).get.1 (by omega)
  have HFd : Hid (∀ (i : Nat) (hi : i < M.length) W, Below w.heap.size w W → Calls Tryz.prog 9 #[stP s, .string M[i].y.t.n] W fun e w' => ∃ (y : LT) (aw : Option Addr) (cw : Nat), e = .returned (.tuple #[.agg #[.string y.t.n, .string y.t.p, y.vo, y.va, y.vc, .int .i64 y.t.nd, .int .i64 y.t.lf, .int .i64 y.t.sq, .bool M[i].s, .slice aw M[i].l.length cw], .bool true]) ∧ y.t = M[i].y.t ∧ IsTy w' y.t y.vo y.va y.vc ∧ IsRow w' 1 (.slice aw M[i].l.length cw) M[i].l.length (iCells M[i].l) ∧ Below W.heap.size W w') := fun i hi W hb => by
    obtain ⟨g, g1, g2, g3, g4, g5⟩ := h.pl.kat i hi
    obtain ⟨-, -, ⟨s1, s2, s3⟩, s4⟩ := one_okQ (h.pl.ok _ (List.getElem_mem hi)).1
    refine (findS_some (h.st.below hb) M[i].y.t.n (by omega) (g := g) g1 (by rw [g2]; exact s1) (by rw [g2]; exact s2) (by rw [g2]; exact s3) (hT W (hB W hb)).1).mono fun e w' hF => ?_
    obtain ⟨y, aw, cw, h1, h2, h3, h4, h5⟩ := hF.lt (fun l e hl => by rw [e]; exact nodK_in hl) g4 g5
    rw [g3] at h2
    exact ⟨y, aw, cw, h2, h1.trans g2, h3, h4, h5⟩
  have HRf : Hid (∀ (o : LT) W, IsTy W o.t o.vo o.va o.vc → SmT o.t → Calls Tryz.prog 17 #[ltV o] W fun e w' => RtP o.t W e w') := fun o W hI hs => refT_any o W hI (by have := hs.1; omega) (by have := hs.2.1; omega)
  have HSm : Hid (∀ (x y : LT) W, y.t = x.t → IsTy W x.t x.vo x.va x.vc → IsTy W y.t y.vo y.va y.vc → SmT x.t → Calls Tryz.prog 18 #[ltV x, ltV y] W fun e w' => e = .returned (.bool true) ∧ Below W.heap.size W w') := fun x y W e h1 h2 h3 => refSameT_ok x y W e h1 h2 h3
  have HS10 : Hid (∀ (v1 v2 : Value) (l : List Int) W, IsRow W 1 v1 l.length (iCells l) → IsRow W 1 v2 l.length (iCells l) → l.length ≤ 1000 → Calls Tryz.prog 28 #[v1, v2] W fun e w' => e = .returned (.bool true) ∧ Below W.heap.size W w') := fun v1 v2 l W h1 h2 h3 => same_eq v1 v2 l W h1 h2 (by omega)
  have HM : Hid (∀ (i : Nat) (hi : i < M.length), SmT M[i].y.t ∧ M[i].l.length ≤ 1000) := fun i hi => by
    obtain ⟨-, -, sm, -⟩ := one_okQ (h.pl.ok _ (List.getElem_mem hi)).1
    obtain ⟨g, g1, g2, g3, g4, g5⟩ := h.pl.kat i hi
    have := nodes_len g5
    exact ⟨sm, by omega⟩
  have HKs : Hid (∀ W, Below w.heap.size w W → IsKs W (.slice a0 M.length c0) M) := fun W hb => (h.ks.below hb).get
  have HCk : Hid (∀ (i : Nat) (hi : i < M.length), ∃ b o, a0 = some ⟨b, o, none⟩ ∧ ∀ (i : Nat) (hi : i < M.length) W, Below w.heap.size w W → C10 b (o + i * 10) M[i] W) := fun i hi => by
    obtain ⟨b, off, rfl, hlt, -, hc⟩ := kr_at (HKs.out w (Below.refl _ _)).1 (by omega)
    refine ⟨b, off, rfl, fun i hi W hb => ?_⟩
    obtain ⟨q0, q1, q2, q3, q4, q5, q6, q7, q8, q9⟩ := hc i hi
    exact ⟨⟨(hb.cell (p := ⟨b, _, none⟩) hlt).trans q0, (hb.cell (p := ⟨b, _, none⟩) hlt).trans q1, (hb.cell (p := ⟨b, _, none⟩) hlt).trans q2, (hb.cell (p := ⟨b, _, none⟩) hlt).trans q3, (hb.cell (p := ⟨b, _, none⟩) hlt).trans q4, (hb.cell (p := ⟨b, _, none⟩) hlt).trans q5, (hb.cell (p := ⟨b, _, none⟩) hlt).trans q6, (hb.cell (p := ⟨b, _, none⟩) hlt).trans q7⟩, (hb.cell (p := ⟨b, _, none⟩) hlt).trans q8, (hb.cell (p := ⟨b, _, none⟩) hlt).trans q9⟩
  have hM2 : M.length ≤ 200 := n2
  clear n1 n2 n3 hB
  clear h
  generalize (M.countP fun r => decide (r.l ≠ [])) = CW at *
  obtain ⟨w1, hw1⟩ : ∃ w1, w1 = w.alloc (.cells #[.slice a0 M.length c0] 27) := ⟨_, rfl⟩
  have B1 : Hid (Below w.heap.size w w1) := by show Below _ _ _; rw [hw1]; exact al_b _ _
  have hn1 : w1.heap[w.heap.size]? = some (.cells #[.slice a0 M.length c0] 27 (0, 0)) := by rw [hw1]; exact new_at _ _
  have C1 : Hid (∀ W, Below w1.heap.size w1 W → W.heap[w.heap.size]? = some (.cells #[.slice a0 M.length c0] 27 (0, 0))) := fun W h => (h.block _ (Array.getElem?_eq_some_iff.1 hn1).1).trans hn1
  clear hn1
  have HCp : Hid (∀ W, Below w1.heap.size w1 W → W.cell? ⟨w.heap.size, 0, none⟩ = some (.slice a0 M.length c0)) := fun W hb => by rw [Lib.cell_of_heap (C1.out W hb)]; rfl
  go_enter Tryz.func8, Tryz.ntmps8
  go_wp2_with fail
  rw [← hw1]
  clear hw1
  refine (HAl.out _ B1.out).mono ?_
  rintro e w2 ⟨al, cl, K, rfl, hK, hKI, hb⟩
  have Bp2 : Hid (Below w1.heap.size w1 w2) := hb
  have B2 : Hid (Below w.heap.size w w2) := B1.out.trans (hb.mono B1.out.size)
  have hKl : K.length = M.length := by have := congrArg List.length hK; simpa [tys] using this
  rw [hKl] at hKI ⊢
  have HKt : Hid (∀ (i : Nat) (hi : i < M.length), ∃ hk : i < K.length, K[i].t = M[i].y.t) := fun i hi => by
    have hk : i < K.length := by omega
    refine ⟨hk, ?_⟩
    have e1 := tys_at K i hk
    have e2 : (tys K)[i]'(by rw [tys_len]; exact hk) = (M.map fun k => k.y.t)[i]'(by rw [List.length_map]; exact hi) := by simp only [hK]
    rw [← e1, e2, List.getElem_map]
  have HKl : Hid (K.length = M.length) := hKl
  have HKI : Hid (∀ W, Below w2.heap.size w2 W → IsTys W (.slice al M.length cl) K) := fun W hb => hKI.below hb
  clear hb hK hKI HAl C1
  have dq : decide ((M.length : Int) = (M.length : Int)) = true := decide_eq_true rfl
  have dq2 : decide ((CW : Int) = (CW : Int)) = true := decide_eq_true rfl
  go_wp2_with fail
  refine wp_region_quiet (C := fun w' => Below w2.heap.size w2 w') (by kernel_rfl) (by kernel_rfl) ((Below.refl _ _).drew) ?_
  dsimp only
  repeat (first
    | go_big_quiet_skip
    | (go_big_quiet_want
       apply Exists.intro
       refine ⟨fun W' hW' => ?_, ?_⟩
       · have hw : Below w2.heap.size w2 W' := hW'
         have cp := HCp.out W' (Bp2.out.trans (hw.mono Bp2.out.size))
         go_simp
         first
           | done
           | rfl
           | (go_at_call 26; (with_reducible refine Calls.mono (HWs.out W' (B2.out.trans (hw.mono B2.out.size))) ?_); rintro e w'' ⟨rfl, hb⟩; exact ⟨rfl, hw.trans (hb.mono hw.size)⟩)
           | (go_at_call 27; (with_reducible refine Calls.mono (HWr.out W' (B2.out.trans (hw.mono B2.out.size))) ?_); rintro e w'' ⟨rfl, hb⟩; exact ⟨rfl, hw.trans (hb.mono hw.size)⟩)
       go_big_quiet_on
       try simp only [Act.put, List.setIfInBounds_toArray, List.set_cons_zero, List.set_cons_succ]))
  refine wpQuiet_nil ?_
  intro w3 hq
  have B3 : Hid (Below w2.heap.size w2 w3) := hq
  clear hq HWs HWr dq dq2
  go_wp2_with fail
  go_loopw [6] (fun i wr => ∃ j : Nat, j ≤ M.length ∧ i = .int .i64 (j : Int) ∧ Hid (Below w2.heap.size w2 wr)) (fun i _ => M.length - (intOf i).toNat)
  case atStart => exact ⟨0, by omega, rfl, B3.out⟩
  case round =>
    obtain ⟨i, hi, rfl, HB⟩ := hrel
    clear B3
    have HBw : Hid (Below w.heap.size w wr) := B2.out.trans (HB.out.mono B2.out.size)
    by_cases hlk : i < M.length
    rotate_left
    · have dj : decide ((i : Int) < (M.length : Int)) = false := by simp; omega
      clear HFd HRf HSm HS10 HM HKs HCk HCp HKt HKI Bp2 HKl
      go_wp2
      go_ret
      exact ⟨rfl, HBw.out⟩
    have dj : decide ((i : Int) < (M.length : Int)) = true := by simp; omega
    have q1 : (0 : Int) ≤ (i : Int) := by omega
    have q2 : (i : Int) < (M.length : Int) := by omega
    have HR1 : Hid (i + 1 ≤ M.length) := hlk
    obtain ⟨b0, o0, rfl, hcs⟩ := HCk.out i hlk
    have HC1 : Hid (∀ W, Below w.heap.size w W → C10 b0 (o0 + i * 10) M[i] W) := hcs i hlk
    obtain ⟨hk, hkt⟩ := HKt.out i hlk
    obtain ⟨b1, o1, rfl, hlt1, -, -, hkc⟩ := t_at (L := K) (by have := (HKI.out w2 (Below.refl _ _)).1; rw [HKl.out] at this ⊢; exact this : IsRow w2 8 (.slice al K.length cl) K.length (tCells K)) (by omega)
    have HC2 : Hid (∀ W, Below w2.heap.size w2 W → C8 b1 (o1 + i * 8) K[i] W) := fun W hb => by
      obtain ⟨⟨r0, r1, r2, r3⟩, r4, r5, r6, r7⟩ := hkc i hk
      exact ⟨(hb.cell (p := ⟨b1, _, none⟩) hlt1).trans r0, (hb.cell (p := ⟨b1, _, none⟩) hlt1).trans r1, (hb.cell (p := ⟨b1, _, none⟩) hlt1).trans r2, (hb.cell (p := ⟨b1, _, none⟩) hlt1).trans r3, (hb.cell (p := ⟨b1, _, none⟩) hlt1).trans r4, (hb.cell (p := ⟨b1, _, none⟩) hlt1).trans r5, (hb.cell (p := ⟨b1, _, none⟩) hlt1).trans r6, (hb.cell (p := ⟨b1, _, none⟩) hlt1).trans r7⟩
    have HT1 : Hid (∀ W, Below w2.heap.size w2 W → IsTy W K[i].t K[i].vo K[i].va K[i].vc) := fun W hb => (HKI.out W hb).2 _ (List.getElem_mem hk)
    have HT2 : Hid (∀ W, Below w.heap.size w W → IsTy W M[i].y.t M[i].y.vo M[i].y.va M[i].y.vc ∧ IsRow W 1 M[i].vw M[i].l.length (iCells M[i].l)) := fun W hb => (HKs.out W hb).2 _ (List.getElem_mem hlk)
    have HMi : Hid (SmT M[i].y.t ∧ M[i].l.length ≤ 1000) := HM.out i hlk
    have HFi : Hid (∀ W, Below w.heap.size w W → Calls Tryz.prog 9 #[stP s, .string M[i].y.t.n] W fun e w' => ∃ (y : LT) (aw : Option Addr) (cw : Nat), e = .returned (.tuple #[.agg #[.string y.t.n, .string y.t.p, y.vo, y.va, y.vc, .int .i64 y.t.nd, .int .i64 y.t.lf, .int .i64 y.t.sq, .bool M[i].s, .slice aw M[i].l.length cw], .bool true]) ∧ y.t = M[i].y.t ∧ IsTy w' y.t y.vo y.va y.vc ∧ IsRow w' 1 (.slice aw M[i].l.length cw) M[i].l.length (iCells M[i].l) ∧ Below W.heap.size W w') := HFd.out i hlk
    have HKe : Hid (K[i].t = M[i].y.t) := hkt
    clear HFd HM HKs HCk HKt HKI hcs hkc hkt
    rw [← HKe.out] at HFi
    generalize K[i]'hk = x at *
    generalize M[i]'hlk = y at *
    obtain ⟨g0, -⟩ := HC2.out wr HB.out
    go_wp2_with fail
    clear g0
    refine (HFi.out _ HBw.out).mono ?_
    rintro e w4 ⟨z, aw, cw, rfl, hzt, hzI, hzw, hb⟩
    have B4 : Hid (Below wr.heap.size wr w4) := hb
    have B24 : Hid (Below w2.heap.size w2 w4) := HB.out.trans (hb.mono HB.out.size)
    obtain ⟨w5, hw5⟩ : ∃ w5, w5 = w4.alloc (.cells #[.string z.t.n, .string z.t.p, z.vo, z.va, z.vc, .int .i64 z.t.nd, .int .i64 z.t.lf, .int .i64 z.t.sq, .bool y.s, .slice aw y.l.length cw] 43) := ⟨_, rfl⟩
    have hb5 : Below w4.heap.size w4 w5 := by rw [hw5]; exact al_b _ _
    have hn5 : w5.heap[w4.heap.size]? = some (.cells #[.string z.t.n, .string z.t.p, z.vo, z.va, z.vc, .int .i64 z.t.nd, .int .i64 z.t.lf, .int .i64 z.t.sq, .bool y.s, .slice aw y.l.length cw] 43 (0, 0)) := by rw [hw5]; exact new_at _ _
    have B25 : Hid (Below w2.heap.size w2 w5) := B24.out.trans (hb5.mono B24.out.size)
    have HC3 : Hid (∀ W, Below w5.heap.size w5 W → CF w4.heap.size z y.s (.slice aw y.l.length cw) W) := fun W h => by
      have h5 := (h.block _ (Array.getElem?_eq_some_iff.1 hn5).1).trans hn5
      have c : ∀ j, W.cell? ⟨w4.heap.size, j, none⟩ = (#[.string z.t.n, .string z.t.p, z.vo, z.va, z.vc, .int .i64 z.t.nd, .int .i64 z.t.lf, .int .i64 z.t.sq, .bool y.s, .slice aw y.l.length cw] : Array Value)[j]? := fun j => by rw [Lib.cell_of_heap h5]
      exact ⟨c 0, c 1, c 2, c 3, c 4, c 5, c 6, c 7, c 8, c 9⟩
    have HT3 : Hid (∀ W, Below w5.heap.size w5 W → IsTy W z.t z.vo z.va z.vc ∧ IsRow W 1 (.slice aw y.l.length cw) y.l.length (iCells y.l)) := fun W h => ⟨(hzI.below hb5).below h, (hzw.below hb5).below h⟩
    have HZe : Hid (z.t = y.y.t) := hzt.trans HKe.out
    have HB5w : Hid (∀ W, Below w5.heap.size w5 W → Below w.heap.size w W) := fun W h => B2.out.trans ((B25.out.trans (h.mono B25.out.size)).mono B2.out.size)
    have HS : Hid (∀ W, Below w5.heap.size w5 W → (W.cell? ⟨w.heap.size, 0, none⟩ = some (.slice (some ⟨b0, o0, none⟩) M.length c0) ∧ C8 b1 (o1 + i * 8) x W ∧ C10 b0 (o0 + i * 10) y W ∧ CF w4.heap.size z y.s (.slice aw y.l.length cw) W)) := fun W h => ⟨HCp.out W (Bp2.out.trans ((B25.out.trans (h.mono B25.out.size)).mono Bp2.out.size)), HC2.out W (B25.out.trans (h.mono B25.out.size)), HC1.out W (HB5w.out W h), HC3.out W h⟩
    have HRE : Hid (Below w2.heap.size w2 w5) := B25.out
    clear hb hb5 hn5 hzt hzI hzw HFi B4 B24 HB HBw
    go_wp2_with fail
    rw [← hw5]
    clear hw5
    have HDk : Hid (Below w5.heap.size w5 w5.drew) := (Below.refl _ _).drew
    go_wp2_with fail
    refine wp_region_held_drew (S := fun W => W.cell? ⟨w.heap.size, 0, none⟩ = some (.slice (some ⟨b0, o0, none⟩) M.length c0) ∧ C8 b1 (o1 + i * 8) x W ∧ C10 b0 (o0 + i * 10) y W ∧ CF w4.heap.size z y.s (.slice aw y.l.length cw) W) (by kernel_rfl) (HS.out _ HDk.out) (fun hHeld => ?_)
    generalize w5.drew = wd at *
    refine wpAnyH_take (i := 0) (v := ?_) rfl (by kernel_rfl) (by kernel_rfl) (by kernel_rfl) (fun _ _ _ h => h) (Or.inl ⟨by rfl, ?_⟩) hHeld ?_
    rotate_left 1
    · intro w9 hSw; obtain ⟨s0, ⟨g0, g1, g2, g3, g4, g5, g6, g7⟩, ⟨⟨h0, h1, h2, h3, h4, h5, h6, h7⟩, h8, h9⟩, ⟨k0, k1, k2, k3, k4, k5, k6, k7, k8, k9⟩⟩ := hSw; go_simp; try with_reducible rfl
    change wpAnyH _ _ _ _ _ _ _ (Act.put _ (some 40) _) _
    simp only [Act.put, List.setIfInBounds_toArray, List.set_cons_zero, List.set_cons_succ]
    refine wpAnyH_take (i := 1) (v := ?_) rfl (by kernel_rfl) (by kernel_rfl) (by kernel_rfl) (fun _ _ _ h => h) (Or.inl ⟨by rfl, ?_⟩) hHeld ?_
    rotate_left 1
    · intro w9 hSw; obtain ⟨s0, ⟨g0, g1, g2, g3, g4, g5, g6, g7⟩, ⟨⟨h0, h1, h2, h3, h4, h5, h6, h7⟩, h8, h9⟩, ⟨k0, k1, k2, k3, k4, k5, k6, k7, k8, k9⟩⟩ := hSw; go_simp; try with_reducible rfl
    change wpAnyH _ _ _ _ _ _ _ (Act.put _ (some 41) _) _
    simp only [Act.put, List.setIfInBounds_toArray, List.set_cons_zero, List.set_cons_succ]
    refine wpAnyH_take (i := 2) (v := ?_) rfl (by kernel_rfl) (by kernel_rfl) (by kernel_rfl) (fun _ _ _ h => h) (Or.inl ⟨by rfl, ?_⟩) hHeld ?_
    rotate_left 1
    · intro w9 hSw; obtain ⟨s0, ⟨g0, g1, g2, g3, g4, g5, g6, g7⟩, ⟨⟨h0, h1, h2, h3, h4, h5, h6, h7⟩, h8, h9⟩, ⟨k0, k1, k2, k3, k4, k5, k6, k7, k8, k9⟩⟩ := hSw; go_simp; try with_reducible rfl
    change wpAnyH _ _ _ _ _ _ _ (Act.put _ (some 42) _) _
    simp only [Act.put, List.setIfInBounds_toArray, List.set_cons_zero, List.set_cons_succ]
    refine wpAnyH_take (i := 3) (v := ?_) rfl (by kernel_rfl) (by kernel_rfl) (by kernel_rfl) (fun _ _ _ h => h) (Or.inl ⟨by rfl, ?_⟩) hHeld ?_
    rotate_left 1
    · intro w9 hSw; obtain ⟨s0, ⟨g0, g1, g2, g3, g4, g5, g6, g7⟩, ⟨⟨h0, h1, h2, h3, h4, h5, h6, h7⟩, h8, h9⟩, ⟨k0, k1, k2, k3, k4, k5, k6, k7, k8, k9⟩⟩ := hSw; go_simp; try with_reducible rfl
    change wpAnyH _ _ _ _ _ _ _ (Act.put _ (some 43) _) _
    simp only [Act.put, List.setIfInBounds_toArray, List.set_cons_zero, List.set_cons_succ]
    refine wpAnyH_take (i := 4) (v := ?_) rfl (by kernel_rfl) (by kernel_rfl) (by kernel_rfl) (fun _ _ _ h => h) (Or.inl ⟨by rfl, ?_⟩) hHeld ?_
    rotate_left 1
    · intro w9 hSw; obtain ⟨s0, ⟨g0, g1, g2, g3, g4, g5, g6, g7⟩, ⟨⟨h0, h1, h2, h3, h4, h5, h6, h7⟩, h8, h9⟩, ⟨k0, k1, k2, k3, k4, k5, k6, k7, k8, k9⟩⟩ := hSw; go_simp; try with_reducible rfl
    change wpAnyH _ _ _ _ _ _ _ (Act.put _ (some 44) _) _
    simp only [Act.put, List.setIfInBounds_toArray, List.set_cons_zero, List.set_cons_succ]
    refine wpAnyH_take (i := 5) (v := ?_) rfl (by kernel_rfl) (by kernel_rfl) (by kernel_rfl) (fun _ _ _ h => h) (Or.inl ⟨by rfl, ?_⟩) hHeld ?_
    rotate_left 1
    · intro w9 hSw; obtain ⟨s0, ⟨g0, g1, g2, g3, g4, g5, g6, g7⟩, ⟨⟨h0, h1, h2, h3, h4, h5, h6, h7⟩, h8, h9⟩, ⟨k0, k1, k2, k3, k4, k5, k6, k7, k8, k9⟩⟩ := hSw; go_simp; try with_reducible rfl
    change wpAnyH _ _ _ _ _ _ _ (Act.put _ (some 45) _) _
    simp only [Act.put, List.setIfInBounds_toArray, List.set_cons_zero, List.set_cons_succ]
    refine wpAnyH_take (i := 6) (v := ?_) rfl (by kernel_rfl) (by kernel_rfl) (by kernel_rfl) (fun _ _ _ h => h) (Or.inl ⟨by rfl, ?_⟩) hHeld ?_
    rotate_left 1
    · intro w9 hSw; obtain ⟨s0, ⟨g0, g1, g2, g3, g4, g5, g6, g7⟩, ⟨⟨h0, h1, h2, h3, h4, h5, h6, h7⟩, h8, h9⟩, ⟨k0, k1, k2, k3, k4, k5, k6, k7, k8, k9⟩⟩ := hSw; go_simp; try with_reducible rfl
    change wpAnyH _ _ _ _ _ _ _ (Act.put _ (some 46) _) _
    simp only [Act.put, List.setIfInBounds_toArray, List.set_cons_zero, List.set_cons_succ]
    refine wpAnyH_take (i := 8) (v := ?_) rfl (by kernel_rfl) (by kernel_rfl) (by kernel_rfl) (fun _ _ _ h => h) (Or.inl ⟨by rfl, ?_⟩) hHeld ?_
    rotate_left 1
    · intro w9 hSw; obtain ⟨s0, ⟨g0, g1, g2, g3, g4, g5, g6, g7⟩, ⟨⟨h0, h1, h2, h3, h4, h5, h6, h7⟩, h8, h9⟩, ⟨k0, k1, k2, k3, k4, k5, k6, k7, k8, k9⟩⟩ := hSw; go_simp; try with_reducible rfl
    change wpAnyH _ _ _ _ _ _ _ (Act.put _ (some 48) _) _
    simp only [Act.put, List.setIfInBounds_toArray, List.set_cons_zero, List.set_cons_succ]
    refine wpAnyH_take (i := 9) (v := ?_) rfl (by kernel_rfl) (by kernel_rfl) (by kernel_rfl) (fun _ _ _ h => h) (Or.inl ⟨by rfl, ?_⟩) hHeld ?_
    rotate_left 1
    · intro w9 hSw; obtain ⟨s0, ⟨g0, g1, g2, g3, g4, g5, g6, g7⟩, ⟨⟨h0, h1, h2, h3, h4, h5, h6, h7⟩, h8, h9⟩, ⟨k0, k1, k2, k3, k4, k5, k6, k7, k8, k9⟩⟩ := hSw; go_simp; try with_reducible rfl
    change wpAnyH _ _ _ _ _ _ _ (Act.put _ (some 49) _) _
    simp only [Act.put, List.setIfInBounds_toArray, List.set_cons_zero, List.set_cons_succ]
    refine wpAnyH_take (i := 10) (v := ?_) rfl (by kernel_rfl) (by kernel_rfl) (by kernel_rfl) (fun _ _ _ h => h) (Or.inl ⟨by rfl, ?_⟩) hHeld ?_
    rotate_left 1
    · intro w9 hSw; obtain ⟨s0, ⟨g0, g1, g2, g3, g4, g5, g6, g7⟩, ⟨⟨h0, h1, h2, h3, h4, h5, h6, h7⟩, h8, h9⟩, ⟨k0, k1, k2, k3, k4, k5, k6, k7, k8, k9⟩⟩ := hSw; go_simp; try with_reducible rfl
    change wpAnyH _ _ _ _ _ _ _ (Act.put _ (some 50) _) _
    simp only [Act.put, List.setIfInBounds_toArray, List.set_cons_zero, List.set_cons_succ]
    refine wpAnyH_take (i := 11) (v := ?_) rfl (by kernel_rfl) (by kernel_rfl) (by kernel_rfl) (fun _ _ _ h => h) (Or.inl ⟨by rfl, ?_⟩) hHeld ?_
    rotate_left 1
    · intro w9 hSw; obtain ⟨s0, ⟨g0, g1, g2, g3, g4, g5, g6, g7⟩, ⟨⟨h0, h1, h2, h3, h4, h5, h6, h7⟩, h8, h9⟩, ⟨k0, k1, k2, k3, k4, k5, k6, k7, k8, k9⟩⟩ := hSw; go_simp; try with_reducible rfl
    change wpAnyH _ _ _ _ _ _ _ (Act.put _ (some 51) _) _
    simp only [Act.put, List.setIfInBounds_toArray, List.set_cons_zero, List.set_cons_succ]
    refine wpAnyH_take (i := 12) (v := ?_) rfl (by kernel_rfl) (by kernel_rfl) (by kernel_rfl) (fun _ _ _ h => h) (Or.inl ⟨by rfl, ?_⟩) hHeld ?_
    rotate_left 1
    · intro w9 hSw; obtain ⟨s0, ⟨g0, g1, g2, g3, g4, g5, g6, g7⟩, ⟨⟨h0, h1, h2, h3, h4, h5, h6, h7⟩, h8, h9⟩, ⟨k0, k1, k2, k3, k4, k5, k6, k7, k8, k9⟩⟩ := hSw; go_simp; try with_reducible rfl
    change wpAnyH _ _ _ _ _ _ _ (Act.put _ (some 52) _) _
    simp only [Act.put, List.setIfInBounds_toArray, List.set_cons_zero, List.set_cons_succ]
    refine wpAnyH_take (i := 13) (v := ?_) rfl (by kernel_rfl) (by kernel_rfl) (by kernel_rfl) (fun _ _ _ h => h) (Or.inl ⟨by rfl, ?_⟩) hHeld ?_
    rotate_left 1
    · intro w9 hSw; obtain ⟨s0, ⟨g0, g1, g2, g3, g4, g5, g6, g7⟩, ⟨⟨h0, h1, h2, h3, h4, h5, h6, h7⟩, h8, h9⟩, ⟨k0, k1, k2, k3, k4, k5, k6, k7, k8, k9⟩⟩ := hSw; go_simp; try with_reducible rfl
    change wpAnyH _ _ _ _ _ _ _ (Act.put _ (some 53) _) _
    simp only [Act.put, List.setIfInBounds_toArray, List.set_cons_zero, List.set_cons_succ]
    refine wpAnyH_ready (rs := [7]) (by kernel_rfl) (by simp) ?_
    refine AllReadyH.cons rfl (fun K9 hK => ?_) AllReadyH.nil
    go_simp
    refine (HRf.out x _ (HT1.out _ (HRE.out.trans (HDk.out.mono HRE.out.size))) (by rw [HKe.out]; exact HMi.out.1)).mono ?_
    rintro e v1 ⟨x1, rfl, hx1, hxI, hb⟩
    have Dv1 : Hid (Below w5.heap.size w5 v1) := HDk.out.trans (hb.mono HDk.out.size)
    have HX1 : Hid (x1.t = y.y.t ∧ ∀ W, Below v1.heap.size v1 W → IsTy W x1.t x1.vo x1.va x1.vc) := ⟨hx1.trans HKe.out, fun W h => hxI.below h⟩
    clear hb hx1 hxI
    go_simp
    refine hK.out _ _ (HS.out _ Dv1.out) (fun hHeld => ?_)
    clear hK K9
    refine wpAnyH_ready (rs := [14]) (by kernel_rfl) (by simp) ?_
    refine AllReadyH.cons rfl (fun K9 hK => ?_) AllReadyH.nil
    go_simp
    refine (HSm.out x1 y.y _ HX1.out.1.symm (HX1.out.2 _ (Below.refl _ _)) (HT2.out _ (HB5w.out _ Dv1.out)).1 (by rw [HX1.out.1]; exact HMi.out.1)).mono ?_
    rintro e v2 ⟨rfl, hb⟩
    have Dv2 : Hid (Below w5.heap.size w5 v2) := Dv1.out.trans (hb.mono Dv1.out.size)
    clear hb HX1
    go_simp
    refine hK.out _ _ (HS.out _ Dv2.out) (fun hHeld => ?_)
    clear hK K9
    refine wpAnyH_take (i := 15) (v := ?_) rfl (by kernel_rfl) (by kernel_rfl) (by kernel_rfl) (fun _ _ _ h => h) (Or.inl ⟨by rfl, ?_⟩) hHeld ?_
    rotate_left 1
    · intro w9 hSw; obtain ⟨s0, ⟨g0, g1, g2, g3, g4, g5, g6, g7⟩, ⟨⟨h0, h1, h2, h3, h4, h5, h6, h7⟩, h8, h9⟩, ⟨k0, k1, k2, k3, k4, k5, k6, k7, k8, k9⟩⟩ := hSw; go_simp; try with_reducible rfl
    change wpAnyH _ _ _ _ _ _ _ (Act.put _ (some 55) _) _
    simp only [Act.put, List.setIfInBounds_toArray, List.set_cons_zero, List.set_cons_succ]
    refine wpAnyH_take (i := 16) (v := ?_) rfl (by kernel_rfl) (by kernel_rfl) (by kernel_rfl) (fun _ _ _ h => h) (Or.inl ⟨by rfl, ?_⟩) hHeld ?_
    rotate_left 1
    · intro w9 hSw; obtain ⟨s0, ⟨g0, g1, g2, g3, g4, g5, g6, g7⟩, ⟨⟨h0, h1, h2, h3, h4, h5, h6, h7⟩, h8, h9⟩, ⟨k0, k1, k2, k3, k4, k5, k6, k7, k8, k9⟩⟩ := hSw; go_simp; try with_reducible rfl
    change wpAnyH _ _ _ _ _ _ _ (Act.put _ (some 56) _) _
    simp only [Act.put, List.setIfInBounds_toArray, List.set_cons_zero, List.set_cons_succ]
    refine wpAnyH_take (i := 17) (v := ?_) rfl (by kernel_rfl) (by kernel_rfl) (by kernel_rfl) (fun _ _ _ h => h) (Or.inl ⟨by rfl, ?_⟩) hHeld ?_
    rotate_left 1
    · intro w9 hSw; obtain ⟨s0, ⟨g0, g1, g2, g3, g4, g5, g6, g7⟩, ⟨⟨h0, h1, h2, h3, h4, h5, h6, h7⟩, h8, h9⟩, ⟨k0, k1, k2, k3, k4, k5, k6, k7, k8, k9⟩⟩ := hSw; go_simp; try with_reducible rfl
    change wpAnyH _ _ _ _ _ _ _ (Act.put _ (some 57) _) _
    simp only [Act.put, List.setIfInBounds_toArray, List.set_cons_zero, List.set_cons_succ]
    refine wpAnyH_take (i := 18) (v := ?_) rfl (by kernel_rfl) (by kernel_rfl) (by kernel_rfl) (fun _ _ _ h => h) (Or.inl ⟨by rfl, ?_⟩) hHeld ?_
    rotate_left 1
    · intro w9 hSw; obtain ⟨s0, ⟨g0, g1, g2, g3, g4, g5, g6, g7⟩, ⟨⟨h0, h1, h2, h3, h4, h5, h6, h7⟩, h8, h9⟩, ⟨k0, k1, k2, k3, k4, k5, k6, k7, k8, k9⟩⟩ := hSw; go_simp; try with_reducible rfl
    change wpAnyH _ _ _ _ _ _ _ (Act.put _ (some 58) _) _
    simp only [Act.put, List.setIfInBounds_toArray, List.set_cons_zero, List.set_cons_succ]
    refine wpAnyH_take (i := 19) (v := ?_) rfl (by kernel_rfl) (by kernel_rfl) (by kernel_rfl) (fun _ _ _ h => h) (Or.inl ⟨by rfl, ?_⟩) hHeld ?_
    rotate_left 1
    · intro w9 hSw; obtain ⟨s0, ⟨g0, g1, g2, g3, g4, g5, g6, g7⟩, ⟨⟨h0, h1, h2, h3, h4, h5, h6, h7⟩, h8, h9⟩, ⟨k0, k1, k2, k3, k4, k5, k6, k7, k8, k9⟩⟩ := hSw; go_simp; try with_reducible rfl
    change wpAnyH _ _ _ _ _ _ _ (Act.put _ (some 59) _) _
    simp only [Act.put, List.setIfInBounds_toArray, List.set_cons_zero, List.set_cons_succ]
    refine wpAnyH_take (i := 21) (v := ?_) rfl (by kernel_rfl) (by kernel_rfl) (by kernel_rfl) (fun _ _ _ h => h) (Or.inl ⟨by rfl, ?_⟩) hHeld ?_
    rotate_left 1
    · intro w9 hSw; obtain ⟨s0, ⟨g0, g1, g2, g3, g4, g5, g6, g7⟩, ⟨⟨h0, h1, h2, h3, h4, h5, h6, h7⟩, h8, h9⟩, ⟨k0, k1, k2, k3, k4, k5, k6, k7, k8, k9⟩⟩ := hSw; go_simp; try with_reducible rfl
    change wpAnyH _ _ _ _ _ _ _ (Act.put _ (some 61) _) _
    simp only [Act.put, List.setIfInBounds_toArray, List.set_cons_zero, List.set_cons_succ]
    refine wpAnyH_take (i := 22) (v := ?_) rfl (by kernel_rfl) (by kernel_rfl) (by kernel_rfl) (fun _ _ _ h => h) (Or.inl ⟨by rfl, ?_⟩) hHeld ?_
    rotate_left 1
    · intro w9 hSw; obtain ⟨s0, ⟨g0, g1, g2, g3, g4, g5, g6, g7⟩, ⟨⟨h0, h1, h2, h3, h4, h5, h6, h7⟩, h8, h9⟩, ⟨k0, k1, k2, k3, k4, k5, k6, k7, k8, k9⟩⟩ := hSw; go_simp; try with_reducible rfl
    change wpAnyH _ _ _ _ _ _ _ (Act.put _ (some 62) _) _
    simp only [Act.put, List.setIfInBounds_toArray, List.set_cons_zero, List.set_cons_succ]
    refine wpAnyH_take (i := 23) (v := ?_) rfl (by kernel_rfl) (by kernel_rfl) (by kernel_rfl) (fun _ _ _ h => h) (Or.inl ⟨by rfl, ?_⟩) hHeld ?_
    rotate_left 1
    · intro w9 hSw; obtain ⟨s0, ⟨g0, g1, g2, g3, g4, g5, g6, g7⟩, ⟨⟨h0, h1, h2, h3, h4, h5, h6, h7⟩, h8, h9⟩, ⟨k0, k1, k2, k3, k4, k5, k6, k7, k8, k9⟩⟩ := hSw; go_simp; try with_reducible rfl
    change wpAnyH _ _ _ _ _ _ _ (Act.put _ (some 63) _) _
    simp only [Act.put, List.setIfInBounds_toArray, List.set_cons_zero, List.set_cons_succ]
    refine wpAnyH_take (i := 24) (v := ?_) rfl (by kernel_rfl) (by kernel_rfl) (by kernel_rfl) (fun _ _ _ h => h) (Or.inl ⟨by rfl, ?_⟩) hHeld ?_
    rotate_left 1
    · intro w9 hSw; obtain ⟨s0, ⟨g0, g1, g2, g3, g4, g5, g6, g7⟩, ⟨⟨h0, h1, h2, h3, h4, h5, h6, h7⟩, h8, h9⟩, ⟨k0, k1, k2, k3, k4, k5, k6, k7, k8, k9⟩⟩ := hSw; go_simp; try with_reducible rfl
    change wpAnyH _ _ _ _ _ _ _ (Act.put _ (some 64) _) _
    simp only [Act.put, List.setIfInBounds_toArray, List.set_cons_zero, List.set_cons_succ]
    refine wpAnyH_take (i := 25) (v := ?_) rfl (by kernel_rfl) (by kernel_rfl) (by kernel_rfl) (fun _ _ _ h => h) (Or.inl ⟨by rfl, ?_⟩) hHeld ?_
    rotate_left 1
    · intro w9 hSw; obtain ⟨s0, ⟨g0, g1, g2, g3, g4, g5, g6, g7⟩, ⟨⟨h0, h1, h2, h3, h4, h5, h6, h7⟩, h8, h9⟩, ⟨k0, k1, k2, k3, k4, k5, k6, k7, k8, k9⟩⟩ := hSw; go_simp; try with_reducible rfl
    change wpAnyH _ _ _ _ _ _ _ (Act.put _ (some 65) _) _
    simp only [Act.put, List.setIfInBounds_toArray, List.set_cons_zero, List.set_cons_succ]
    refine wpAnyH_take (i := 26) (v := ?_) rfl (by kernel_rfl) (by kernel_rfl) (by kernel_rfl) (fun _ _ _ h => h) (Or.inl ⟨by rfl, ?_⟩) hHeld ?_
    rotate_left 1
    · intro w9 hSw; obtain ⟨s0, ⟨g0, g1, g2, g3, g4, g5, g6, g7⟩, ⟨⟨h0, h1, h2, h3, h4, h5, h6, h7⟩, h8, h9⟩, ⟨k0, k1, k2, k3, k4, k5, k6, k7, k8, k9⟩⟩ := hSw; go_simp; try with_reducible rfl
    change wpAnyH _ _ _ _ _ _ _ (Act.put _ (some 66) _) _
    simp only [Act.put, List.setIfInBounds_toArray, List.set_cons_zero, List.set_cons_succ]
    refine wpAnyH_ready (rs := [20]) (by kernel_rfl) (by simp) ?_
    refine AllReadyH.cons rfl (fun K9 hK => ?_) AllReadyH.nil
    go_simp
    refine (HRf.out z _ (HT3.out _ Dv2.out).1 (by rw [HZe.out]; exact HMi.out.1)).mono ?_
    rintro e v3 ⟨x2, rfl, hx2, hxI, hb⟩
    have Dv3 : Hid (Below w5.heap.size w5 v3) := Dv2.out.trans (hb.mono Dv2.out.size)
    have HX2 : Hid (x2.t = y.y.t ∧ ∀ W, Below v3.heap.size v3 W → IsTy W x2.t x2.vo x2.va x2.vc) := ⟨hx2.trans HZe.out, fun W h => hxI.below h⟩
    clear hb hx2 hxI
    go_simp
    refine hK.out _ _ (HS.out _ Dv3.out) (fun hHeld => ?_)
    clear hK K9
    refine wpAnyH_ready (rs := [27]) (by kernel_rfl) (by simp) ?_
    refine AllReadyH.cons rfl (fun K9 hK => ?_) AllReadyH.nil
    go_simp
    refine (HSm.out x2 y.y _ HX2.out.1.symm (HX2.out.2 _ (Below.refl _ _)) (HT2.out _ (HB5w.out _ Dv3.out)).1 (by rw [HX2.out.1]; exact HMi.out.1)).mono ?_
    rintro e v4 ⟨rfl, hb⟩
    have Dv4 : Hid (Below w5.heap.size w5 v4) := Dv3.out.trans (hb.mono Dv3.out.size)
    clear hb HX2
    go_simp
    refine hK.out _ _ (HS.out _ Dv4.out) (fun hHeld => ?_)
    clear hK K9
    refine wpAnyH_take (i := 28) (v := ?_) rfl (by kernel_rfl) (by kernel_rfl) (by kernel_rfl) (fun _ _ _ h => h) (Or.inl ⟨by rfl, ?_⟩) hHeld ?_
    rotate_left 1
    · intro w9 hSw; obtain ⟨s0, ⟨g0, g1, g2, g3, g4, g5, g6, g7⟩, ⟨⟨h0, h1, h2, h3, h4, h5, h6, h7⟩, h8, h9⟩, ⟨k0, k1, k2, k3, k4, k5, k6, k7, k8, k9⟩⟩ := hSw; go_simp; try with_reducible rfl
    change wpAnyH _ _ _ _ _ _ _ (Act.put _ (some 68) _) _
    simp only [Act.put, List.setIfInBounds_toArray, List.set_cons_zero, List.set_cons_succ]
    refine wpAnyH_take (i := 29) (v := ?_) rfl (by kernel_rfl) (by kernel_rfl) (by kernel_rfl) (fun _ _ _ h => h) (Or.inl ⟨by rfl, ?_⟩) hHeld ?_
    rotate_left 1
    · intro w9 hSw; obtain ⟨s0, ⟨g0, g1, g2, g3, g4, g5, g6, g7⟩, ⟨⟨h0, h1, h2, h3, h4, h5, h6, h7⟩, h8, h9⟩, ⟨k0, k1, k2, k3, k4, k5, k6, k7, k8, k9⟩⟩ := hSw; go_simp; try with_reducible rfl
    change wpAnyH _ _ _ _ _ _ _ (Act.put _ (some 69) _) _
    simp only [Act.put, List.setIfInBounds_toArray, List.set_cons_zero, List.set_cons_succ]
    refine wpAnyH_take (i := 30) (v := ?_) rfl (by kernel_rfl) (by kernel_rfl) (by kernel_rfl) (fun _ _ _ h => h) (Or.inl ⟨by rfl, ?_⟩) hHeld ?_
    rotate_left 1
    · intro w9 hSw; obtain ⟨s0, ⟨g0, g1, g2, g3, g4, g5, g6, g7⟩, ⟨⟨h0, h1, h2, h3, h4, h5, h6, h7⟩, h8, h9⟩, ⟨k0, k1, k2, k3, k4, k5, k6, k7, k8, k9⟩⟩ := hSw; go_simp; try with_reducible rfl
    change wpAnyH _ _ _ _ _ _ _ (Act.put _ (some 70) _) _
    simp only [Act.put, List.setIfInBounds_toArray, List.set_cons_zero, List.set_cons_succ]
    refine wpAnyH_take (i := 31) (v := ?_) rfl (by kernel_rfl) (by kernel_rfl) (by kernel_rfl) (fun _ _ _ h => h) (Or.inl ⟨by rfl, ?_⟩) hHeld ?_
    rotate_left 1
    · intro w9 hSw; obtain ⟨s0, ⟨g0, g1, g2, g3, g4, g5, g6, g7⟩, ⟨⟨h0, h1, h2, h3, h4, h5, h6, h7⟩, h8, h9⟩, ⟨k0, k1, k2, k3, k4, k5, k6, k7, k8, k9⟩⟩ := hSw; go_simp; try with_reducible rfl
    change wpAnyH _ _ _ _ _ _ _ (Act.put _ (some 71) _) _
    simp only [Act.put, List.setIfInBounds_toArray, List.set_cons_zero, List.set_cons_succ]
    refine wpAnyH_take (i := 32) (v := ?_) rfl (by kernel_rfl) (by kernel_rfl) (by kernel_rfl) (fun _ _ _ h => h) (Or.inl ⟨by rfl, ?_⟩) hHeld ?_
    rotate_left 1
    · intro w9 hSw; obtain ⟨s0, ⟨g0, g1, g2, g3, g4, g5, g6, g7⟩, ⟨⟨h0, h1, h2, h3, h4, h5, h6, h7⟩, h8, h9⟩, ⟨k0, k1, k2, k3, k4, k5, k6, k7, k8, k9⟩⟩ := hSw; go_simp; try with_reducible rfl
    change wpAnyH _ _ _ _ _ _ _ (Act.put _ (some 72) _) _
    simp only [Act.put, List.setIfInBounds_toArray, List.set_cons_zero, List.set_cons_succ]
    refine wpAnyH_take (i := 33) (v := ?_) rfl (by kernel_rfl) (by kernel_rfl) (by kernel_rfl) (fun _ _ _ h => h) (Or.inl ⟨by rfl, ?_⟩) hHeld ?_
    rotate_left 1
    · intro w9 hSw; obtain ⟨s0, ⟨g0, g1, g2, g3, g4, g5, g6, g7⟩, ⟨⟨h0, h1, h2, h3, h4, h5, h6, h7⟩, h8, h9⟩, ⟨k0, k1, k2, k3, k4, k5, k6, k7, k8, k9⟩⟩ := hSw; go_simp; try with_reducible rfl
    change wpAnyH _ _ _ _ _ _ _ (Act.put _ (some 73) _) _
    simp only [Act.put, List.setIfInBounds_toArray, List.set_cons_zero, List.set_cons_succ]
    refine wpAnyH_take (i := 34) (v := ?_) rfl (by kernel_rfl) (by kernel_rfl) (by kernel_rfl) (fun _ _ _ h => h) (Or.inl ⟨by rfl, ?_⟩) hHeld ?_
    rotate_left 1
    · intro w9 hSw; obtain ⟨s0, ⟨g0, g1, g2, g3, g4, g5, g6, g7⟩, ⟨⟨h0, h1, h2, h3, h4, h5, h6, h7⟩, h8, h9⟩, ⟨k0, k1, k2, k3, k4, k5, k6, k7, k8, k9⟩⟩ := hSw; go_simp; try with_reducible rfl
    change wpAnyH _ _ _ _ _ _ _ (Act.put _ (some 74) _) _
    simp only [Act.put, List.setIfInBounds_toArray, List.set_cons_zero, List.set_cons_succ]
    refine wpAnyH_take (i := 35) (v := ?_) rfl (by kernel_rfl) (by kernel_rfl) (by kernel_rfl) (fun _ _ _ h => h) (Or.inl ⟨by rfl, ?_⟩) hHeld ?_
    rotate_left 1
    · intro w9 hSw; obtain ⟨s0, ⟨g0, g1, g2, g3, g4, g5, g6, g7⟩, ⟨⟨h0, h1, h2, h3, h4, h5, h6, h7⟩, h8, h9⟩, ⟨k0, k1, k2, k3, k4, k5, k6, k7, k8, k9⟩⟩ := hSw; go_simp; try with_reducible rfl
    change wpAnyH _ _ _ _ _ _ _ (Act.put _ (some 75) _) _
    simp only [Act.put, List.setIfInBounds_toArray, List.set_cons_zero, List.set_cons_succ]
    refine wpAnyH_take (i := 36) (v := ?_) rfl (by kernel_rfl) (by kernel_rfl) (by kernel_rfl) (fun _ _ _ h => h) (Or.inl ⟨by rfl, ?_⟩) hHeld ?_
    rotate_left 1
    · intro w9 hSw; obtain ⟨s0, ⟨g0, g1, g2, g3, g4, g5, g6, g7⟩, ⟨⟨h0, h1, h2, h3, h4, h5, h6, h7⟩, h8, h9⟩, ⟨k0, k1, k2, k3, k4, k5, k6, k7, k8, k9⟩⟩ := hSw; go_simp; try with_reducible rfl
    change wpAnyH _ _ _ _ _ _ _ (Act.put _ (some 76) _) _
    simp only [Act.put, List.setIfInBounds_toArray, List.set_cons_zero, List.set_cons_succ]
    refine wpAnyH_take (i := 37) (v := ?_) rfl (by kernel_rfl) (by kernel_rfl) (by kernel_rfl) (fun _ _ _ h => h) (Or.inl ⟨by rfl, ?_⟩) hHeld ?_
    rotate_left 1
    · intro w9 hSw; obtain ⟨s0, ⟨g0, g1, g2, g3, g4, g5, g6, g7⟩, ⟨⟨h0, h1, h2, h3, h4, h5, h6, h7⟩, h8, h9⟩, ⟨k0, k1, k2, k3, k4, k5, k6, k7, k8, k9⟩⟩ := hSw; go_simp; try with_reducible rfl
    change wpAnyH _ _ _ _ _ _ _ (Act.put _ (some 77) _) _
    simp only [Act.put, List.setIfInBounds_toArray, List.set_cons_zero, List.set_cons_succ]
    refine wpAnyH_take (i := 38) (v := ?_) rfl (by kernel_rfl) (by kernel_rfl) (by kernel_rfl) (fun _ _ _ h => h) (Or.inl ⟨by rfl, ?_⟩) hHeld ?_
    rotate_left 1
    · intro w9 hSw; obtain ⟨s0, ⟨g0, g1, g2, g3, g4, g5, g6, g7⟩, ⟨⟨h0, h1, h2, h3, h4, h5, h6, h7⟩, h8, h9⟩, ⟨k0, k1, k2, k3, k4, k5, k6, k7, k8, k9⟩⟩ := hSw; go_simp; try with_reducible rfl
    change wpAnyH _ _ _ _ _ _ _ (Act.put _ (some 78) _) _
    simp only [Act.put, List.setIfInBounds_toArray, List.set_cons_zero, List.set_cons_succ]
    have ds : (y.s != y.s) = false := by simp
    refine wpAnyH_take (i := 39) (v := ?_) rfl (by kernel_rfl) (by kernel_rfl) (by kernel_rfl) (fun _ _ _ h => h) (Or.inl ⟨by rfl, ?_⟩) hHeld ?_
    rotate_left 1
    · intro w9 hSw; obtain ⟨s0, ⟨g0, g1, g2, g3, g4, g5, g6, g7⟩, ⟨⟨h0, h1, h2, h3, h4, h5, h6, h7⟩, h8, h9⟩, ⟨k0, k1, k2, k3, k4, k5, k6, k7, k8, k9⟩⟩ := hSw; go_simp; try with_reducible rfl
    change wpAnyH _ _ _ _ _ _ _ (Act.put _ (some 79) _) _
    simp only [Act.put, List.setIfInBounds_toArray, List.set_cons_zero, List.set_cons_succ]
    refine wpAnyH_take (i := 40) (v := ?_) rfl (by kernel_rfl) (by kernel_rfl) (by kernel_rfl) (fun _ _ _ h => h) (Or.inl ⟨by rfl, ?_⟩) hHeld ?_
    rotate_left 1
    · intro w9 hSw; obtain ⟨s0, ⟨g0, g1, g2, g3, g4, g5, g6, g7⟩, ⟨⟨h0, h1, h2, h3, h4, h5, h6, h7⟩, h8, h9⟩, ⟨k0, k1, k2, k3, k4, k5, k6, k7, k8, k9⟩⟩ := hSw; go_simp; try with_reducible rfl
    change wpAnyH _ _ _ _ _ _ _ (Act.put _ (some 80) _) _
    simp only [Act.put, List.setIfInBounds_toArray, List.set_cons_zero, List.set_cons_succ]
    refine wpAnyH_take (i := 41) (v := ?_) rfl (by kernel_rfl) (by kernel_rfl) (by kernel_rfl) (fun _ _ _ h => h) (Or.inl ⟨by rfl, ?_⟩) hHeld ?_
    rotate_left 1
    · intro w9 hSw; obtain ⟨s0, ⟨g0, g1, g2, g3, g4, g5, g6, g7⟩, ⟨⟨h0, h1, h2, h3, h4, h5, h6, h7⟩, h8, h9⟩, ⟨k0, k1, k2, k3, k4, k5, k6, k7, k8, k9⟩⟩ := hSw; go_simp; try with_reducible rfl
    change wpAnyH _ _ _ _ _ _ _ (Act.put _ (some 81) _) _
    simp only [Act.put, List.setIfInBounds_toArray, List.set_cons_zero, List.set_cons_succ]
    refine wpAnyH_take (i := 42) (v := ?_) rfl (by kernel_rfl) (by kernel_rfl) (by kernel_rfl) (fun _ _ _ h => h) (Or.inl ⟨by rfl, ?_⟩) hHeld ?_
    rotate_left 1
    · intro w9 hSw; obtain ⟨s0, ⟨g0, g1, g2, g3, g4, g5, g6, g7⟩, ⟨⟨h0, h1, h2, h3, h4, h5, h6, h7⟩, h8, h9⟩, ⟨k0, k1, k2, k3, k4, k5, k6, k7, k8, k9⟩⟩ := hSw; go_simp; try with_reducible rfl
    change wpAnyH _ _ _ _ _ _ _ (Act.put _ (some 82) _) _
    simp only [Act.put, List.setIfInBounds_toArray, List.set_cons_zero, List.set_cons_succ]
    refine wpAnyH_take (i := 43) (v := ?_) rfl (by kernel_rfl) (by kernel_rfl) (by kernel_rfl) (fun _ _ _ h => h) (Or.inl ⟨by rfl, ?_⟩) hHeld ?_
    rotate_left 1
    · intro w9 hSw; obtain ⟨s0, ⟨g0, g1, g2, g3, g4, g5, g6, g7⟩, ⟨⟨h0, h1, h2, h3, h4, h5, h6, h7⟩, h8, h9⟩, ⟨k0, k1, k2, k3, k4, k5, k6, k7, k8, k9⟩⟩ := hSw; go_simp; try with_reducible rfl
    change wpAnyH _ _ _ _ _ _ _ (Act.put _ (some 83) _) _
    simp only [Act.put, List.setIfInBounds_toArray, List.set_cons_zero, List.set_cons_succ]
    refine wpAnyH_take (i := 44) (v := ?_) rfl (by kernel_rfl) (by kernel_rfl) (by kernel_rfl) (fun _ _ _ h => h) (Or.inl ⟨by rfl, ?_⟩) hHeld ?_
    rotate_left 1
    · intro w9 hSw; obtain ⟨s0, ⟨g0, g1, g2, g3, g4, g5, g6, g7⟩, ⟨⟨h0, h1, h2, h3, h4, h5, h6, h7⟩, h8, h9⟩, ⟨k0, k1, k2, k3, k4, k5, k6, k7, k8, k9⟩⟩ := hSw; go_simp; try with_reducible rfl
    change wpAnyH _ _ _ _ _ _ _ (Act.put _ (some 84) _) _
    simp only [Act.put, List.setIfInBounds_toArray, List.set_cons_zero, List.set_cons_succ]
    refine wpAnyH_take (i := 45) (v := ?_) rfl (by kernel_rfl) (by kernel_rfl) (by kernel_rfl) (fun _ _ _ h => h) (Or.inl ⟨by rfl, ?_⟩) hHeld ?_
    rotate_left 1
    · intro w9 hSw; obtain ⟨s0, ⟨g0, g1, g2, g3, g4, g5, g6, g7⟩, ⟨⟨h0, h1, h2, h3, h4, h5, h6, h7⟩, h8, h9⟩, ⟨k0, k1, k2, k3, k4, k5, k6, k7, k8, k9⟩⟩ := hSw; go_simp; try with_reducible rfl
    change wpAnyH _ _ _ _ _ _ _ (Act.put _ (some 85) _) _
    simp only [Act.put, List.setIfInBounds_toArray, List.set_cons_zero, List.set_cons_succ]
    refine wpAnyH_take (i := 46) (v := ?_) rfl (by kernel_rfl) (by kernel_rfl) (by kernel_rfl) (fun _ _ _ h => h) (Or.inl ⟨by rfl, ?_⟩) hHeld ?_
    rotate_left 1
    · intro w9 hSw; obtain ⟨s0, ⟨g0, g1, g2, g3, g4, g5, g6, g7⟩, ⟨⟨h0, h1, h2, h3, h4, h5, h6, h7⟩, h8, h9⟩, ⟨k0, k1, k2, k3, k4, k5, k6, k7, k8, k9⟩⟩ := hSw; go_simp; try with_reducible rfl
    change wpAnyH _ _ _ _ _ _ _ (Act.put _ (some 86) _) _
    simp only [Act.put, List.setIfInBounds_toArray, List.set_cons_zero, List.set_cons_succ]
    refine wpAnyH_take (i := 47) (v := ?_) rfl (by kernel_rfl) (by kernel_rfl) (by kernel_rfl) (fun _ _ _ h => h) (Or.inl ⟨by rfl, ?_⟩) hHeld ?_
    rotate_left 1
    · intro w9 hSw; obtain ⟨s0, ⟨g0, g1, g2, g3, g4, g5, g6, g7⟩, ⟨⟨h0, h1, h2, h3, h4, h5, h6, h7⟩, h8, h9⟩, ⟨k0, k1, k2, k3, k4, k5, k6, k7, k8, k9⟩⟩ := hSw; go_simp; try with_reducible rfl
    change wpAnyH _ _ _ _ _ _ _ (Act.put _ (some 87) _) _
    simp only [Act.put, List.setIfInBounds_toArray, List.set_cons_zero, List.set_cons_succ]
    refine wpAnyH_take (i := 48) (v := ?_) rfl (by kernel_rfl) (by kernel_rfl) (by kernel_rfl) (fun _ _ _ h => h) (Or.inl ⟨by rfl, ?_⟩) hHeld ?_
    rotate_left 1
    · intro w9 hSw; obtain ⟨s0, ⟨g0, g1, g2, g3, g4, g5, g6, g7⟩, ⟨⟨h0, h1, h2, h3, h4, h5, h6, h7⟩, h8, h9⟩, ⟨k0, k1, k2, k3, k4, k5, k6, k7, k8, k9⟩⟩ := hSw; go_simp; try with_reducible rfl
    change wpAnyH _ _ _ _ _ _ _ (Act.put _ (some 88) _) _
    simp only [Act.put, List.setIfInBounds_toArray, List.set_cons_zero, List.set_cons_succ]
    refine wpAnyH_take (i := 49) (v := ?_) rfl (by kernel_rfl) (by kernel_rfl) (by kernel_rfl) (fun _ _ _ h => h) (Or.inl ⟨by rfl, ?_⟩) hHeld ?_
    rotate_left 1
    · intro w9 hSw; obtain ⟨s0, ⟨g0, g1, g2, g3, g4, g5, g6, g7⟩, ⟨⟨h0, h1, h2, h3, h4, h5, h6, h7⟩, h8, h9⟩, ⟨k0, k1, k2, k3, k4, k5, k6, k7, k8, k9⟩⟩ := hSw; go_simp; try with_reducible rfl
    change wpAnyH _ _ _ _ _ _ _ (Act.put _ (some 89) _) _
    simp only [Act.put, List.setIfInBounds_toArray, List.set_cons_zero, List.set_cons_succ]
    refine wpAnyH_ready (rs := [50]) (by kernel_rfl) (by simp) ?_
    refine AllReadyH.cons rfl (fun K9 hK => ?_) AllReadyH.nil
    go_simp
    refine (HS10.out _ _ y.l _ (HT3.out _ Dv4.out).2 (HT2.out _ (HB5w.out _ Dv4.out)).2 HMi.out.2).mono ?_
    rintro e v5 ⟨rfl, hb⟩
    have Dv5 : Hid (Below w5.heap.size w5 v5) := Dv4.out.trans (hb.mono Dv4.out.size)
    clear hb
    go_simp
    refine hK.out _ _ (HS.out _ Dv5.out) (fun hHeld => ?_)
    clear hK K9
    refine wpAnyH_take (i := 51) (v := ?_) rfl (by kernel_rfl) (by kernel_rfl) (by kernel_rfl) (fun _ _ _ h => h) (Or.inl ⟨by rfl, ?_⟩) hHeld ?_
    rotate_left 1
    · intro w9 hSw; obtain ⟨s0, ⟨g0, g1, g2, g3, g4, g5, g6, g7⟩, ⟨⟨h0, h1, h2, h3, h4, h5, h6, h7⟩, h8, h9⟩, ⟨k0, k1, k2, k3, k4, k5, k6, k7, k8, k9⟩⟩ := hSw; go_simp; try with_reducible rfl
    change wpAnyH _ _ _ _ _ _ _ (Act.put _ (some 91) _) _
    simp only [Act.put, List.setIfInBounds_toArray, List.set_cons_zero, List.set_cons_succ]
    refine wpAnyH_take (i := 52) (v := ?_) rfl (by kernel_rfl) (by kernel_rfl) (by kernel_rfl) (fun _ _ _ h => h) (Or.inl ⟨by rfl, ?_⟩) hHeld ?_
    rotate_left 1
    · intro w9 hSw; obtain ⟨s0, ⟨g0, g1, g2, g3, g4, g5, g6, g7⟩, ⟨⟨h0, h1, h2, h3, h4, h5, h6, h7⟩, h8, h9⟩, ⟨k0, k1, k2, k3, k4, k5, k6, k7, k8, k9⟩⟩ := hSw; go_simp; try with_reducible rfl
    change wpAnyH _ _ _ _ _ _ _ (Act.put _ (some 92) _) _
    simp only [Act.put, List.setIfInBounds_toArray, List.set_cons_zero, List.set_cons_succ]
    refine wpAnyH_done (by kernel_rfl) ?_ _
    have HEnd : Hid (Below w2.heap.size w2 v5) := HRE.out.trans (Dv5.out.mono HRE.out.size)
    clear hHeld HS HC1 HC2 HC3 HT1 HT2 HT3 HRf HSm HS10 Dv1 Dv2 Dv3 Dv4 Dv5 HDk
    go_wp2
    go_roundw
    case rel => exact ⟨i + 1, HR1.out, by simp, HEnd.out⟩
    case measure => simp [intOf]; omega
end Go.Proofs.YtlndgepoekllkaaGreatDoor
